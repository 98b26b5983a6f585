/-
  forward: kind.
  KEEP: same mono trans css pm below rd lt bel wa kd len all fin
-/
import Derived.Test.YtjajafeaengnjaaGreatDoorJFwK
import Derived.Test.YtjajafeaengnjaaGreatDoorJRpF
set_option linter.unusedSimpArgs false
set_option linter.unusedVariables false
namespace Go.Proofs.YtjajafeaengnjaaGreatDoor
open Go Go.RowKit
/-- one and the same set of clauses -/
def SameC (a b : List (List Int)) : Prop := (∀ c ∈ a, ∃ d ∈ b, ∀ x, x ∈ c ↔ x ∈ d) ∧ (∀ c ∈ b, ∃ d ∈ a, ∀ x, x ∈ c ↔ x ∈ d)
theorem SameC.symm {a b : List (List Int)} (h : SameC a b) : SameC b a := ⟨h.2, h.1⟩
theorem SameC.trans {a b c : List (List Int)} (h : SameC a b) (k : SameC b c) : SameC a c := by
  refine ⟨fun x hx => ?_, fun x hx => ?_⟩
  · obtain ⟨y, hy, e⟩ := h.1 x hx
    obtain ⟨z, hz, f⟩ := k.1 y hy
    exact ⟨z, hz, fun q => (e q).trans (f q)⟩
  · obtain ⟨y, hy, e⟩ := k.2 x hx
    obtain ⟨z, hz, f⟩ := h.2 y hy
    exact ⟨z, hz, fun q => (e q).trans (f q)⟩
theorem SameC.of_pm {a b : Fcl} (h : Fpm a b) : SameC (cssOf a) (cssOf b) := ⟨h.css, h.symm.css⟩
theorem Cla.same {a b : List (List Int)} (h : SameC a b) {L L' : List Int} (hl : ∀ x, x ∈ L ↔ x ∈ L') : Cla a L ↔ Cla b L' :=
  ⟨fun k => k.mono h.1 fun x hx => .fact ((hl x).1 hx), fun k => k.mono h.2 fun x hx => .fact ((hl x).2 hx)⟩
theorem mem_opps {c : List Int} {x : Int} : x ∈ opp c ↔ -x ∈ c := mem_opp
theorem folB_same {a b : List (List Int)} (h : SameC a b) (c : List Int) : folB a c = folB b c := claB_congr (Cla.same h fun _ => Iff.rfl)
theorem parB_same {a b : List (List Int)} (h : SameC a b) (L : List Int) (p : Int) : parB a L p a = parB b L p b := by
  have go : ∀ {a b : List (List Int)}, SameC a b → parB a L p a = true → parB b L p b = true := fun {a b} h ha => by
    unfold parB at ha ⊢
    rw [List.all_eq_true] at ha ⊢
    intro d hd
    obtain ⟨e, he, hx⟩ := h.2 d hd
    have := ha e he
    rw [Bool.or_eq_true] at this ⊢
    rcases this with k | k
    · refine .inl ?_
      simp only [Bool.not_eq_true', decide_eq_false_iff_not] at k ⊢
      rw [hx]; exact k
    · refine .inr (claB_of ((Cla.same h fun x => ?_).1 (claB_true.1 k)))
      rw [List.mem_append, List.mem_append, mem_opp, mem_opp, mem_rst, mem_rst, hx]
  rw [Bool.eq_iff_iff]
  exact ⟨go h, go h.symm⟩
theorem safB_same {a b : List (List Int)} (h : SameC a b) : ∀ c, safB a c = safB b c
  | [] => rfl
  | p :: r => parB_same h _ p
theorem kndI_same {a b : List (List Int)} (h : SameC a b) (c : List Int) : kndI a c = kndI b c := by
  unfold kndI; rw [folB_same h, safB_same h]
theorem lsum_css : ∀ cl : Fcl, lsum (cssOf cl) = (cl.map fun x => x.1.length).sum
  | [] => rfl
  | x :: r => by
    have ih := lsum_css r
    unfold cssOf at ih ⊢
    rw [List.map_cons, List.map_cons, List.sum_cons, ← ih]
    by_cases e : x.1 = []
    · simp [List.filter_cons, e]
    · simp [List.filter_cons, e, lsum]
theorem lens_pm {a b : Fcl} (h : Fpm a b) : (b.map fun x => x.1.length) = (a.map fun x => x.1.length) := by
  refine List.ext_getElem (by simp [h.1]) fun i h1 h2 => ?_
  have hb : i < b.length := by simpa using h1
  have ha : i < a.length := by simpa using h2
  have := (h.2 i).length_eq
  unfold lts at this
  rw [List.getD_eq_getElem?_getD, List.getD_eq_getElem?_getD, List.getElem?_eq_getElem hb, List.getElem?_eq_getElem ha] at this
  simpa using this
theorem css_len (cl : Fcl) : (cssOf cl).length ≤ cl.length := by
  unfold cssOf; exact Nat.le_trans (List.length_filter_le _ _) (by simp)
theorem Few.fwd {cl cl' : Fcl} (hp : Fpm cl cl') (hcl : cl.length ≤ 1073741824) (hs : lsum (cssOf cl) ≤ 1073741824) : Few (cssOf cl') :=
  Few.of (Nat.le_trans (css_len cl') (by rw [hp.1]; exact hcl)) (by rw [lsum_css, lens_pm hp, ← lsum_css]; exact hs)
theorem frm_css {n : Nat} {cl : Fcl} {lk : List (Nat × Nat)} {fs : List Nat} {ch : Nat → List Nat} (h : Wa n cl lk fs ch) : frm 1048576 (cssOf cl) = true := by
  unfold frm
  rw [Bool.and_eq_true]
  refine ⟨by decide, List.all_eq_true.2 fun c hc => ?_⟩
  unfold fitsP
  refine List.all_eq_true.2 fun l hl => ?_
  have hf := (h.css hc l hl).1
  rw [Bool.and_eq_true]
  refine ⟨hf, decide_eq_true ?_⟩
  exact (idx_var hf).2.2
theorem lts_len {n : Nat} {cl : Fcl} {lk : List (Nat × Nat)} {fs : List Nat} {ch : Nat → List Nat} (h : Wa n cl lk fs ch) (k : Nat) : (lts cl k).length ≤ 2097152 := by
  have e := nodup_len6 (h.nd k) (((tid_rising (lts cl k)).imp fun hlt e => by rw [e] at hlt; exact absurd hlt (Int.lt_irrefl _)) : (tid (lts cl k)).Nodup) fun x => by rw [mem_tid]; exact ⟨fun hx => ⟨hx, (h.lit k x hx).1⟩, fun hx => hx.1⟩
  rw [e]; exact tid_len _
/-- what kind leaves -/
def KiS (B b : Nat) (s : Sf) (V : List Value) (un : List Nat) (cl : Fcl) (n : Nat) (R c : List Int) (w w' : World) : Prop :=
  ∃ u cl', Fre B w' b { s with R := u } V un cl' n R ∧ Fpm cl cl' ∧ Mo w (s.own V b) w' (({ s with R := u } : Sf).own V b)
section
variable {B b : Nat} {s : Sf} {V : List Value} {cl : Fcl} {un : List Nat} {R c : List Int} {n : Nat}
set_option maxRecDepth 100000 in
set_option maxHeartbeats 1600000 in
theorem fKind_any (w0 w : World) (vc : Value) (hB : B = w0.heap.size) (hb : Below w0.heap.size w0 w) (hr : Rd w0 vc c) (hs : c.all fmd = true) (h : Fre B w b s V un cl n R) (hcl : cl.length ≤ 1073741824) (hsum : lsum (cssOf cl) ≤ 1073741824) (hD : Deb w0) :
    Calls Tryz.prog 53 #[.pointer (some ⟨b, 0, none⟩), vc] w fun e w' => e = .returned (.int .i64 (kndI (cssOf cl) c)) ∧ KiS B b s V un cl n R c w w' := by
  have HFo : Hid (Calls Tryz.prog 71 #[.pointer (some ⟨b, 1, none⟩), vc] w fun e w' => FoP B b s V un cl n R c w e w') := fFollows_any w0 w vc hB hb hr hs h hcl
  have hown : ∀ k, s.own V b k → w0.heap.size ≤ k := by
    obtain ⟨lk, fs, ch, hz, _⟩ := h
    exact fun k hk => by rw [← hB]; exact (hz.lt k hk).1
  have hc0 : ∃ x, w.cell? ⟨b, 0, none⟩ = some x := by
    obtain ⟨lk, fs, ch, hz, _⟩ := h
    exact ⟨s.M, hz.cell 0 _ rfl⟩
  have hi : ∀ x ∈ c, i64 x := fun x hx => by
    have := fmd_range (List.all_eq_true.1 hs x hx)
    unfold i64; omega
  have HF : Hid (∀ W r, FoS B b s V un cl n R c w W r → (r = folB (cssOf cl) c) ∧ KiS B b s V un cl n R c w W ∧ Below w0.heap.size w0 W) := fun W r hh => by
    refine ⟨?_, hh.2, ?_⟩
    · rw [Bool.eq_iff_iff, hh.1]; exact claB_true.symm
    · obtain ⟨u, cl', h1, h2, h3⟩ := hh.2
      exact Mo.bel hb hown h3
  have HS : Hid (∀ W, KiS B b s V un cl n R c w W → Below w0.heap.size w0 W → Calls Tryz.prog 73 #[.pointer (some ⟨b, 1, none⟩)] W fun e w' => ∃ u cl', e = .returned (.agg #[.int .i64 1048576, u]) ∧ Rds w' u (cssOf cl') ∧ Few (cssOf cl') ∧ shp 1048576 (cssOf cl') c = true ∧ safB (cssOf cl') c = safB (cssOf cl) c ∧ Below W.heap.size W w' ∧ Below w0.heap.size w0 w') := fun W hh hW => by
    obtain ⟨u, cl', ⟨lk, fs, ch, hz, hrs, hfr⟩, hp, hm⟩ := hh
    refine (fFormula_any W hz (by rw [hp.1]; exact hcl) (lts_len hrs.wa)).mono fun e w' hx => ?_
    obtain ⟨v, e1, e2, e3⟩ := hx
    exact ⟨v, cl', e1, e2, Few.fwd hp hcl hsum, by unfold shp; rw [frm_css hrs.wa, hs]; rfl, (safB_same (SameC.of_pm hp) c).symm, e3, Below.step hW e3⟩
  have HSa : Hid (∀ W u css, Rds W u css → Few css → Below w0.heap.size w0 W → Calls Tryz.prog 72 #[.agg #[.int .i64 1048576, u], vc] W fun e w' => e = .returned (.tuple #[.bool (shp 1048576 css c && safB css c), .int .i64 (shE (shp 1048576 css c))]) ∧ Below W.heap.size W w') := fun W u css h1 h2 h3 => safe_any 1048576 u vc css c W h1 (hr.below h3) hi h2 (hD.below h3)
  have HK : Hid (∀ W W', KiS B b s V un cl n R c w W → Below W.heap.size W W' → KiS B b s V un cl n R c w W') := fun W W' hh hW => by
    obtain ⟨u, cl', ⟨lk, fs, ch, hz, hrs, hfr⟩, hp, hm⟩ := hh
    exact ⟨u, cl', ⟨lk, fs, ch, hz.below hW, hrs, hfr⟩, hp, hm.trans (Mo.below hW)⟩
  obtain ⟨av, cv, rfl, v1, v2, hcell⟩ := hr.form
  clear hB hb hr hs h hcl hsum hD hown hi hcell v1 v2
  go_enter Tryz.func53, Tryz.ntmps53
  go_wp2_with (first
    | (go_at_call 71; refine HFo.out.mono ?_; rintro e w1 ⟨r, rfl, hh⟩; obtain ⟨hr1, hk1, hb1⟩ := HF.out w1 r hh; have H1 : Hid (r = folB (cssOf cl) c ∧ KiS B b s V un cl n R c w w1 ∧ Below w0.heap.size w0 w1) := ⟨hr1, hk1, hb1⟩; clear hh hr1 hk1 hb1; cases r)
    | (go_at_call 73; refine (HS.out _ H1.out.2.1 H1.out.2.2).mono ?_; rintro e w2 ⟨u, cl', rfl, g1, g2, g3, g4, g5, g6⟩; have H2 : Hid (Rds w2 u (cssOf cl') ∧ Few (cssOf cl') ∧ shp 1048576 (cssOf cl') c = true ∧ safB (cssOf cl') c = safB (cssOf cl) c ∧ Below w1.heap.size w1 w2 ∧ Below w0.heap.size w0 w2) := ⟨g1, g2, g3, g4, g5, g6⟩; clear g1 g2 g3 g4 g5 g6)
    | (go_at_call 72; refine (HSa.out _ u (cssOf cl') H2.out.1 H2.out.2.1 H2.out.2.2.2.2.2).mono ?_; rintro e w3 ⟨rfl, hb3⟩; rw [H2.out.2.2.1, H2.out.2.2.2.1, Bool.true_and]; have H3 : Hid (KiS B b s V un cl n R c w w3) := HK.out _ _ (HK.out _ _ H1.out.2.1 H2.out.2.2.2.2.1) hb3; clear hb3; cases hsf : safB (cssOf cl) c))
  all_goals
    go_ret
    first
    | exact ⟨by rw [show kndI (cssOf cl) c = 2 from by unfold kndI; rw [← H1.out.1, hsf]; rfl]; rfl, H3.out⟩
    | exact ⟨by rw [show kndI (cssOf cl) c = 0 from by unfold kndI; rw [← H1.out.1, hsf]; rfl]; rfl, H3.out⟩
    | exact ⟨by rw [show kndI (cssOf cl) c = 1 from by unfold kndI; rw [← H1.out.1]; rfl]; rfl, H1.out.2.1⟩
end
end Go.Proofs.YtjajafeaengnjaaGreatDoor
