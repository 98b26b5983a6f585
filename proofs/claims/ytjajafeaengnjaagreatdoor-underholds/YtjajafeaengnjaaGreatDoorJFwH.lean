/-
  joined: FwH FwT FwV
-/
import Derived.Test.YtjajafeaengnjaaGreatDoorJUnR
import Derived.Test.YtjajafeaengnjaaGreatDoorQuietW
import Derived.Test.YtjajafeaengnjaaGreatDoorJTidy
set_option linter.unusedSimpArgs false
set_option linter.unusedVariables false
namespace Go.Proofs.YtjajafeaengnjaaGreatDoor
open Go Go.RowKit

/-- where the searches go on, they are small numbers -/
def Frs (cl : Fcl) : Prop := ∀ k, (cl.getD k ([], 0)).2 ≤ 4194304
theorem Frs.set {cl : Fcl} (h : Frs cl) {k fr : Nat} {c : List Int} (hf : fr ≤ 4194304) : Frs (cl.set k (c, fr)) := fun j => by
  rw [List.getD_eq_getElem?_getD, List.getElem?_set]
  split
  · split
    · exact hf
    · exact Nat.zero_le _
  · have := h j; rwa [List.getD_eq_getElem?_getD] at this
section
variable {n : Nat} {cl0 cl : Fcl} {lk : List (Nat × Nat)} {fs : List Nat} {ch : Nat → List Nat} {R0 R : List Int} {td : Nat} {T : List Int} {i : Nat} {X Y : List Nat}
theorem lts_from (cl : Fcl) (k fr j : Nat) : lts (cl.set k (lts cl k, fr)) j = lts cl j := by
  by_cases hk : k < cl.length
  · rw [lts_setl hk]; split
    · rename_i e; rw [e]
    · rfl
  · rw [List.set_eq_of_length_le (by omega)]
theorem Wa.fr (h : Wa n cl lk fs ch) (k fr : Nat) : Wa n (cl.set k (lts cl k, fr)) lk fs ch :=
  ⟨h.c, by rw [List.length_set]; exact h.two, fun i a => by rw [lts_from]; exact h.mem i a, fun j => by rw [lts_from]; exact h.lit j, fun j => by rw [lts_from]; exact h.nd j, by rw [lts_from]; exact h.zero, h.ev, h.hn⟩
theorem Tl.fr (h : Tl n cl0 cl lk fs ch R0 R td T i X Y) (k fr : Nat) : Tl n cl0 (cl.set k (lts cl k, fr)) lk fs ch R0 R td T i X Y := by
  have e : ∀ j, lts (cl.set k (lts cl k, fr)) j = lts cl j := lts_from cl k fr
  exact ⟨h.wa.fr k fr, h.pm.trans ⟨by rw [List.length_set], fun j => by rw [e]⟩, h.rk, h.pre, h.tl, h.hi, h.ec, fun j hj => by rw [e] at hj ⊢; exact h.qt j hj, fun j hj => by rw [e] at hj ⊢; exact h.qb j hj, h.tt, h.der⟩
end
section
variable {n : Nat} {cl0 cl : Fcl} {lk : List (Nat × Nat)} {fs : List Nat} {ch : Nat → List Nat} {R0 R : List Int} {td : Nat} {T : List Int} {i : Nat} {X Y : List Nat}
theorem Cn.hlt (h : Cn n lk fs ch) (hp : 0 < lk.length) (j : Nat) : (ch j).headD 0 < lk.length := by
  by_cases e : (ch j).headD 0 = 0
  · omega
  · exact (h.sg j).lt _ (headD_mem e)
/-- what strike and enlist ask for -/
theorem Tl.asks {a p : Nat} (h : Tl n cl0 cl lk fs ch R0 R td T i X (a :: Y)) (hp2 : 2 ≤ p) (hp : p < (lts cl (a / 2)).length) :
    ∃ x y j f : Nat, lk[a]? = some (x, y) ∧ x < lk.length ∧ y < lk.length ∧ idx ((lts cl (a / 2)).getD (a % 2) 0) = (i : Int) ∧ fmd ((lts cl (a / 2)).getD p 0) = true ∧ idx ((lts cl (a / 2)).getD p 0) = (j : Int) ∧ j < n ∧ f = (ch j).headD 0 ∧ (skF lk fs a i)[j]? = some f ∧ f < lk.length := by
  obtain ⟨l1, l2, l3, l4, l5, l6, l7⟩ := h.wa.link (i := i) (a := a) (by rw [h.ec]; simp)
  have hpos : 0 < lk.length := by omega
  have hnx := (h.wa.c.at' h.ec)
  have hpm : (lts cl (a / 2)).getD p 0 ∈ lts cl (a / 2) := getD_mem0 hp
  have hpl := h.wa.lit _ _ hpm
  obtain ⟨j, hj⟩ : ∃ j : Nat, idx ((lts cl (a / 2)).getD p 0) = (j : Int) := ⟨(idx ((lts cl (a / 2)).getD p 0)).toNat, by have := idx_range hpl.1; omega⟩
  have hij : j ≠ i := fun e1 => by
    subst e1
    have := idx_inj hpl.1 (h.wa.lit _ _ l7).1 (by rw [hj, l2])
    have := getD_inj0 (h.wa.nd (a / 2)) hp (by omega) this
    omega
  have c1 := h.wa.c.strike l3 h.ec
  have hs := (h.wa.c.sg i).lt
  rw [h.ec] at hs
  refine ⟨Y.headD 0, X.getLastD 0, j, (ch j).headD 0, hnx.1, ?_, ?_, l2, hpl.1, hj, by have := hpl.2; omega, rfl, ?_, h.wa.c.hlt hpos j⟩
  · by_cases e : Y.headD 0 = 0
    · omega
    · exact hs _ (List.mem_append.2 (.inr (List.mem_cons_of_mem _ (headD_mem e))))
  · by_cases e : X.getLastD 0 = 0
    · omega
    · exact hs _ (List.mem_append.2 (.inl (lastD_mem e)))
  · have := c1.hd j (by have := hpl.2; omega)
    rw [fupd_ne _ _ hij] at this
    exact this
theorem getD_set2 {cl : Fcl} {k fr : Nat} {c : List Int} (hk : k < cl.length) : ((cl.set k (c, fr)).getD k ([], 0)).2 = fr := by
  rw [List.getD_eq_getElem?_getD, List.getElem?_set_self hk]; rfl
end
/-- what hear leaves -/
def HeS (B b : Nat) (s : Sf) (V : List Value) (un : List Nat) (n : Nat) (cl0 : Fcl) (R0 : List Int) (td : Nat) (T : List Int) (i : Nat) (Y : List Nat) (w w' : World) (ok : Bool) : Prop :=
  ∃ u cl lk fs ch R X, Fwz B w' b { s with R := u } V cl un lk fs (inLs n R) R td ∧ Mo w (s.own V b) w' (({ s with R := u } : Sf).own V b) ∧ Frs cl ∧ cl.length = cl0.length ∧
    Frk n R ∧ ((ok = true ∧ Tl n cl0 cl lk fs ch R0 R td T i X Y) ∨ (ok = false ∧ Cla (cssOf cl0) R0 ∧ Fbk n cl0 cl lk fs ch T ∧ R0 <+: R))
section
variable {B b : Nat} {s : Sf} {V : List Value} {cl0 cl : Fcl} {un : List Nat} {lk : List (Nat × Nat)} {fs : List Nat} {ch : Nat → List Nat} {R0 R T : List Int} {td n i a : Nat} {X Y : List Nat}
set_option maxHeartbeats 1600000 in
theorem fHear_any (w : World) (hz : Fwz B w b s V cl un lk fs (inLs n R) R td) (ht : Tl n cl0 cl lk fs ch R0 R td T i X (a :: Y)) (hfr : Frs cl) (hc31 : cl.length ≤ 1073741824) (hB : B ≤ w.heap.size) :
    Calls Tryz.prog 81 #[.pointer (some ⟨b, 1, none⟩), .int .i32 (a : Int)] w fun e w' => ∃ ok, e = .returned (.bool ok) ∧ HeS B b s V un n cl0 R0 td T i Y w w' ok := by
  obtain ⟨l1, l2, l3, l4, l5, l6⟩ := ht.at'
  have htw := ht.wa.two
  have hcl0 := ht.pm.1
  have hLb : (lts cl (a / 2)).length ≤ 2097152 := lits_few (ht.wa.nd (a / 2)) fun x hx => (ht.wa.lit (a / 2) x hx).1
  have hlen := ht.wa.c.len
  have hRl := ht.rk.len
  have hev := ht.wa.ev
  have hnn := ht.wa.hn
  have hm1 : (lts cl (a / 2)).getD (1 - a % 2) 0 ∈ lts cl (a / 2) := getD_mem0 (by omega)
  have ho1 := ht.wa.lit _ _ hm1
  obtain ⟨gC, cC, eC, j1, j2, j3⟩ := row_some hz.c (by omega)
  obtain ⟨g2, cp2, ev, m1, m2, m3⟩ := row_some (hz.v (a / 2)) (by omega)
  have b2 := hz.c2
  have rC := hz.c
  rw [eC] at b2 rC
  have kC0 := row_cell rC (clz_at hz.vl l4).1
  rw [ev] at kC0
  have rV := hz.v (a / 2)
  rw [ev] at rV
  have kV := row_cell rV (j := 1 - a % 2) (x := .int .i64 ((lts cl (a / 2)).getD (1 - a % 2) 0)) (by unfold i64s; rw [List.getElem?_map, List.getD_eq_getElem?_getD, List.getElem?_eq_getElem (by omega)]; rfl)
  have hq1 : (a : Int).tdiv 2 = ((a / 2 : Nat) : Int) := by rw [Int.tdiv_eq_ediv_of_nonneg (by omega)]; rfl
  have hq2 : (a : Int).tmod 2 = ((a % 2 : Nat) : Int) := by rw [Int.tmod_eq_emod_of_nonneg (by omega)]; rfl
  have HT : Hid (Tl n cl0 cl lk fs ch R0 R td T i X (a :: Y)) := ht
  have HZ : Hid (Fwz B w b s V cl un lk fs (inLs n R) R td) := hz
  have HFr : Hid (Frs cl ∧ cl.length ≤ 1073741824 ∧ B ≤ w.heap.size ∧ cl0.length = cl.length ∧ lk.length = 2 * cl.length) := ⟨hfr, hc31, hB, hcl0.symm, htw⟩
  have HEC : Hid (s.C = .slice (some ⟨gC, 0, none⟩) cl.length cC ∧ V.getD (a / 2) nilS = .slice (some ⟨g2, 0, none⟩) (lts cl (a / 2)).length cp2) := ⟨eC, ev⟩
  have HA : Hid (2 ≤ (lts cl (a / 2)).length ∧ a / 2 < cl.length ∧ a < lk.length ∧ (lts cl (a / 2)).length ≤ 2097152 ∧ fs.length = n ∧ R.length ≤ 2097152 ∧ n % 2 = 0 ∧ n ≤ 2097152 ∧ i < n) := ⟨l1, l4, l6, hLb, hlen, hRl, hev, hnn, l3⟩
  have HO : Hid (fmd ((lts cl (a / 2)).getD (1 - a % 2) 0) = true ∧ idx ((lts cl (a / 2)).getD (1 - a % 2) 0) < n) := ho1
  have HTr : Hid (∀ W, Fwz B W b s V cl un lk fs (inLs n R) R td → Calls Tryz.prog 80 #[.pointer (some ⟨b, 1, none⟩), .int .i64 ((lts cl (a / 2)).getD (1 - a % 2) 0)] W fun e w' => e = .returned (.bool (decide ((lts cl (a / 2)).getD (1 - a % 2) 0 ∈ R))) ∧ Below W.heap.size W w') := fun W hW => fTrue_any _ W hW ho1.1 ho1.2
  have HEl : Hid (∀ W, Fwz B W b s V cl un lk fs (inLs n R) R td → Calls Tryz.prog 100 #[.pointer (some ⟨b, 1, none⟩), .pointer (some ⟨gC, a / 2 * 2, none⟩)] W fun e w' => ∃ p : Nat, e = .returned (.int .i64 (p : Int)) ∧ ElS B b s V cl un lk fs (inLs n R) R td (a / 2) p W w') := fun W hW => fElse_any (a / 2) gC cC W hW eC l4 l1 hLb (ht.wa.lit _) hev (hfr _)
  have ha31 : a < 2147483648 := by omega
  have hke : a = 2 * (a / 2) + a % 2 := by omega
  have he2 : a % 2 < 2 := Nat.mod_lt _ (by omega)
  have HKe : Hid (a = 2 * (a / 2) + a % 2 ∧ a % 2 < 2) := ⟨hke, he2⟩
  clear hz ht hfr hc31 hB rC rV eC ev ho1 hm1 hcl0 htw hLb hlen hRl hev hnn l2 l3 l6 hke
  obtain ⟨o, hO⟩ : ∃ o, (lts cl (a / 2)).getD (1 - a % 2) 0 = o := ⟨_, rfl⟩
  rw [hO] at kV
  have HOo : Hid ((lts cl (a / 2)).getD (1 - a % 2) 0 = o) := hO
  rw [hO] at HTr HO
  clear hO
  obtain ⟨k, hk⟩ : ∃ k, a / 2 = k := ⟨_, rfl⟩
  obtain ⟨e, he⟩ : ∃ e, a % 2 = e := ⟨_, rfl⟩
  rw [he] at hq2 he2 kV
  rw [hk] at hq1 kC0 l1 l4 HEl m1
  have HK : Hid (a / 2 = k ∧ a % 2 = e) := ⟨hk, he⟩
  clear hk he
  obtain ⟨L, hL⟩ : ∃ L, (lts cl k).length = L := ⟨_, rfl⟩
  rw [hL] at l1 kC0 m1
  have HL : Hid ((lts cl k).length = L) := hL
  clear hL
  obtain ⟨N, hN⟩ : ∃ N, cl.length = N := ⟨_, rfl⟩
  rw [hN] at l4 j1 b2
  have HN : Hid (cl.length = N) := hN
  have hN31 : N ≤ 1073741824 := by rw [← hN]; exact HFr.out.2.1
  clear hN
  obtain ⟨e', hee⟩ : ∃ e' : Nat, 1 - e = e' := ⟨_, rfl⟩
  rw [hee] at kV
  have hee2 : e' < 2 := by omega
  have hs1 : (1 : Int) - (e : Int) = (e' : Int) := by omega
  have hwk : IntKind.i32.wrap (k : Int) = (k : Int) := by rw [wrap_i32']; omega
  have hwe : IntKind.i32.wrap (e : Int) = (e : Int) := by rw [wrap_i32']; omega
  have hwe' : IntKind.i32.wrap (e' : Int) = (e' : Int) := by rw [wrap_i32']; omega
  have hws : IntKind.i32.wrap ((1 : Int) - (e : Int)) = (e' : Int) := by rw [hs1]; exact hwe'
  have hel : e' < L := by omega
  clear hee
  by_cases hoR : o ∈ R
  · have HD : Hid (decide (o ∈ R) = true) := decide_eq_true hoR
    have HF : Hid (∀ W, Below w.heap.size w W → HeS B b s V un n cl0 R0 td T i Y w W true) := fun W hW => ⟨s.R, cl, lk, fs, ch, R, X ++ [a], HZ.out.below hW, Mo.below hW, HFr.out.1, HFr.out.2.2.2.1.symm, HT.out.rk, .inl ⟨rfl, HT.out.stay (by rw [HOo.out]; exact hoR)⟩⟩
    clear hoR
    go_enter Tryz.func81, Tryz.ntmps81
    go_wp2_with (go_at_call 80; refine (HTr.out _ HZ.out).mono ?_; rintro e w1 ⟨rfl, hb⟩; rw [HD.out]; have HB1 : Hid (Below w.heap.size w w1) := hb; clear hb)
    go_ret
    exact ⟨true, rfl, HF.out _ HB1.out⟩
  · have HD : Hid (decide (o ∈ R) = false) := decide_eq_false hoR
    have HoR : Hid (o ∉ R) := hoR
    clear hoR
    go_enter Tryz.func81, Tryz.ntmps81
    go_upto_region 5 with (go_at_call 80; refine (HTr.out _ HZ.out).mono ?_; rintro e w1 ⟨rfl, hb⟩; rw [HD.out]; have HB1 : Hid (Below w.heap.size w w1) := hb; clear hb)
    go_upto_region 6 with (go_at_call 100; refine (HEl.out _ (HZ.out.below HB1.out)).mono ?_; rintro e w2 ⟨p, rfl, hs⟩; have HS : Hid (ElS B b s V cl un lk fs (inLs n R) R td (a / 2) p w1 w2) := (by rw [HK.out.1]; exact hs); clear hs)
    obtain ⟨fr, hfr, hz2, hmo2, hels⟩ := HS.out
    have HZ2 : Hid (Fwz B w2 b s V (cl.set (a / 2) (lts cl (a / 2), fr)) un lk fs (inLs n R) R td ∧ Mo w (s.own V b) w2 (s.own V b) ∧ fr ≤ 4194304) := ⟨hz2, (Mo.below HB1.out).trans hmo2, hfr⟩
    clear hfr hz2 hmo2 HS
    rcases hels with ⟨hp0, hall⟩ | ⟨hp2, hpl, hnR⟩
    · subst hp0
      have HIf : Hid (Calls Tryz.prog 69 #[.pointer (some ⟨b, 1, none⟩), .int .i64 o] w2 fun e w' => e = .returned (.bool (decide (-o ∈ R))) ∧ Below w2.heap.size w2 w') := fFalse_any o w2 HZ2.out.1 HO.out.1 (idx_neg_lt HO.out.1 HA.out.2.2.2.2.2.2.1 HO.out.2)
      have HAl : Hid (∀ j, 2 ≤ j → j < (lts cl (a / 2)).length → -((lts cl (a / 2)).getD j 0) ∈ R) := hall
      have HFr2 : Hid (Frs (cl.set (a / 2) (lts cl (a / 2), fr)) ∧ (cl.set (a / 2) (lts cl (a / 2), fr)).length = cl0.length) := ⟨HFr.out.1.set HZ2.out.2.2, by rw [List.length_set]; exact HFr.out.2.2.2.1.symm⟩
      clear hall
      by_cases hn : -o ∈ R
      · have HDn : Hid (decide (-o ∈ R) = true) := decide_eq_true hn
        have HF : Hid (∀ W, Below w2.heap.size w2 W → HeS B b s V un n cl0 R0 td T i Y w W false) := fun W hW => ⟨s.R, _, lk, fs, ch, R, X, HZ2.out.1.below hW, HZ2.out.2.1.trans (Mo.below hW), HFr2.out.1, HFr2.out.2, HT.out.rk, .inr ⟨rfl, HT.out.cla HAl.out (by rw [HOo.out]; exact hn), (HT.out.fr _ _).bk, HT.out.pre⟩⟩
        clear hn
        go_wp2_with (go_at_call 69; refine HIf.out.mono ?_; rintro e w3 ⟨rfl, hb⟩; rw [HDn.out]; have HB3 : Hid (Below w2.heap.size w2 w3) := hb; clear hb)
        go_ret
        exact ⟨false, rfl, HF.out _ HB3.out⟩
      · have HDn : Hid (decide (-o ∈ R) = false) := decide_eq_false hn
        have HKn : Hid (∀ W, Below w2.heap.size w2 W → Calls Tryz.prog 67 #[.pointer (some ⟨b, 1, none⟩), .int .i64 o] W fun e w' => e = .returned (.tuple #[]) ∧ HeS B b s V un n cl0 R0 td T i Y w w' true) := fun W hW => (fKnow_any o W (HZ2.out.1.below hW) HO.out.1 HO.out.2 HA.out.2.2.2.2.2.2.2.1 (by have := HA.out.2.2.2.2.2.1; omega) (Nat.le_trans HFr.out.2.2.1 (Nat.le_trans HZ2.out.2.1.size hW.size))).mono fun e w' ⟨h1, u, h2, h3⟩ => by
          refine ⟨h1, ?_⟩
          have e1 : knw R o = R ++ [o] := if_neg HoR.out
          rw [e1] at h2
          have el := lts_from cl (a / 2) fr (a / 2)
          have h5 := (HT.out.fr (a / 2) fr).unit (by rw [el]; exact HAl.out) (by rw [el, HOo.out]; exact HoR.out) (by rw [el, HOo.out]; exact hn)
          rw [el, HOo.out] at h5
          exact ⟨u, _, lk, fs, ch, R ++ [o], X ++ [a], h2, (HZ2.out.2.1.trans (Mo.below hW)).trans h3, HFr2.out.1, HFr2.out.2, h5.rk, .inl ⟨rfl, h5⟩⟩
        clear hn
        go_wp2_with (first | (go_at_call 69; refine HIf.out.mono ?_; rintro e w3 ⟨rfl, hb⟩; rw [HDn.out]; have HB3 : Hid (Below w2.heap.size w2 w3) := hb; clear hb) | (go_at_call 67; refine (HKn.out _ HB3.out).mono ?_; rintro e w4 ⟨rfl, hh⟩; have HH : Hid (HeS B b s V un n cl0 R0 td T i Y w w4 true) := hh; clear hh))
        go_ret
        exact ⟨true, rfl, HH.out⟩
    · obtain ⟨x, y, j, f, q1, q2, q3, q4, q5, q6, q7, q8, q9, q10⟩ := HT.out.asks hp2 hpl
      have el := lts_from cl (a / 2) fr (a / 2)
      have hlen2 : (cl.set (a / 2) (lts cl (a / 2), fr)).length = cl.length := by rw [List.length_set]
      have HSk : Hid (Calls Tryz.prog 70 #[.pointer (some ⟨b, 1, none⟩), .int .i32 (a : Int)] w2 fun e w' => e = .returned (.tuple #[]) ∧ LkS B b s V (cl.set (a / 2) (lts cl (a / 2), fr)) un (skL lk a) (skF lk fs a i) (inLs n R) R td w2 w') := fStrike_any a i x y w2 HZ2.out.1 (by rw [el]; exact HA.out.1) (by rw [hlen2]; exact HFr.out.2.2.2.2) (by rw [hlen2]; exact HFr.out.2.1) HA.out.2.2.1 (by rw [el]; exact q4) (by rw [HA.out.2.2.2.2.1]; exact HA.out.2.2.2.2.2.2.2.2) q1 q2 q3 (by rw [HA.out.2.2.2.2.1]; exact HA.out.2.2.2.2.2.2.2.1)
      have HP : Hid (2 ≤ p ∧ p < (lts cl (a / 2)).length ∧ -((lts cl (a / 2)).getD p 0) ∉ R) := ⟨hp2, hpl, hnR⟩
      have hp0 : ¬ p = 0 := by omega
      have hp0' : 0 < p := by omega
      have HQ : Hid (fmd ((lts cl (a / 2)).getD p 0) = true ∧ idx ((lts cl (a / 2)).getD p 0) = (j : Int) ∧ j < n ∧ f = (ch j).headD 0 ∧ (skF lk fs a i)[j]? = some f ∧ f < lk.length) := ⟨q5, q6, q7, q8, q9, q10⟩
      clear hnR q1 q2 q3 q4 q5 q6 q7 q8 q9 q10 hpl hp2 el hlen2
      go_upto_region 8 with (go_at_call 70; refine HSk.out.mono ?_; rintro e w3 ⟨rfl, hh⟩; have HH : Hid (LkS B b s V (cl.set (a / 2) (lts cl (a / 2), fr)) un (skL lk a) (skF lk fs a i) (inLs n R) R td w2 w3) := hh; clear hh)
      have hz3 := HH.out.1
      have el := lts_from cl (a / 2) fr (a / 2)
      have hk4 : a / 2 < cl.length := HA.out.2.1
      have hk5 : a / 2 < (cl.set (a / 2) (lts cl (a / 2), fr)).length := by rw [List.length_set]; exact hk4
      have rC := hz3.c
      rw [HEC.out.1, List.length_set] at rC
      have kH := row_cell rC (clz_at hz3.vl hk5).1
      rw [HEC.out.2, HK.out.1, HL.out] at kH
      have rV := hz3.v (a / 2)
      rw [el, HEC.out.2] at rV
      obtain ⟨ze, hze⟩ : ∃ ze, (lts cl (a / 2)).getD (a % 2) 0 = ze := ⟨_, rfl⟩
      obtain ⟨zp, hzp⟩ : ∃ zp, (lts cl (a / 2)).getD p 0 = zp := ⟨_, rfl⟩
      have kE := row_cell rV (j := a % 2) (x := .int .i64 ze) (by unfold i64s; rw [← hze, List.getElem?_map, List.getD_eq_getElem?_getD, List.getElem?_eq_getElem (by have := HA.out.1; have := HKe.out.2; omega)]; rfl)
      have kP := row_cell rV (j := p) (x := .int .i64 zp) (by unfold i64s; rw [← hzp, List.getElem?_map, List.getD_eq_getElem?_getD, List.getElem?_eq_getElem HP.out.2.1]; rfl)
      have zE := row_fz rV (a % 2)
      have zP := row_fz rV p
      rw [HK.out.2] at kE zE
      have hgg : gC ≠ g2 := fun e1 => by
        have t1 := row_ty rC (k := gC) rfl
        have t2 := row_ty rV (k := g2) rfl
        rw [e1] at t1
        exact absurd (t1.unique t2) (by decide)
      have hpL : p < L := by have := HP.out.2.1; rw [HK.out.1, HL.out] at this; exact this
      have heL : e < L := by omega
      have H8 : Hid (∀ W, Below w3.heap.size w3 W → LkS B b s V (cl.set (a / 2) (mvd (lts cl (a / 2)) (a % 2) p, fr)) un (skL lk a) (skF lk fs a i) (inLs n R) R td w2 ((W.setCell ⟨g2, e, none⟩ (.int .i64 zp)).setCell ⟨g2, p, none⟩ (.int .i64 ze))) := fun W hW => by
        have q0 := hz3.below hW
        have e0 : V.getD (a / 2) nilS = .slice (some ⟨g2, 0, none⟩) (lts (cl.set (a / 2) (lts cl (a / 2), fr)) (a / 2)).length cp2 := by rw [el]; exact HEC.out.2
        have q1 := q0.setV e0 (j := e) (by rw [el, HK.out.1, HL.out]; exact heL) zp
        rw [getD_set2 hk4, el, List.set_set] at q1
        have e1 : lts (cl.set (a / 2) ((lts cl (a / 2)).set e zp, fr)) (a / 2) = (lts cl (a / 2)).set e zp := lts_set_self hk4
        have e2 : V.getD (a / 2) nilS = .slice (some ⟨g2, 0, none⟩) (lts (cl.set (a / 2) ((lts cl (a / 2)).set e zp, fr)) (a / 2)).length cp2 := by rw [e1, List.length_set]; exact HEC.out.2
        have q2 := q1.1.setV e2 (j := p) (by rw [e1, List.length_set]; exact HP.out.2.1) ze
        rw [getD_set2 hk4, e1, List.set_set] at q2
        have e3 : mvd (lts cl (a / 2)) (a % 2) p = ((lts cl (a / 2)).set e zp).set p ze := by unfold mvd; rw [hze, hzp, HK.out.2]
        rw [e3]
        exact ⟨q2.1, ((HH.out.2.trans (Mo.below hW)).trans q1.2).trans q2.2⟩
      have HZe : Hid ((lts cl (a / 2)).getD (a % 2) 0 = ze ∧ (lts cl (a / 2)).getD p 0 = zp) := ⟨hze, hzp⟩
      have hwp : IntKind.i64.wrap (p : Int) = (p : Int) := by have := HP.out.2.1; have := HA.out.2.2.2.1; rw [IntKind.wrap_i64]; omega
      clear hz3 rC rV hze hzp el hk5
      have HKp : Hid (∀ W : World, W.cell? ⟨gC, k * 2, none⟩ = some (.slice (some ⟨g2, 0, none⟩) L cp2) → ∀ (q : Nat) (x : Value), (W.setCell ⟨g2, q, none⟩ x).cell? ⟨gC, k * 2, none⟩ = some (.slice (some ⟨g2, 0, none⟩) L cp2)) := fun W h q x => by
        have := (grown_set W ⟨g2, q, none⟩ x).block gC (World.block_lt_of_cell? W _ h) (by simp; exact hgg)
        simpa [World.cell?, this] using h
      have hep : ¬ e = p := by have := HP.out.1; omega
      have hpe : ¬ p = e := by have := HP.out.1; omega
      have HH8 : Hid (∀ m : Nat, LkS B b s V (cl.set (a / 2) (mvd (lts cl (a / 2)) (a % 2) p, fr)) un (skL lk a) (skF lk fs a i) (inLs n R) R td w2 (((w3.drewN m).setCell ⟨g2, e, none⟩ (.int .i64 zp)).setCell ⟨g2, p, none⟩ (.int .i64 ze))) := fun m => H8.out _ (below_drewN _ _)
      refine region_rw_at 26 10 (by kernel_rfl) (by kernel_rfl) (by kernel_rfl) (by kernel_rfl) rfl rfl (by kernel_rfl) rfl (by kernel_rfl) (by kernel_rfl) (fun _ _ _ _ h => h) ?_
      simp only [List.take, List.drop]
      repeat (go_big_quiet_step (fail))
      refine wpQuiet_nil ?_
      intro w9 hw9
      obtain ⟨nq, hw9⟩ := hw9
      subst hw9
      have q9 := HH8.out nq
      have z9 : (w3.drewN nq).frozen? ⟨g2, e, none⟩ = false := zE
      have y9 : (w3.drewN nq).cell? ⟨g2, e, none⟩ = some (.int .i64 ze) := kE
      have z8 : ((w3.drewN nq).setCell ⟨g2, e, none⟩ (.int .i64 zp)).frozen? ⟨g2, p, none⟩ = false := (by simpa [World.frozen?_setCell] using zP)
      have HQ9 : Hid (LkS B b s V (cl.set (a / 2) (mvd (lts cl (a / 2)) (a % 2) p, fr)) un (skL lk a) (skF lk fs a i) (inLs n R) R td w2 (((w3.drewN nq).setCell ⟨g2, e, none⟩ (.int .i64 zp)).setCell ⟨g2, p, none⟩ (.int .i64 ze))) := q9
      clear q9
      have HEn : Hid (∀ W, LkS B b s V (cl.set (a / 2) (mvd (lts cl (a / 2)) (a % 2) p, fr)) un (skL lk a) (skF lk fs a i) (inLs n R) R td w2 W → Calls Tryz.prog 79 #[.pointer (some ⟨b, 1, none⟩), .int .i32 (a : Int)] W fun e w' => e = .returned (.tuple #[]) ∧ HeS B b s V un n cl0 R0 td T i Y w w' true) := fun W hW => by
        have el : lts (cl.set (a / 2) (mvd (lts cl (a / 2)) (a % 2) p, fr)) (a / 2) = mvd (lts cl (a / 2)) (a % 2) p := lts_set_self hk4
        have hl2 := HA.out.1
        have hke := HKe.out.2
        have eg : (lts (cl.set (a / 2) (mvd (lts cl (a / 2)) (a % 2) p, fr)) (a / 2)).getD (a % 2) 0 = (lts cl (a / 2)).getD p 0 := by rw [el]; exact mvd_e (by omega) (by have := HP.out.1; omega)
        refine (fEnlist_any a j f W hW.1 (by rw [el, mvd_len]; exact hl2) (by rw [skL_len, List.length_set]; exact HFr.out.2.2.2.2) (by rw [List.length_set]; exact HFr.out.2.1) (by rw [skL_len]; exact HA.out.2.2.1) (by rw [eg]; exact HQ.out.1) (by rw [eg]; exact HQ.out.2.1) HQ.out.2.2.2.2.1 (by rw [skL_len]; exact HQ.out.2.2.2.2.2) (by rw [skF_len, HA.out.2.2.2.2.1]; exact HA.out.2.2.2.2.2.2.2.1)).mono fun e w' h => ?_
        have hmv := HT.out.move (fr := fr) (j := j) HP.out.1 HP.out.2.1 HP.out.2.2 HQ.out.2.1
        rw [← HQ.out.2.2.2.1] at hmv
        exact ⟨h.1, s.R, _, _, _, _, R, X, h.2.1, (HZ2.out.2.1.trans hW.2).trans h.2.2, HFr.out.1.set HZ2.out.2.2, by rw [List.length_set]; exact HFr.out.2.2.2.1.symm, HT.out.rk, .inl ⟨rfl, hmv⟩⟩
      go_wp2_with (go_at_call 79; refine (HEn.out _ HQ9.out).mono ?_; rintro e w5 ⟨rfl, hh⟩; have HF5 : Hid (HeS B b s V un n cl0 R0 td T i Y w w5 true) := hh; clear hh)
      go_ret
      exact ⟨true, rfl, HF5.out⟩
end
end Go.Proofs.YtjajafeaengnjaaGreatDoor
set_option linter.unusedSimpArgs false
set_option linter.unusedVariables false
namespace Go.Proofs.YtjajafeaengnjaaGreatDoor
open Go Go.RowKit

/-- what tell leaves -/
def TeS (B b : Nat) (s : Sf) (V : List Value) (un : List Nat) (n : Nat) (cl0 : Fcl) (R0 T : List Int) (w w' : World) (ok : Bool) : Prop :=
  ∃ u cl lk fs ch R td, Fwz B w' b { s with R := u } V cl un lk fs (inLs n R) R td ∧ Mo w (s.own V b) w' (({ s with R := u } : Sf).own V b) ∧ Frs cl ∧ cl.length = cl0.length ∧ Frk n R ∧ R0 <+: R ∧
    ((ok = true ∧ To n cl0 cl lk fs ch R0 R td T ∧ R.length ≤ td) ∨ (ok = false ∧ Cla (cssOf cl0) R0 ∧ Fbk n cl0 cl lk fs ch T))
/-- between two literals -/
def TeO (B b : Nat) (s : Sf) (V : List Value) (un : List Nat) (n : Nat) (cl0 : Fcl) (R0 T : List Int) (w wx : World) (g : Nat) : Prop :=
  ∃ u cl lk fs ch R td, Fwz B wx b { s with R := u } V cl un lk fs (inLs n R) R td ∧ Mo w (s.own V b) wx (({ s with R := u } : Sf).own V b) ∧ Frs cl ∧ To n cl0 cl lk fs ch R0 R td T ∧ td + g = 2097153
/-- while one is told -/
def TeI (B b : Nat) (s : Sf) (V : List Value) (un : List Nat) (n : Nat) (cl0 : Fcl) (R0 T : List Int) (td i : Nat) (w wx : World) (h g : Nat) : Prop :=
  ∃ u cl lk fs ch R X Y, Fwz B wx b { s with R := u } V cl un lk fs (inLs n R) R td ∧ Mo w (s.own V b) wx (({ s with R := u } : Sf).own V b) ∧ Frs cl ∧ Tl n cl0 cl lk fs ch R0 R td T i X Y ∧ Y.headD 0 = h ∧ Y.length = g
section
variable {B b : Nat} {s : Sf} {V : List Value} {cl0 cl : Fcl} {un : List Nat} {lk : List (Nat × Nat)} {fs : List Nat} {ch : Nat → List Nat} {R0 R T : List Int} {td n : Nat}
set_option maxRecDepth 100000 in
set_option maxHeartbeats 1600000 in
theorem fTell_any (w : World) (hz : Fwz B w b s V cl un lk fs (inLs n R) R td) (ht : To n cl0 cl lk fs ch R0 R td T) (hfr : Frs cl) (hc31 : cl0.length ≤ 1073741824) (hB : B ≤ w.heap.size) :
    Calls Tryz.prog 68 #[.pointer (some ⟨b, 1, none⟩)] w fun e w' => ∃ ok, e = .returned (.bool ok) ∧ TeS B b s V un n cl0 R0 T w w' ok := by
  have HS0 : Hid (TeO B b s V un n cl0 R0 T w w (2097153 - td)) := ⟨s.R, cl, lk, fs, ch, R, td, hz, Mo.refl _ _, hfr, ht, by have := ht.tl; have := ht.rk.len; omega⟩
  have HCB : Hid (cl0.length ≤ 1073741824 ∧ B ≤ w.heap.size) := ⟨hc31, hB⟩
  clear hz ht hfr hc31 hB
  go_enter Tryz.func68, Tryz.ntmps68
  go_wp2_with fail
  go_loopg [] (2097153 - td) (fun g wx => TeO B b s V un n cl0 R0 T w wx g)
  case atStart => exact HS0.out
  case round =>
    obtain ⟨u, cl, lk, fs, ch, R, td, hz, hmo, hfr, ht, hg⟩ := hrel
    obtain ⟨aR, cR, eR⟩ := row_form' hz.r
    have eR : u = .slice aR R.length cR := eR
    subst eR
    have HZ : Hid (Fwz B wr b { s with R := .slice aR R.length cR } V cl un lk fs (inLs n R) R td) := hz
    have HMo : Hid (Mo w (s.own V b) wr (({ s with R := .slice aR R.length cR } : Sf).own V b)) := hmo
    have HFr : Hid (Frs cl) := hfr
    have HT : Hid (To n cl0 cl lk fs ch R0 R td T) := ht
    have HG : Hid (td + gk = 2097153) := hg
    have hRl := ht.rk.len
    have htl := ht.tl
    have c8 := hz.c8
    have c7 : wr.cell? ⟨b, 7, none⟩ = some (.slice aR R.length cR) := hz.c7
    have htd : td ≤ 4194304 := by omega
    by_cases hlt : td < R.length
    · have HMs : Hid (2097153 - (td + 1) < gk) := (by have h1 := HG.out; omega : 2097153 - (td + 1) < gk)
      obtain ⟨i, hin, hi, hTl⟩ := ht.tell hlt
      have HTl : Hid (Tl n cl0 cl lk fs ch R0 R td T i [] (ch i)) := hTl
      obtain ⟨gR, cR', eR', r1, r2, r3⟩ := row_some hz.r (by omega)
      have eR' : Value.slice aR R.length cR = .slice (some ⟨gR, 0, none⟩) R.length cR' := eR'
      injection eR' with e1 e2 e3
      subst e1 e3
      have rR : wr.ownsRow B 3 1 (.slice (some ⟨gR, 0, none⟩) R.length cR) R.length (i64s R) := hz.r
      have kR := row_cell rR (j := td) (x := .int .i64 (R.getD td 0)) (by unfold i64s; rw [List.getElem?_map, List.getD_eq_getElem?_getD, List.getElem?_eq_getElem hlt]; rfl)
      have hflen := ht.wa.c.len
      obtain ⟨gF, cF, eF, f1, f2, f3⟩ := row_some hz.f (by omega)
      have c5 := hz.c5
      have rF := hz.f
      rw [eF] at c5 rF
      have kF := row_cell rF (j := i) (x := .int .i32 (((ch i).headD 0 : Nat) : Int)) (by unfold i32s nats; rw [List.getElem?_map, List.getElem?_map, ht.wa.c.hd i hin]; rfl)
      have hfm := (ht.rk.f _ (getD_mem0 hlt)).1
      have hrg := fmd_range hfm
      obtain ⟨l, hl⟩ : ∃ l, R.getD td 0 = l := ⟨_, rfl⟩
      rw [hl] at kR hi hrg
      have hwl : wrap64 (-l) = -l := by unfold wrap64; omega
      have hwl' : IntKind.i64.wrap (-l) = -l := by rw [IntKind.wrap_i64]; omega
      have HX : Hid (∀ W : World, Calls Tryz.prog 60 #[.int .i64 (-l)] W fun e w' => e = .returned (.int .i64 (i : Int)) ∧ w' = W) := fun W => (index_any _ _).mono fun e w' h => ⟨by rw [h.1, hi], h.2⟩
      have HSt : Hid (∀ W, Below wr.heap.size wr W → TeI B b s V un n cl0 R0 T td i w W ((ch i).headD 0) (ch i).length) := fun W hW => ⟨_, cl, lk, fs, ch, R, [], ch i, HZ.out.below hW, HMo.out.trans (Mo.below hW), HFr.out, HTl.out, rfl, rfl⟩
      have hif : IntKind.i64.wrap (i : Int) = (i : Int) := by have := ht.wa.hn; rw [IntKind.wrap_i64]; omega
      rw [hflen] at c5 f1
      obtain ⟨h0, hh0⟩ : ∃ h0, (ch i).headD 0 = h0 := ⟨_, rfl⟩
      rw [hh0] at kF HSt
      clear hz hmo hfr ht hg hTl rR rF eF hfm hrg hl hh0 hi hflen htl hRl
      go_upto_region 1 with fail
      go_quiet (fail)
      have d7 : (wr.drewN nq).cell? ⟨b, 7, none⟩ = some (.slice (some ⟨gR, 0, none⟩) R.length cR) := c7
      have d8 : (wr.drewN nq).cell? ⟨b, 8, none⟩ = some (.int .i64 (td : Int)) := c8
      have d5 : (wr.drewN nq).cell? ⟨b, 5, none⟩ = some (.slice (some ⟨gF, 0, none⟩) n cF) := c5
      have dR : (wr.drewN nq).cell? ⟨gR, td, none⟩ = some (.int .i64 l) := kR
      have dF : (wr.drewN nq).cell? ⟨gF, i, none⟩ = some (.int .i32 (h0 : Int)) := kF
      have HB : Hid (Below wr.heap.size wr (wr.drewN nq)) := below_drewN _ _
      clear c7 c8 c5 kR kF
      generalize wr.drewN nq = wq at *
      go_upto_region 3 with fail
      go_quiet ((go_at_call 60; exact Calls.quiet_of_same (HX.out _)))
      have HB2 : Hid (Below wr.heap.size wr (wq.drewN nq)) := Below.step HB.out (below_drewN _ _)
      clear d7 d8 d5 dR dF
      generalize wq.drewN nq = w2 at *
      go_wp2_with fail
      go_loopg [3] (ch i).length (fun g at' wx => ∃ h : Nat, at' = .int .i32 (h : Int) ∧ TeI B b s V un n cl0 R0 T td i w wx h g)
      case atStart => exact ⟨h0, rfl, HSt.out _ HB2.out⟩
      case round =>
        obtain ⟨h, rfl, u, cl, lk, fs, ch, R, X, Y, hz, hmo, hfr, ht, hh, hY⟩ := hrel
        match Y, hh, hY, ht with
        | [], hh, hY, ht =>
          have hh : h = 0 := hh.symm
          subst hh
          have e8 := hz.c8
          have f8 := hz.fz 8
          have hset := hz.setT (td + 1)
          have HFin : Hid (TeO B b s V un n cl0 R0 T w (wr.setCell ⟨b, 8, none⟩ (.int .i64 ((td + 1 : Nat) : Int))) (2097153 - (td + 1))) := ⟨u, cl, lk, fs, ch, R, td + 1, hset.1, hmo.trans hset.2, hfr, ht.fin, by have := HG.out; have := ht.tl; have := ht.rk.len; omega⟩
          have htd2 : td < 2097152 := by have := ht.tl; have := ht.rk.len; omega
          clear hz hmo hfr ht hset hY
          have hw8 : wrap64 ((td : Int) + 1) = ((td + 1 : Nat) : Int) := by unfold wrap64; omega
          go_wp2
          go_roundg (2097153 - (td + 1))
          case measure => exact HMs.out
          case rel => exact HFin.out
        | a :: Y, hh, hY, ht =>
          have hh : h = a := hh.symm
          subst hh
          obtain ⟨l1, l2, l3, l4, l5, l6⟩ := ht.at'
          have hlk := ht.next
          have hcl : cl.length ≤ 1073741824 := by rw [ht.pm.1]; exact HCB.out.1
          have htw := ht.wa.two
          obtain ⟨gL, cL, eL, j1, j2, j3⟩ := row_some hz.l (by omega)
          have eL1 : s.L = .slice (some ⟨gL, 0, none⟩) lk.length cL := eL
          have e4 : wr.cell? ⟨b, 4, none⟩ = some s.L := hz.c4
          have rL : wr.ownsRow B 100 2 s.L lk.length (twp lk) := hz.l
          clear eL
          rw [eL1] at e4 rL
          have kL0 : wr.cell? ⟨gL, h * 2, none⟩ = some (.int .i32 ((Y.headD 0 : Nat) : Int)) := row_cell rL (twp_two hlk).1
          have hhl : h < lk.length := l6
          have HHe : Hid (Calls Tryz.prog 81 #[.pointer (some ⟨b, 1, none⟩), .int .i32 (h : Int)] wr fun e w' => ∃ ok, e = .returned (.bool ok) ∧ HeS B b { s with R := u } V un n cl0 R0 td T i Y wr w' ok) := fHear_any wr hz ht hfr hcl (Nat.le_trans HCB.out.2 hmo.size)
          have HM2 : Hid (Mo w (s.own V b) wr (({ s with R := u } : Sf).own V b)) := hmo
          have HY : Hid ((h :: Y).length = gk) := hY
          have hh0 : ((h : Int) == 0) = false := by simp; omega
          have hhf : IntKind.i64.wrap (h : Int) = (h : Int) := by rw [IntKind.wrap_i64]; omega
          obtain ⟨nx, hnx⟩ : ∃ nx, Y.headD 0 = nx := ⟨_, rfl⟩
          rw [hnx] at kL0
          have HNx : Hid (Y.headD 0 = nx) := hnx
          obtain ⟨LN, hLN⟩ : ∃ LN, lk.length = LN := ⟨_, rfl⟩
          rw [hLN] at e4 hhl j1
          clear hz hmo hfr ht hlk hY eL1 rL hnx l1 l2 l3 l4 l5 l6 htw hcl hLN
          go_wp2_with (go_at_call 81; refine HHe.out.mono ?_; rintro e w3 ⟨ok, rfl, hs⟩; have HS : Hid (HeS B b { s with R := u } V un n cl0 R0 td T i Y wr w3 ok) := hs; clear hs; cases ok)
          · obtain ⟨u3, cl3, lk3, fs3, ch3, R3, X3, a1, a2, a3, a4, a5, a6⟩ := HS.out
            have HE : Hid (TeS B b s V un n cl0 R0 T w w3 false) := (by
              rcases a6 with ⟨b1, _⟩ | ⟨_, b2, b3, b4⟩
              · cases b1
              · exact ⟨u3, cl3, lk3, fs3, ch3, R3, td, a1, HM2.out.trans a2, a3, a4, a5, b4, .inr ⟨rfl, b2, b3⟩⟩)
            clear a1 a2 a3 a4 a5 a6
            go_wp2
            go_ret
            exact ⟨false, rfl, HE.out⟩
          · obtain ⟨u3, cl3, lk3, fs3, ch3, R3, X3, a1, a2, a3, a4, a5, a6⟩ := HS.out
            have HE : Hid (TeI B b s V un n cl0 R0 T td i w w3 nx (gk - 1)) := (by
              rcases a6 with ⟨_, b2⟩ | ⟨b1, _⟩
              · exact ⟨u3, cl3, lk3, fs3, ch3, R3, X3, Y, a1, HM2.out.trans a2, a3, b2, HNx.out, by have := HY.out; simp at this; omega⟩
              · cases b1)
            have HG3 : Hid (gk - 1 < gk) := (by have := HY.out; simp at this; omega : gk - 1 < gk)
            clear a1 a2 a3 a4 a5 a6
            go_wp2
            go_roundg (gk - 1)
            case measure => exact HG3.out
            case rel => exact ⟨nx, rfl, HE.out⟩
    · have hdl : ¬ td < R.length := hlt
      have HE : Hid (∀ W, Below wr.heap.size wr W → TeS B b s V un n cl0 R0 T w W true) := fun W hW => ⟨_, cl, lk, fs, ch, R, td, HZ.out.below hW, HMo.out.trans (Mo.below hW), HFr.out, HT.out.pm.1, HT.out.rk, HT.out.pre, .inl ⟨rfl, HT.out, by omega⟩⟩
      clear hz hmo hfr ht hg hlt
      go_upto_region 1 with fail
      go_quiet (fail)
      have HB : Hid (Below wr.heap.size wr (wr.drewN nq)) := below_drewN _ _
      go_wp2
      go_ret
      exact Or.inr ⟨rfl, HE.out _ HB.out⟩
end
end Go.Proofs.YtjajafeaengnjaaGreatDoor
set_option linter.unusedSimpArgs false
set_option linter.unusedVariables false
namespace Go.Proofs.YtjajafeaengnjaaGreatDoor
open Go Go.RowKit

/-- the closing at rest, in memory -/
def Fre (B : Nat) (W : World) (b : Nat) (s : Sf) (V : List Value) (un : List Nat) (cl : Fcl) (n : Nat) (R : List Int) : Prop :=
  ∃ lk fs ch, Fwz B W b s V cl un lk fs (inLs n R) R R.length ∧ Rs n cl lk fs ch R ∧ Frs cl
/-- between two literals of the clause -/
structure Fvi (n : Nat) (R R' c : List Int) (j : Nat) : Prop where
  rk : Frk n R'
  pre : R <+: R'
  own : ∀ x ∈ R', x ∈ R ∨ -x ∈ c
  had : ∀ m, m < j → idx (c.getD m 0) < n → -(c.getD m 0) ∈ R'
theorem Fvi.skip {n : Nat} {R R' c : List Int} {j : Nat} (h : Fvi n R R' c j) (hi : ¬ idx (c.getD j 0) < n) : Fvi n R R' c (j + 1) := ⟨h.rk, h.pre, h.own, fun m hm hl => by
  by_cases e : m = j
  · subst e; exact absurd hl hi
  · exact h.had m (by omega) hl⟩
theorem Fvi.know {n : Nat} {R R' c : List Int} {j : Nat} (h : Fvi n R R' c j) (hj : j < c.length) (hf : fmd (c.getD j 0) = true) (hi : idx (-(c.getD j 0)) < n) (hn : c.getD j 0 ∉ R') : Fvi n R (knw R' (-(c.getD j 0))) c (j + 1) := by
  have hsub : ∀ x ∈ R', x ∈ knw R' (-(c.getD j 0)) := fun x hx => by unfold knw; split; exact hx; exact List.mem_append.2 (.inl hx)
  have hin : -(c.getD j 0) ∈ knw R' (-(c.getD j 0)) := by unfold knw; split; assumption; simp
  refine ⟨?_, ?_, fun x hx => ?_, fun m hm hl => ?_⟩
  · unfold knw; split
    · exact h.rk
    · rename_i hq; exact h.rk.put hq (by rw [Int.neg_neg]; exact hn) (fmd_neg hf) hi
  · unfold knw; split
    · exact h.pre
    · exact h.pre.trans (List.prefix_append _ _)
  · unfold knw at hx; split at hx
    · exact h.own x hx
    · rcases List.mem_append.1 hx with a | a
      · exact h.own x a
      · right; rw [show x = -(c.getD j 0) by simpa using a, Int.neg_neg]; exact getD_mem0 hj
  · by_cases e : m = j
    · subst e; exact hin
    · exact hsub _ (h.had m (by omega) hl)
/-- what follows leaves -/
def FoS (B b : Nat) (s : Sf) (V : List Value) (un : List Nat) (cl : Fcl) (n : Nat) (R c : List Int) (w w' : World) (r : Bool) : Prop :=
  (r = true ↔ Cla (cssOf cl) (opp c)) ∧ ∃ u cl', Fre B w' b { s with R := u } V un cl' n R ∧ Fpm cl cl' ∧ Mo w (s.own V b) w' (({ s with R := u } : Sf).own V b)
theorem taut_cla {css : List (List Int)} {c : List Int} {l : Int} (h1 : l ∈ c) (h2 : -l ∈ c) : Cla css (opp c) :=
  .inl ⟨l, .fact (mem_opp.2 h2), .fact (mem_opp.2 (by rw [Int.neg_neg]; exact h1))⟩
/-- the loop's state -/
def FvL (B b : Nat) (s : Sf) (V : List Value) (cl : Fcl) (un : List Nat) (lk : List (Nat × Nat)) (fs : List Nat) (n : Nat) (R c : List Int) (w wx : World) (j : Nat) : Prop :=
  ∃ u R', Fwz B wx b { s with R := u } V cl un lk fs (inLs n R') R' R.length ∧ Mo w (s.own V b) wx (({ s with R := u } : Sf).own V b) ∧ Fvi n R R' c j
def FoP (B b : Nat) (s : Sf) (V : List Value) (un : List Nat) (cl : Fcl) (n : Nat) (R c : List Int) (w : World) (e : Ending) (w' : World) : Prop := ∃ r, e = .returned (.bool r) ∧ FoS B b s V un cl n R c w w' r
section
variable {B b : Nat} {s : Sf} {V : List Value} {cl : Fcl} {un : List Nat} {R c : List Int} {n : Nat}
set_option maxRecDepth 100000 in
set_option maxHeartbeats 1600000 in
theorem fFollows_any (w0 w : World) (vc : Value) (hB : B = w0.heap.size) (hb : Below w0.heap.size w0 w) (hr : Rd w0 vc c) (hs : c.all fmd = true) (h : Fre B w b s V un cl n R) (hcl : cl.length ≤ 1073741824) :
    Calls Tryz.prog 71 #[.pointer (some ⟨b, 1, none⟩), vc] w fun e w' => FoP B b s V un cl n R c w e w' := by
  obtain ⟨lk, fs, ch, hz, hrs, hfr⟩ := h
  have hso : ∀ l ∈ c, fmd l = true := fun l hl => List.all_eq_true.1 hs l hl
  have hcl8 := hr.len
  have HTa : Hid (Calls Tryz.prog 83 #[vc] w fun e w' => e = .returned (.bool (adj (tid c))) ∧ Below w.heap.size w w') := taut_any vc c w (hr.below hb)
  have HC0 : Hid (c.length * 8 ≤ 140737488351232) := hcl8
  obtain ⟨av, cv, rfl, v1, v2, hcell⟩ := hr.form
  have c1 := hz.c1
  have hR0 := hrs.rk.len
  have HZ : Hid (Fwz B w b s V cl un lk fs (inLs n R) R R.length) := hz
  have HRs : Hid (Rs n cl lk fs ch R ∧ Frs cl ∧ cl.length ≤ 1073741824 ∧ (∀ l ∈ c, fmd l = true) ∧ n % 2 = 0 ∧ n ≤ 2097152) := ⟨hrs, hfr, hcl, hso, hrs.wa.ev, hrs.wa.hn⟩
  have HBw : Hid (∀ W P', Mo w (s.own V b) W P' → Below w0.heap.size w0 W) := fun W P' hm => Mo.bel hb (fun k hk => by rw [← hB]; exact (hz.lt k hk).1) hm
  have HBB : Hid (B ≤ w.heap.size) := by rw [hB]; exact hb.size
  have HCl : Hid (∀ W, Below w0.heap.size w0 W → ∀ k, k < c.length → ∃ bb off, av = some ⟨bb, off, none⟩ ∧ W.cell? ⟨bb, off + k, none⟩ = some (.int .i64 (c.getD k 0))) := fun W hW k hk => by
    obtain ⟨bb, off, e, hc⟩ := hcell k hk
    exact ⟨bb, off, e, (hW.cell (p := ⟨bb, off + k, none⟩) (World.block_lt_of_cell? w0 _ hc)).trans hc⟩
  cases hta : adj (tid c)
  · have hcon : Con c := (adj_con8 hs).1 hta
    have HCon : Hid (Con c) := hcon
    have HTb : Hid (adj (tid c) = false) := hta
    have HL0 : Hid (∀ W, Below w.heap.size w W → FvL B b s V cl un lk fs n R c w W 0) := fun W hW => ⟨s.R, R, HZ.out.below hW, Mo.below hW, HRs.out.1.rk, List.prefix_refl _, fun x hx => .inl hx, by omega⟩
    have HCell7 : Hid (∀ W, Below w.heap.size w W → ∃ a7 c7, s.R = .slice a7 R.length c7 ∧ W.cell? ⟨b, 7, none⟩ = some (.slice a7 R.length c7)) := fun W hW => by
      obtain ⟨a7, c7, e7⟩ := row_form' HZ.out.r
      exact ⟨a7, c7, e7, by rw [← e7]; exact (HZ.out.below hW).c7⟩
    clear hz hrs hfr hcl hso hb hr hs hcell hta hcon hB
    go_enter Tryz.func71, Tryz.ntmps71
    go_upto_region 3 with (go_at_call 83; refine HTa.out.mono ?_; rintro e w1 ⟨rfl, hb1⟩; rw [HTb.out]; have HB1 : Hid (Below w.heap.size w w1) := hb1; clear hb1)
    obtain ⟨a7, c7, e7, k7⟩ := HCell7.out w1 HB1.out
    clear e7
    go_wp2_with fail
    go_loopg [24] c.length (fun g iv wx => ∃ j : Nat, j + g = c.length ∧ iv = .int .i64 (j : Int) ∧ FvL B b s V cl un lk fs n R c w wx j)
    case atStart => exact ⟨0, by omega, rfl, HL0.out _ HB1.out⟩
    case round =>
      obtain ⟨j, hj, rfl, u, R', hz, hmo, hv⟩ := hrel
      have HJ : Hid (j + gk = c.length) := hj
      have HZ2 : Hid (Fwz B wr b { s with R := u } V cl un lk fs (inLs n R') R' R.length) := hz
      have HMo : Hid (Mo w (s.own V b) wr (({ s with R := u } : Sf).own V b)) := hmo
      have HV : Hid (Fvi n R R' c j) := hv
      have HWs : Hid (B ≤ wr.heap.size) := Nat.le_trans HBB.out hmo.size
      have hlb : c.length ≤ 17592186044416 := by have := HC0.out; omega
      by_cases hlt : j < c.length
      · obtain ⟨bb, off, rfl, kc⟩ := HCl.out wr (HBw.out wr _ hmo) j hlt
        have hf := HRs.out.2.2.2.1 _ (getD_mem0 hlt)
        obtain ⟨i, hi⟩ := idx_nat hf
        have HL : Hid (c.getD j 0 ∈ c) := getD_mem0 hlt
        obtain ⟨l, hl⟩ : ∃ l, c.getD j 0 = l := ⟨_, rfl⟩
        rw [hl] at kc hf hi HL
        have HLe : Hid (c.getD j 0 = l) := hl
        have HFm : Hid (fmd l = true ∧ idx l = (i : Int)) := ⟨hf, hi⟩
        have hrg := fmd_range hf
        have hwl : wrap64 (-l) = -l := by unfold wrap64; omega
        have HX : Hid (∀ W : World, Calls Tryz.prog 60 #[.int .i64 l] W fun e w' => e = .returned (.int .i64 (i : Int)) ∧ w' = W) := fun W => (index_any _ _).mono fun e w' h => ⟨by rw [h.1, hi], h.2⟩
        have hlen : (inLs n R').length = n := inLs_len n R'
        obtain ⟨aH, cH, eH⟩ := row_form' hz.h
        have eH1 : s.H = .slice aH n cH := by rw [← hlen]; exact eH
        have k6 : wr.cell? ⟨b, 6, none⟩ = some s.H := hz.c6
        rw [eH1] at k6
        clear hz hmo hv hl hi hf hrg eH eH1 hlen hj
        go_upto_region 7 with fail
        go_quiet ((go_at_call 60; exact Calls.quiet_of_same (HX.out _)))
        have HZ3 : Hid (Fwz B (wr.drewN nq) b { s with R := u } V cl un lk fs (inLs n R') R' R.length ∧ Mo w (s.own V b) (wr.drewN nq) (({ s with R := u } : Sf).own V b) ∧ B ≤ (wr.drewN nq).heap.size) := ⟨HZ2.out.below (below_drewN _ _), HMo.out.trans (Mo.below (below_drewN _ _)), HWs.out⟩
        clear k6 kc HZ2 HMo HWs
        generalize wr.drewN nq = w2 at *
        by_cases hin : i < n
        · have hni : ¬ n ≤ i := by omega
          have HT : Hid (Calls Tryz.prog 80 #[.pointer (some ⟨b, 1, none⟩), .int .i64 l] w2 fun e w' => e = .returned (.bool (decide (l ∈ R'))) ∧ Below w2.heap.size w2 w') := fTrue_any l w2 HZ3.out.1 HFm.out.1 (by have := HFm.out.2; omega)
          by_cases hm : l ∈ R'
          · have HD : Hid (decide (l ∈ R') = true) := decide_eq_true hm
            have HBk : Hid (∀ W, Below w2.heap.size w2 W → Calls Tryz.prog 84 #[.pointer (some ⟨b, 1, none⟩), .int .i64 (R.length : Int)] W fun e w' => e = .returned (.tuple #[]) ∧ FoS B b s V un cl n R c w w' true) := fun W hW => (fBack_any R.length W (HZ3.out.1.below hW) HV.out.rk HRs.out.2.2.2.2.2 HV.out.pre.length_le).mono fun e w' ⟨h1, u', h2, h3⟩ => by
              have et : R'.take R.length = R := (List.prefix_iff_eq_take.1 HV.out.pre).symm
              rw [et] at h2
              refine ⟨h1, ⟨fun _ => ?_, fun _ => rfl⟩, u', cl, ⟨lk, fs, ch, h2, HRs.out.1, HRs.out.2.1⟩, .refl _, (HZ3.out.2.1.trans (Mo.below hW)).trans h3⟩
              have hlR : l ∈ R := (HV.out.own l hm).resolve_right fun hq => HCon.out l HL.out hq
              exact .inl ⟨l, (HRs.out.1.der l hlR).trans (by simp), .fact (mem_opp.2 (by rw [Int.neg_neg]; exact HL.out))⟩
            clear hm
            go_wp2_with (first | (go_at_call 80; refine HT.out.mono ?_; rintro e w3 ⟨rfl, hb3⟩; rw [HD.out]; have HB3 : Hid (Below w2.heap.size w2 w3) := hb3; clear hb3) | (go_at_call 84; refine (HBk.out _ HB3.out).mono ?_; rintro e w4 ⟨rfl, hh⟩; have HH : Hid (FoS B b s V un cl n R c w w4 true) := hh; clear hh))
            go_ret
            exact ⟨true, rfl, HH.out⟩
          · have HD : Hid (decide (l ∈ R') = false) := decide_eq_false hm
            have HK : Hid (∀ W, Below w2.heap.size w2 W → Calls Tryz.prog 67 #[.pointer (some ⟨b, 1, none⟩), .int .i64 (-l)] W fun e w' => e = .returned (.tuple #[]) ∧ FvL B b s V cl un lk fs n R c w w' (j + 1)) := fun W hW => (fKnow_any (-l) W (HZ3.out.1.below hW) (fmd_neg HFm.out.1) (idx_neg_lt HFm.out.1 HRs.out.2.2.2.2.1 (by have := HFm.out.2; omega)) HRs.out.2.2.2.2.2 (by have := HV.out.rk.len; omega) (Nat.le_trans HZ3.out.2.2 hW.size)).mono fun e w' ⟨h1, u', h2, h3⟩ => by
              refine ⟨h1, u', _, h2, (HZ3.out.2.1.trans (Mo.below hW)).trans h3, ?_⟩
              have h5 := HV.out.know hlt (by rw [HLe.out]; exact HFm.out.1) (by rw [HLe.out]; exact idx_neg_lt HFm.out.1 HRs.out.2.2.2.2.1 (by have := HFm.out.2; omega)) (by rw [HLe.out]; exact hm)
              rw [HLe.out] at h5
              exact h5
            clear hm
            go_wp2_with (first | (go_at_call 80; refine HT.out.mono ?_; rintro e w3 ⟨rfl, hb3⟩; rw [HD.out]; have HB3 : Hid (Below w2.heap.size w2 w3) := hb3; clear hb3) | (go_at_call 67; refine (HK.out _ HB3.out).mono ?_; rintro e w4 ⟨rfl, hh⟩; have HH : Hid (FvL B b s V cl un lk fs n R c w w4 (j + 1)) := hh; clear hh))
            go_roundg (gk - 1)
            case measure => have := HJ.out; omega
            case rel => exact ⟨j + 1, by have := HJ.out; omega, by go_num, HH.out⟩
        · have hni : n ≤ i := by omega
          have HH : Hid (FvL B b s V cl un lk fs n R c w w2 (j + 1)) := ⟨u, R', HZ3.out.1, HZ3.out.2.1, HV.out.skip (by rw [HLe.out]; have := HFm.out.2; omega)⟩
          go_wp2
          go_roundg (gk - 1)
          case measure => have := HJ.out; omega
          case rel => exact ⟨j + 1, by have := HJ.out; omega, by go_num, HH.out⟩
      · obtain rfl : j = c.length := by omega
        obtain ⟨G, hG⟩ := hv.pre
        have hto : To n cl cl lk fs ch R' R' R.length R := by rw [← hG]; exact HRs.out.1.to (by rw [hG]; exact hv.rk)
        have HTe : Hid (Calls Tryz.prog 68 #[.pointer (some ⟨b, 1, none⟩)] wr fun e w' => ∃ ok, e = .returned (.bool ok) ∧ TeS B b { s with R := u } V un n cl R' R wr w' ok) := fTell_any wr hz hto HRs.out.2.1 HRs.out.2.2.1 HWs.out
        have HFin : Hid (∀ ok W, TeS B b { s with R := u } V un n cl R' R wr W ok → Calls Tryz.prog 84 #[.pointer (some ⟨b, 1, none⟩), .int .i64 (R.length : Int)] W fun e w' => e = .returned (.tuple #[]) ∧ FoS B b s V un cl n R c w w' (!ok)) := fun ok W hT => by
          obtain ⟨u3, cl3, lk3, fs3, ch3, R3, td3, a1, a2, a3, a4, a5, a6, a7⟩ := hT
          have hpre : R <+: R3 := HV.out.pre.trans a6
          refine (fBack_any R.length W a1 a5 HRs.out.2.2.2.2.2 hpre.length_le).mono fun e w' ⟨h1, u', h2, h3⟩ => ?_
          have et : R3.take R.length = R := (List.prefix_iff_eq_take.1 hpre).symm
          rw [et] at h2
          have hbk : Fbk n cl cl3 lk3 fs3 ch3 R := by
            rcases a7 with ⟨_, b2, _⟩ | ⟨_, _, b3⟩
            · exact b2.bk
            · exact b3
          refine ⟨h1, ?_, u', cl3, ⟨lk3, fs3, ch3, h2, hbk.rest HRs.out.1, a3⟩, hbk.pm, (HMo.out.trans a2).trans h3⟩
          have hin : ∀ x ∈ R', Der (cssOf cl) (opp c) x := fun x hx => by
            rcases HV.out.own x hx with q | q
            · exact (HRs.out.1.der x q).trans (by simp)
            · exact .fact (mem_opp.2 q)
          rcases a7 with ⟨rfl, b2, b3⟩ | ⟨rfl, b2, _⟩
          · constructor
            · intro hq; cases hq
            · intro hq
              exfalso
              have hcalm := b2.calm b3 (fun k l e => a6.subset (HV.out.pre.subset (HRs.out.1.one k l (one_pm b2.pm e))))
              refine Calm.fol b2.wa a5 hcalm HRs.out.2.2.2.1 HCon.out (fun l hl hi => ?_) (hq.mono b2.pm.css fun x hx => .fact hx)
              obtain ⟨m, hm, em⟩ := List.getElem_of_mem hl
              have em : c.getD m 0 = l := by rw [List.getD_eq_getElem?_getD, List.getElem?_eq_getElem hm]; exact em
              have := HV.out.had m hm (by rw [em]; exact hi)
              rw [em] at this
              exact a6.subset this
          · exact ⟨fun _ => b2.trans hin, fun _ => rfl⟩
        clear hz hmo hv hto hG hj hlt
        go_wp2_with (first | (go_at_call 68; refine HTe.out.mono ?_; rintro e w3 ⟨ok, rfl, hh⟩; have HS : Hid (TeS B b { s with R := u } V un n cl R' R wr w3 ok) := hh; clear hh) | (go_at_call 84; refine (HFin.out _ _ HS.out).mono ?_; rintro e w4 ⟨rfl, hh⟩; have HH : Hid (FoS B b s V un cl n R c w w4 (!ok)) := hh; clear hh))
        go_ret
        exact ⟨!ok, rfl, HH.out⟩
  · have HTb : Hid (adj (tid c) = true) := hta
    have HF : Hid (∀ W, Below w.heap.size w W → FoS B b s V un cl n R c w W true) := fun W hW => by
      refine ⟨⟨fun _ => ?_, fun _ => rfl⟩, s.R, cl, ⟨lk, fs, ch, HZ.out.below hW, HRs.out.1, HRs.out.2.1⟩, .refl _, Mo.below hW⟩
      obtain ⟨l, h1, h2⟩ : ∃ l ∈ c, -l ∈ c := Classical.byContradiction fun hn => by
        have : Con c := fun l h1 h2 => hn ⟨l, h1, h2⟩
        rw [(adj_con8 hs).2 this] at hta; cases hta
      exact taut_cla h1 h2
    clear hz hrs hfr hcl hso hb hr hs hcell hta hB
    go_enter Tryz.func71, Tryz.ntmps71
    go_wp2_with (go_at_call 83; refine HTa.out.mono ?_; rintro e w1 ⟨rfl, hb1⟩; rw [HTb.out]; have HB1 : Hid (Below w.heap.size w w1) := hb1; clear hb1)
    go_ret
    exact ⟨true, rfl, HF.out _ HB1.out⟩
end
end Go.Proofs.YtjajafeaengnjaaGreatDoor
