/-
  joined: OnPt OnL OnB
-/
import Derived.Test.YtjajafeaengnjaaGreatDoorJUnR
import Derived.WalkLawsBesides
set_option linter.unusedSimpArgs false
set_option linter.unusedVariables false
namespace Go.Proofs.YtjajafeaengnjaaGreatDoor
open Go Go.RowKit

/-- the value with which a closing leaves -/
def clashV : List PanicEntry := [{ v := .iface 150 (.agg #[]), recovered := false }]
theorem Tryz.infoI64o : (Tryz.prog.info? 3).map (fun i => (i.zero, i.size, i.bytes)) = some (some (.int .i64 0), 1, 8) := by kernel_rfl
theorem Tryz.infoI32o : (Tryz.prog.info? 21).map (fun i => (i.zero, i.size, i.bytes)) = some (some (.int .i32 0), 1, 4) := by kernel_rfl
/-- one value in a new row, and the row that it is put to -/
theorem one_new (W : World) (x : Value) (t : TypeId) : ∀ j y, [x][j]? = some y → (W.alloc (.cells #[x] t)).cell? ((⟨W.heap.size, 0, none⟩ : Addr).add j) = some y := fun j y hy => by
  rw [Addr.add_lit]
  have hh : (W.alloc (.cells #[x] t)).heap[W.heap.size]? = _ := World.alloc_heap_new W (.cells #[x] t)
  show (match (W.alloc (.cells #[x] t)).heap[W.heap.size]? with | some (Obj.cells c elem frozen) => c[0 + j]? | x => none) = _
  rw [hh]
  simpa using hy
section
variable {B : Nat} {W : World} {b : Nat} {s : Sy} {n N : Nat} {A : List Bool} {E : List Int} {F : List Nat} {P : List (Nat × Nat)} {M : List Int} {R : List Nat}
/-- what an append to more gives -/
theorem Oz.appM (h : Oz B W b s n N A E F P M R) (l : Int) (hB : B ≤ W.heap.size) {v8 : Value} {w8 : World} (own8 : w8.ownsRow B 3 1 v8 (M.length + 1) (i64s M ++ [.int .i64 l])) (ap8 : Ap (W.alloc (.cells #[.int .i64 l] 3)) s.M w8 v8) :
    (∃ a8 c8, v8 = .slice a8 (M.length + 1) c8) ∧ w8.cell? ⟨b, 5, none⟩ = some s.M ∧ w8.frozen? ⟨b, 5, none⟩ = false ∧ Oz B (w8.setCell ⟨b, 5, none⟩ v8) b { s with M := v8 } n N A E F P (M ++ [l]) R ∧ Mo W (s.own b) (w8.setCell ⟨b, 5, none⟩ v8) (({ s with M := v8 } : Sy).own b) := by
  have bb : Below W.heap.size W (W.alloc (.cells #[.int .i64 l] 3)) := below_box _ _
  have hzA := h.below bb
  have own9 : w8.ownsRow B 3 1 v8 (M ++ [l]).length (i64s (M ++ [l])) := by
    unfold i64s at own8 ⊢
    rw [List.map_append, List.length_append]; exact own8
  obtain ⟨z9, m9⟩ := hzA.putM ap8.grown ap8.new own9
  have ht : ∀ x, s.M.ownBlock = some x → Ty _ x 3 := fun x e => row_ty hzA.m e.symm
  have hbx := box_other hzA.box ap8.grown ht (by decide)
  exact ⟨row_form' own8, by simp [World.cell?, hbx], by simp [World.frozen?, hbx], z9, (Mo.below bb).trans m9⟩
theorem Oz.appR (h : Oz B W b s n N A E F P M R) (k : Nat) {v8 : Value} {w8 : World} (own8 : w8.ownsRow B 21 1 v8 (R.length + 1) (i32s (nats R) ++ [.int .i32 (k : Int)])) (ap8 : Ap (W.alloc (.cells #[.int .i32 (k : Int)] 21)) s.R w8 v8) :
    (∃ a8 c8, v8 = .slice a8 (R.length + 1) c8) ∧ w8.cell? ⟨b, 6, none⟩ = some s.R ∧ w8.frozen? ⟨b, 6, none⟩ = false ∧ Oz B (w8.setCell ⟨b, 6, none⟩ v8) b { s with R := v8 } n N A E F P M (R ++ [k]) ∧ Mo W (s.own b) (w8.setCell ⟨b, 6, none⟩ v8) (({ s with R := v8 } : Sy).own b) := by
  have bb : Below W.heap.size W (W.alloc (.cells #[.int .i32 (k : Int)] 21)) := below_box _ _
  have hzA := h.below bb
  have own9 : w8.ownsRow B 21 1 v8 (R ++ [k]).length (i32s (nats (R ++ [k]))) := by
    unfold i32s nats at own8 ⊢
    rw [List.map_append, List.map_append, List.length_append]; exact own8
  obtain ⟨z9, m9⟩ := hzA.putR ap8.grown ap8.new own9
  have ht : ∀ x, s.R.ownBlock = some x → Ty _ x 21 := fun x e => row_ty hzA.r e.symm
  have hbx := box_other hzA.box ap8.grown ht (by decide)
  exact ⟨row_form' own8, by simp [World.cell?, hbx], by simp [World.frozen?, hbx], z9, (Mo.below bb).trans m9⟩
end
/-- the state inside of put: ks are still to be counted -/
structure Po (w0 w W : World) (b : Nat) (s0 s : Sy) (n : Nat) (X : List (List Int)) (L M : List Int) (l : Int) (R : List Nat) (F : List Nat) (P : List (Nat × Nat)) (ks S : List Nat) : Prop where
  z : Oz w0.heap.size W b s n X.length (inLs n L) (lfm X M (M ++ [l]) ks) F P (M ++ [l]) (R ++ S)
  nd : S.Nodup
  mem : ∀ k, k ∈ S ↔ k < X.length ∧ -l ∈ X.getD k [] ∧ k ∉ ks ∧ cnt (M ++ [l]) (X.getD k []) = 1
  mo : Mo w (s0.own b) W (s.own b)
theorem Po.below {w0 w W W' : World} {b : Nat} {s0 s : Sy} {n : Nat} {X : List (List Int)} {L M : List Int} {l : Int} {R F : List Nat} {P : List (Nat × Nat)} {ks S : List Nat} (h : Po w0 w W b s0 s n X L M l R F P ks S) (hb : Below W.heap.size W W') : Po w0 w W' b s0 s n X L M l R F P ks S := ⟨h.z.below hb, h.nd, h.mem, h.mo.trans (Mo.below hb)⟩
theorem Po.no {w0 w W W' : World} {b : Nat} {s0 s : Sy} {n : Nat} {X : List (List Int)} {L M : List Int} {l : Int} {R F : List Nat} {P : List (Nat × Nat)} {r S : List Nat} {k : Nat} (h : Po w0 w W b s0 s n X L M l R F P (k :: r) S) (hz : Oz w0.heap.size W' b s n X.length (inLs n L) (lfm X M (M ++ [l]) r) F P (M ++ [l]) (R ++ S)) (hm : Mo W (s.own b) W' (s.own b)) (h1 : cnt (M ++ [l]) (X.getD k []) ≠ 1) : Po w0 w W' b s0 s n X L M l R F P r S :=
  ⟨hz, h.nd, fun j => (h.mem j).trans (by
    constructor
    · rintro ⟨a, b, c, d⟩; exact ⟨a, b, fun h2 => c (List.mem_cons_of_mem _ h2), d⟩
    · rintro ⟨a, b, c, d⟩
      exact ⟨a, b, by rw [List.mem_cons]; exact fun h2 => h2.elim (fun e => h1 (e ▸ d)) c, d⟩), h.mo.trans hm⟩
theorem Po.yes {w0 w W W' : World} {b : Nat} {s0 s s' : Sy} {n : Nat} {X : List (List Int)} {L M : List Int} {l : Int} {R F : List Nat} {P : List (Nat × Nat)} {r S : List Nat} {k : Nat} (h : Po w0 w W b s0 s n X L M l R F P (k :: r) S) (hz : Oz w0.heap.size W' b s' n X.length (inLs n L) (lfm X M (M ++ [l]) r) F P (M ++ [l]) (R ++ S ++ [k])) (hm : Mo W (s.own b) W' (s'.own b)) (hk : k < X.length) (hl : -l ∈ X.getD k []) (hr : k ∉ r) (h1 : cnt (M ++ [l]) (X.getD k []) = 1) : Po w0 w W' b s0 s' n X L M l R F P r (S ++ [k]) := by
  refine ⟨by rw [← List.append_assoc]; exact hz, ?_, fun j => ?_, h.mo.trans hm⟩
  · rw [List.nodup_append]
    refine ⟨h.nd, by simp, fun a ha c hc e => ?_⟩
    have : c = k := by simpa using hc
    subst this; subst e
    exact ((h.mem a).1 ha).2.2.1 (by simp)
  · rw [List.mem_append, h.mem j, List.mem_singleton]
    constructor
    · rintro (⟨a, b, c, d⟩ | e)
      · exact ⟨a, b, fun h2 => c (List.mem_cons_of_mem _ h2), d⟩
      · subst e; exact ⟨hk, hl, hr, h1⟩
    · rintro ⟨a, b, c, d⟩
      by_cases e : j = k
      · exact .inr e
      · exact .inl ⟨a, b, by rw [List.mem_cons]; exact fun h2 => h2.elim e c, d⟩
/-- what put leaves -/
def Pt8 (w0 w w' : World) (b : Nat) (s : Sy) (n : Nat) (css : List (List Int)) (K M : List Int) (R : List Nat) (l : Int) : Prop := ∃ s' S, Ow w0 w' b s' n css K (M ++ [l]) (R ++ S) ∧ s'.C = s.C ∧ newR css K M l S ∧ Mo w (s.own b) w' (s'.own b)
theorem Po.fin {w0 w W : World} {b : Nat} {s0 s : Sy} {n : Nat} {css : List (List Int)} {K M : List Int} {l : Int} {R F : List Nat} {P : List (Nat × Nat)} {S : List Nat} (h : Po w0 w W b s0 s n (reds K css) (K ++ (M ++ [l])) M l R F P [] S) (hC : s.C = s0.C) (hw : Ow w0 w b s0 n css K M R) (hf : fmd l = true) (hl : idx l < n) (hL : l ∉ K ++ M) (hp : Pls (reds K css) n F P) (hP : P.length ≤ 2147483648) : Pt8 w0 w W b s0 n css K M R l := by
  refine ⟨s, S, ⟨Mo.bel hw.bel (fun k hk => (hw.lt k hk).1) h.mo, hw.fit, ?_, fun x hx => ?_, F, P, ?_, hp, hP⟩, hC, ⟨h.nd, fun k => ?_⟩, h.mo⟩
  · rw [List.nodup_append]
    refine ⟨hw.mn, by simp, fun a ha c hc e => ?_⟩
    have : c = l := by simpa using hc
    subst this; subst e
    exact hL (List.mem_append.2 (.inr ha))
  · rcases List.mem_append.1 hx with a | a
    · exact hw.mf x a
    · have : x = l := by simpa using a
      subst this; exact ⟨hf, hl⟩
  · have := h.z
    rw [lfm_end, reds_len] at this
    exact this
  · have hlK : l ∉ K := fun h2 => hL (List.mem_append.2 (.inl h2))
    rw [h.mem k, reds_len]
    constructor
    · rintro ⟨a, b, -, d⟩
      rw [reds_at K css k a] at b d
      obtain ⟨b1, b2, b3⟩ := mem_red.1 b
      rw [red_cnt b1] at d
      exact ⟨a, b1, b2, d⟩
    · rintro ⟨a, b1, b2, d⟩
      rw [reds_at K css k a, red_cnt b1]
      exact ⟨a, mem_red.2 ⟨b1, b2, by simpa using hlK⟩, by simp, d⟩

set_option maxRecDepth 100000 in
set_option maxHeartbeats 4000000 in
theorem oPut_in (w0 : World) (b : Nat) (s : Sy) (n : Nat) (css : List (List Int)) (K M : List Int) (R : List Nat) (l : Int) (w : World) (h : Ow w0 w b s n css K M R) (hR : R.length ≤ 1073741824) (hf : fmd l = true) (hl : idx l < n) (hL : l ∉ K ++ M) (hN : -l ∉ K ++ M) :
    Calls Tryz.prog 121 #[.pointer (some ⟨b, 0, none⟩), .int .i64 l] w fun e w' => e = .returned (.tuple #[]) ∧ Pt8 w0 w w' b s n css K M R l := by
  have HW : Hid (Ow w0 w b s n css K M R) := h
  have hfn := fmd_neg hf
  have hnl := idx_neg_lt hf h.fit.ev hl
  have hr := fmd_range hf
  have hwl : IntKind.i64.wrap (-l) = -l := by rw [IntKind.wrap_i64]; omega
  clear h
  go_enter Tryz.func121, Tryz.ntmps121
  go_wp2_with fail
  refine (oTrue_any w0 b s n css K M R (-l) w HW.out hfn hnl).mono ?_
  rintro e w1 ⟨rfl, bel1⟩
  have HW1 : Hid (Ow w0 w1 b s n css K M R ∧ Mo w (s.own b) w1 (s.own b)) := ⟨HW.out.below bel1, Mo.below bel1⟩
  clear bel1
  have hdt : decide (-l ∈ K ++ M) = false := decide_eq_false hN
  rw [hdt]
  go_wp2_with fail
  refine (oTrue_any w0 b s n css K M R l w1 HW1.out.1 hf hl).mono ?_
  rintro e w2 ⟨rfl, bel2⟩
  have hdf : decide (l ∈ K ++ M) = false := decide_eq_false hL
  have HW2 : Hid (Ow w0 w2 b s n css K M R ∧ Mo w (s.own b) w2 (s.own b)) := ⟨HW1.out.1.below bel2, HW1.out.2.trans (Mo.below bel2)⟩
  rw [hdf]
  clear bel2 HW1 hdt hdf
  obtain ⟨F, P, hz, hp, hP⟩ := HW2.out.1.z
  have hfit := HW2.out.1.fit
  have hn := hfit.hn
  have hMl := HW2.out.1.few
  obtain ⟨i, hi⟩ : ∃ i : Nat, idx l = i := ⟨(idx l).toNat, by have := idx_range hf; omega⟩
  obtain ⟨j, hj⟩ : ∃ j : Nat, idx (-l) = j := ⟨(idx (-l)).toNat, by have := idx_range (fmd_neg hf); omega⟩
  have hin : i < n := by omega
  have hjn : j < n := by omega
  obtain ⟨p0, hp0⟩ : ∃ p0, F[j]? = some p0 := ⟨_, List.getElem?_eq_getElem (by rw [hp.len]; exact hjn)⟩
  obtain ⟨hp1, ks0, hch, hpw, hks⟩ := hp.ch j p0 hp0
  have hlit : litAt (j : Int) = -l := by rw [← hj, litAt_idx (fmd_neg hf)]
  rw [hlit] at hks
  obtain ⟨gI, cI, eI, i1, i2, i3⟩ := row_some hz.i (by omega)
  obtain ⟨gF, cF, eF, f1, f2, f3⟩ := row_some hz.f (by omega)
  obtain ⟨gP, cP, eP, p1, p2, p3⟩ := row_some hz.p (by have := hp.pos; omega)
  have b1 := hz.c1
  have rI := hz.i
  rw [eI] at b1 rI
  have kI := row_cell rI (j := i) (x := .bool (decide (l ∈ K ++ M))) (by rw [List.getElem?_map, inLs_at hf hi hin]; rfl)
  have zI := row_fz rI i
  have HI : Hid (idx l = i) := hi
  have HJ : Hid (idx (-l) = j) := hj
  -- behind the first store
  obtain ⟨z1, m1⟩ := hz.setI eI hin true
  rw [inLs_set (L' := K ++ (M ++ [l])) hn hf hi true (by simp) (fun x hx => by simp [hx])] at z1
  have hlM : l ∉ M := fun h2 => hL (List.mem_append.2 (.inr h2))
  have hst : lfm (reds K css) M (M ++ [l]) ks0 = lefts (reds K css) M := lfm_start fun k hk hnk => by
    have hno : -l ∉ (reds K css).getD k [] := fun h2 => hnk ((hks k).2 h2)
    rw [cnt_put hlM, if_neg hno]; rfl
  have HP1 : Hid (Oz w0.heap.size (w2.setCell ⟨gI, i, none⟩ (.bool true)) b s n css.length (inLs n (K ++ (M ++ [l]))) (lfm (reds K css) M (M ++ [l]) ks0) F P M R ∧ Mo w (s.own b) (w2.setCell ⟨gI, i, none⟩ (.bool true)) (s.own b)) := ⟨by rw [hst]; exact z1, HW2.out.2.trans m1⟩
  have HPl : Hid (Pls (reds K css) n F P ∧ P.length ≤ 2147483648 ∧ Fit (reds K css) n ∧ w0.heap.size ≤ w2.heap.size) := ⟨hp, hP, hfit.reds K, HW2.out.1.bel.size⟩
  have HEP : Hid (s.P = .slice (some ⟨gP, 0, none⟩) P.length cP) := eP
  have HEF : Hid (s.F = .slice (some ⟨gF, 0, none⟩) n cF) := eF
  have HF0 : Hid (F[j]? = some p0) := hp0
  have HCH : Hid (Ch P p0 ks0 ∧ ks0.Pairwise (· > ·) ∧ ∀ k, k ∈ ks0 ↔ -l ∈ (reds K css).getD k []) := ⟨hch, hpw, hks⟩
  have HL : Hid (l ∉ K ++ M ∧ fmd l = true ∧ idx l < n ∧ l ∉ M) := ⟨hL, hf, hl, hlM⟩
  have hcn := hfit.num
  obtain ⟨iM, hiM, hzM0, hzM1, hzM2⟩ := info_parts Tryz.infoI64o
  have HIM : Hid (Tryz.prog.info? 3 = some iM ∧ iM.zero = some (.int .i64 0) ∧ iM.size = 1 ∧ iM.bytes = 8) := ⟨hiM, hzM0, hzM1, hzM2⟩
  obtain ⟨iR, hiR, hzR0, hzR1, hzR2⟩ := info_parts Tryz.infoI32o
  have HIR : Hid (Tryz.prog.info? 21 = some iR ∧ iR.zero = some (.int .i32 0) ∧ iR.size = 1 ∧ iR.bytes = 4) := ⟨hiR, hzR0, hzR1, hzR2⟩
  clear hz z1 m1 hp hst hch hpw hks hlit rI hp0 eI eF eP hnl hi hj hfit HW2 hl hL hN hlM hiM hzM0 hzM1 hzM2 hiR hzR0 hzR1 hzR2
  generalize decide (l ∈ K ++ M) = dl at *
  go_upto_region 3 with fail
  go_cut [] from 15 to 21 (fun wx => Oz w0.heap.size wx b s n css.length (inLs n (K ++ (M ++ [l]))) (lfm (reds K css) M (M ++ [l]) ks0) F P M R ∧ Mo w (s.own b) wx (s.own b) ∧ w0.heap.size ≤ wx.heap.size)
  case first =>
    go_region_law (go_simp; go_at_call 60; refine (index_any _ _).mono ?_; intro e w9 hh; rw [hh.1, hh.2, HI.out]; clear hh e w9; dsimp only)
    all_goals
      have HP2 : Hid (_ ∧ _ ∧ _) := ⟨HP1.out.1.below (Below.refl _ _).drew, HP1.out.2.trans (Mo.below (Below.refl _ _).drew), Nat.le_trans HW.out.bel.size HP1.out.2.size⟩
      go_wp2_with fail
      go_meet
      exact HP2.out
  case rest =>
  have HP2 : Hid (Oz w0.heap.size wc b s n css.length (inLs n (K ++ (M ++ [l]))) (lfm (reds K css) M (M ++ [l]) ks0) F P M R ∧ Mo w (s.own b) wc (s.own b) ∧ w0.heap.size ≤ wc.heap.size) := hcut
  clear hcut HP1 b1 kI zI
  generalize wc = w3 at *
  -- more
  have hz3 := HP2.out.1
  have b5 := hz3.c5
  obtain ⟨aM, cM, eM⟩ := row_form' hz3.m
  have HEM : Hid (s.M = .slice aM M.length cM) := eM
  have HRowM : Hid ((w3.alloc (.cells #[.int .i64 l] 3)).ownsRow w0.heap.size 3 1 (.slice aM M.length cM) M.length (i64s M) ∧ w0.heap.size ≤ (w3.alloc (.cells #[.int .i64 l] 3)).heap.size) := by
    have := (hz3.below (below_box w3 (.cells #[.int .i64 l] 3))).m
    rw [eM] at this
    exact ⟨this, Nat.le_trans HP2.out.2.2 (below_box w3 _).size⟩
  have HAppM : Hid (∀ v8 w8, w8.ownsRow w0.heap.size 3 1 v8 (M.length + 1) (i64s M ++ [.int .i64 l]) → Ap (w3.alloc (.cells #[.int .i64 l] 3)) (.slice aM M.length cM) w8 v8 → (∃ a8 c8, v8 = .slice a8 (M.length + 1) c8) ∧ w8.cell? ⟨b, 5, none⟩ = some (.slice aM M.length cM) ∧ w8.frozen? ⟨b, 5, none⟩ = false ∧ (w8.setCell ⟨b, 5, none⟩ v8).cell? ⟨b, 3, none⟩ = some s.F ∧ Po w0 w (w8.setCell ⟨b, 5, none⟩ v8) b s { s with M := v8 } n (reds K css) (K ++ (M ++ [l])) M l R F P ks0 []) := fun v8 w8 o8 a8 => by
    obtain ⟨q1, q2, q3, q4, q5⟩ := HP2.out.1.appM l HP2.out.2.2 o8 (by rw [HEM.out]; exact a8)
    refine ⟨q1, by rw [q2, HEM.out], q3, q4.c3, by rw [reds_len, List.append_nil]; exact q4, List.nodup_nil, fun k => ?_, HP2.out.2.1.trans q5⟩
    constructor
    · intro h2; simp at h2
    · rintro ⟨_, h3, h4, _⟩
      exact absurd ((HCH.out.2.2 k).2 h3) h4
  rw [eM] at b5
  have hM63 : M.length + 1 ≤ maxLen := by unfold maxLen; omega
  have hM48 : (M.length + 1) * 8 ≤ 140737488355328 := by omega
  have HNewM := one_new w3 (.int .i64 l) 3
  have HNewM : Hid (∀ j y, [Value.int .i64 l][j]? = some y → (w3.alloc (.cells #[.int .i64 l] 3)).cell? ((⟨w3.heap.size, 0, none⟩ : Addr).add j) = some y) := HNewM
  clear hz3 eM
  generalize hMn : M.length = Mn at *
  clear hMn
  generalize htM : i64s M = tM at *
  clear htM
  go_upto_region 4 with fail
  go_cut [] from 22 to 31 (fun wx => ∃ u, Po w0 w wx b s { s with M := u } n (reds K css) (K ++ (M ++ [l])) M l R F P ks0 [])
  case first =>
    go_wp2_with (at_builtin; refine wpList_append_apk rfl _ _ 25 rfl w0.heap.size 3 iM (.int .i64 0) 1 8 Tryz.underlying25 HIM.out.1 HIM.out.2.1 HIM.out.2.2.1 HIM.out.2.2.2 rfl (by decide) (.slice aM Mn cM) Mn tM rfl HRowM.out.1 ⟨w3.heap.size, 0, none⟩ 1 1 [.int .i64 l] rfl rfl HNewM.out (by simp [Value.oneCell']) hM63 hM48 HRowM.out.2 ?_; intro v8 w8 own8 ap8; have HF8 : Hid (_ ∧ _) := (HAppM.out v8 w8 own8 ap8).2.2.2; obtain ⟨⟨a8, c8, hv8⟩, q1, q2, -⟩ := HAppM.out v8 w8 own8 ap8; subst hv8; clear own8 ap8)
    go_meet
    exact ⟨_, HF8.out.2⟩
  case rest =>
  obtain ⟨vm5, hcut⟩ := hcut
  have HP3 : Hid (Po w0 w wc b s { s with M := vm5 } n (reds K css) (K ++ (M ++ [l])) M l R F P ks0 []) := hcut
  clear hcut HP2 HAppM HRowM HNewM b5 HEM
  generalize wc = w4 at *
  have b3 : w4.cell? ⟨b, 3, none⟩ = some s.F := HP3.out.z.c3
  have rF : w4.ownsRow w0.heap.size 21 1 s.F n (i32s (nats F)) := HP3.out.z.f
  rw [HEF.out] at b3 rF
  have kF := row_cell rF (j := j) (x := .int .i32 (p0 : Int)) (by unfold i32s nats; rw [List.getElem?_map, List.getElem?_map, HF0.out]; rfl)
  clear rF
  go_upto_region 5 with fail
  go_cut [4] from 32 to 40 (fun p' wx => p' = .int .i32 (p0 : Int) ∧ Po w0 w wx b s { s with M := vm5 } n (reds K css) (K ++ (M ++ [l])) M l R F P ks0 [])
  case first =>
    go_region_law (go_simp; go_at_call 60; refine (index_any _ _).mono ?_; intro e w9 hh; rw [hh.1, hh.2, HJ.out]; clear hh e w9; dsimp only)
    all_goals
      have HP4 : Hid (Po w0 w w4.drew b s { s with M := vm5 } n (reds K css) (K ++ (M ++ [l])) M l R F P ks0 []) := HP3.out.below (Below.refl _ _).drew
      go_wp2_with fail
      go_meet
      exact ⟨rfl, HP4.out⟩
  case rest =>
  obtain ⟨rfl, hcut⟩ := hcut
  have HP4 : Hid (Po w0 w wc b s { s with M := vm5 } n (reds K css) (K ++ (M ++ [l])) M l R F P ks0 []) := hcut
  clear hcut HP3 b3 kF
  generalize wc = w5 at *
  go_wp2
  go_loopg [4] p0 (fun g p' wr => ∃ ks S u, p' = .int .i32 ((g : Nat) : Int) ∧ Ch P g ks ∧ ks.Pairwise (· > ·) ∧ (∀ k ∈ ks, -l ∈ (reds K css).getD k []) ∧ g < P.length ∧ S.length + g ≤ p0 ∧ Po w0 w wr b s { s with M := vm5, R := u } n (reds K css) (K ++ (M ++ [l])) M l R F P ks S)
  case atStart => exact ⟨ks0, [], s.R, rfl, HCH.out.1, HCH.out.2.1, fun k hk => (HCH.out.2.2 k).1 hk, hp1, by simp, HP4.out⟩
  case round =>
    obtain ⟨ks, S, u, rfl, hch, hpw, hks, hgP, hSl, hpt⟩ := hrel
    have HT : Hid (Po w0 w wr b s { s with M := vm5, R := u } n (reds K css) (K ++ (M ++ [l])) M l R F P ks S) := hpt
    clear hpt
    by_cases hg0 : 0 < gk
    · obtain ⟨k, q, r, g1, g2, rfl, g4⟩ := hch.inv hg0
      obtain ⟨hkX, -⟩ := HPl.out.1.num gk k q hg0 g1
      have hkl : -l ∈ (reds K css).getD k [] := hks k (by simp)
      have hkr : k ∉ r := fun h2 => Nat.lt_irrefl _ ((List.pairwise_cons.1 hpw).1 k h2)
      have hz := HT.out.z
      have b4 : wr.cell? ⟨b, 4, none⟩ = some s.P := hz.c4
      have b2 : wr.cell? ⟨b, 2, none⟩ = some s.E := hz.c2
      have rP : wr.ownsRow w0.heap.size 158 2 s.P P.length (twp P) := hz.p
      rw [HEP.out] at b4 rP
      obtain ⟨k1, k2⟩ := twp_at g1
      have x1 := row_cell rP k1
      have x2 := row_cell rP k2
      obtain ⟨gE, cE, eE0, e1, e2, e3⟩ := row_some hz.e (by omega)
      have eE : s.E = .slice (some ⟨gE, 0, none⟩) (reds K css).length cE := eE0
      clear eE0
      have rE : wr.ownsRow w0.heap.size 21 1 s.E (reds K css).length (i32s (lfm (reds K css) M (M ++ [l]) (k :: r))) := hz.e
      rw [eE] at b2 rE
      have x3 := row_cell rE (j := k) (x := .int .i32 (cnt M ((reds K css).getD k []) : Int)) (by unfold i32s; rw [List.getElem?_map, lfm_at hkX (by simp)]; rfl)
      have x4 := row_fz rE k
      obtain ⟨z1, m1⟩ := hz.setE eE hkX (cnt (M ++ [l]) ((reds K css).getD k []) : Int)
      rw [lfm_step hkX hkr] at z1
      have y4 : (wr.setCell ⟨gE, k, none⟩ (.int .i32 (cnt (M ++ [l]) ((reds K css).getD k []) : Int))).cell? ⟨b, 4, none⟩ = some s.P := z1.c4
      have y2 : (wr.setCell ⟨gE, k, none⟩ (.int .i32 (cnt (M ++ [l]) ((reds K css).getD k []) : Int))).cell? ⟨b, 2, none⟩ = some s.E := z1.c2
      have y6 : (wr.setCell ⟨gE, k, none⟩ (.int .i32 (cnt (M ++ [l]) ((reds K css).getD k []) : Int))).cell? ⟨b, 6, none⟩ = some u := z1.c6
      rw [HEP.out] at y4
      rw [eE] at y2
      have rP2 : (wr.setCell ⟨gE, k, none⟩ (.int .i32 (cnt (M ++ [l]) ((reds K css).getD k []) : Int))).ownsRow w0.heap.size 158 2 s.P P.length (twp P) := z1.p
      rw [HEP.out] at rP2
      have y7 := row_cell rP2 k2
      have hcp := cnt_put (c := (reds K css).getD k []) HL.out.2.2.2
      rw [if_pos hkl] at hcp
      have hpos := cnt_pos HL.out.2.2.2 hkl
      have hcl : cnt M ((reds K css).getD k []) ≤ 1073741824 := Nat.le_trans (cnt_le _ _) (HPl.out.2.2.1.len _ (getD_in hkX))
      have hX := HPl.out.2.2.1.num
      have y3 : (wr.setCell ⟨gE, k, none⟩ (.int .i32 (cnt (M ++ [l]) ((reds K css).getD k []) : Int))).cell? ⟨gE, k, none⟩ = some (.int .i32 (cnt (M ++ [l]) ((reds K css).getD k []) : Int)) := cell_set_same x3 _
      -- what the append gives
      obtain ⟨aR, cR, eR0⟩ := row_form' z1.r
      have eR : u = .slice aR (R ++ S).length cR := eR0
      clear eR0
      have HEs : Hid (cnt (M ++ [l]) ((reds K css).getD k []) ≠ 1 → Po w0 w (wr.setCell ⟨gE, k, none⟩ (.int .i32 (cnt (M ++ [l]) ((reds K css).getD k []) : Int))) b s { s with M := vm5, R := u } n (reds K css) (K ++ (M ++ [l])) M l R F P r S) := fun h1 => HT.out.no z1 m1 h1
      have HAppR : Hid (cnt (M ++ [l]) ((reds K css).getD k []) = 1 → ∀ v8 w8, w8.ownsRow w0.heap.size 21 1 v8 ((R ++ S).length + 1) (i32s (nats (R ++ S)) ++ [.int .i32 (k : Int)]) → Ap ((wr.setCell ⟨gE, k, none⟩ (.int .i32 (cnt (M ++ [l]) ((reds K css).getD k []) : Int))).alloc (.cells #[.int .i32 (k : Int)] 21)) (.slice aR (R ++ S).length cR) w8 v8 →
          (∃ a8 c8, v8 = .slice a8 ((R ++ S).length + 1) c8) ∧ w8.cell? ⟨b, 6, none⟩ = some (.slice aR (R ++ S).length cR) ∧ w8.frozen? ⟨b, 6, none⟩ = false ∧ (w8.setCell ⟨b, 6, none⟩ v8).cell? ⟨b, 4, none⟩ = some (.slice (some ⟨gP, 0, none⟩) P.length cP) ∧ (w8.setCell ⟨b, 6, none⟩ v8).cell? ⟨gP, gk * 2 + 1, none⟩ = some (.int .i32 (q : Int)) ∧ Po w0 w (w8.setCell ⟨b, 6, none⟩ v8) b s { s with M := vm5, R := v8 } n (reds K css) (K ++ (M ++ [l])) M l R F P r (S ++ [k])) := fun h1 v8 w8 o8 a8 => by
        obtain ⟨q1, q2, q3, q4, q5⟩ := z1.appR k o8 (show Ap _ u w8 v8 by rw [eR]; exact a8)
        have r4 : (w8.setCell ⟨b, 6, none⟩ v8).cell? ⟨b, 4, none⟩ = some s.P := q4.c4
        have r5 : (w8.setCell ⟨b, 6, none⟩ v8).ownsRow w0.heap.size 158 2 s.P P.length (twp P) := q4.p
        rw [HEP.out] at r4 r5
        have q2' : w8.cell? ⟨b, 6, none⟩ = some u := q2
        exact ⟨q1, by rw [q2', eR], q3, r4, row_cell r5 k2, HT.out.yes q4 (m1.trans q5) hkX hkl hkr h1⟩
      have HRowR : Hid (((wr.setCell ⟨gE, k, none⟩ (.int .i32 (cnt (M ++ [l]) ((reds K css).getD k []) : Int))).alloc (.cells #[.int .i32 (k : Int)] 21)).ownsRow w0.heap.size 21 1 (.slice aR (R ++ S).length cR) (R ++ S).length (i32s (nats (R ++ S))) ∧ w0.heap.size ≤ ((wr.setCell ⟨gE, k, none⟩ (.int .i32 (cnt (M ++ [l]) ((reds K css).getD k []) : Int))).alloc (.cells #[.int .i32 (k : Int)] 21)).heap.size) := by
        have h5 : ((wr.setCell ⟨gE, k, none⟩ (.int .i32 (cnt (M ++ [l]) ((reds K css).getD k []) : Int))).alloc (.cells #[.int .i32 (k : Int)] 21)).ownsRow w0.heap.size 21 1 u (R ++ S).length (i32s (nats (R ++ S))) := (z1.below (below_box _ (.cells #[.int .i32 (k : Int)] 21))).r
        rw [eR] at h5
        refine ⟨h5, ?_⟩
        have h6 := HT.out.mo.size
        have h7 := HW.out.bel.size
        have h8 := m1.size
        have h9 := (below_box (wr.setCell ⟨gE, k, none⟩ (.int .i32 (cnt (M ++ [l]) ((reds K css).getD k []) : Int))) (.cells #[.int .i32 (k : Int)] 21)).size
        omega
      rw [eR] at y6
      have hRS : (R ++ S).length ≤ 3221225472 := by rw [List.length_append]; have := HPl.out.2.1; omega
      have HR : Hid (Ch P q r ∧ r.Pairwise (· > ·) ∧ (∀ j ∈ r, -l ∈ (reds K css).getD j []) ∧ q < P.length ∧ S.length + q < p0) := ⟨g4, (List.pairwise_cons.1 hpw).2, fun j hj => hks j (List.mem_cons_of_mem _ hj), by omega, by omega⟩
      have HM : Hid (q < gk) := g2
      have HNewR : Hid (∀ j y, [Value.int .i32 (k : Int)][j]? = some y → ((wr.setCell ⟨gE, k, none⟩ (.int .i32 (cnt (M ++ [l]) ((reds K css).getD k []) : Int))).alloc (.cells #[.int .i32 (k : Int)] 21)).cell? ((⟨wr.heap.size, 0, none⟩ : Addr).add j) = some y) := by
        have h5 := one_new (wr.setCell ⟨gE, k, none⟩ (.int .i32 (cnt (M ++ [l]) ((reds K css).getD k []) : Int))) (.int .i32 (k : Int)) 21
        have h6 : (wr.setCell ⟨gE, k, none⟩ (.int .i32 (cnt (M ++ [l]) ((reds K css).getD k []) : Int))).heap.size = wr.heap.size := by simp
        rw [h6] at h5
        exact h5
      clear hz z1 m1 rP rE rP2 k1 k2 hch hpw hks g1 g4 hkl hkr eE HT eR hSl
      generalize hc' : cnt (M ++ [l]) ((reds K css).getD k []) = c' at *
      generalize cnt M ((reds K css).getD k []) = c at *
      clear hc'
      obtain rfl : c = c' + 1 := by omega
      have hwc2 : IntKind.i32.wrap (c' : Int) = c' := by rw [wrap_i32']; omega
      clear hcp hpos
      have hPP := HPl.out.2.1
      generalize hNX : (reds K css).length = N at *
      generalize hPn : P.length = Pn at *
      have HNX : Hid ((reds K css).length = N) := hNX
      have HPn : Hid (P.length = Pn) := hPn
      clear hNX hPn
      generalize hRSe : (R ++ S).length = RS at *
      clear hRSe
      generalize htR : i32s (nats (R ++ S)) = tR at *
      clear htR
      have g1' : gk * 2 + 1 < 4294967297 := by omega
      have hR63 : RS + 1 ≤ maxLen := by unfold maxLen; omega
      have hR48 : (RS + 1) * 4 ≤ 140737488355328 := by omega
      by_cases hone : c' = 1
      · have HONE : Hid (c' = 1) := hone
        have hb1 : ((c' : Int) == 1) = true := by simp; omega
        have HAp := HAppR.out hone
        have HAp : Hid (∀ v8 w8, w8.ownsRow w0.heap.size 21 1 v8 (RS + 1) (tR ++ [.int .i32 (k : Int)]) → Ap ((wr.setCell ⟨gE, k, none⟩ (.int .i32 (c' : Int))).alloc (.cells #[.int .i32 (k : Int)] 21)) (.slice aR RS cR) w8 v8 →
          (∃ a8 c8, v8 = .slice a8 (RS + 1) c8) ∧ w8.cell? ⟨b, 6, none⟩ = some (.slice aR RS cR) ∧ w8.frozen? ⟨b, 6, none⟩ = false ∧ (w8.setCell ⟨b, 6, none⟩ v8).cell? ⟨b, 4, none⟩ = some (.slice (some ⟨gP, 0, none⟩) Pn cP) ∧ (w8.setCell ⟨b, 6, none⟩ v8).cell? ⟨gP, gk * 2 + 1, none⟩ = some (.int .i32 (q : Int)) ∧ Po w0 w (w8.setCell ⟨b, 6, none⟩ v8) b s { s with M := vm5, R := v8 } n (reds K css) (K ++ (M ++ [l])) M l R F P r (S ++ [k])) := HAp
        clear hone HAppR HEs
        go_wp2_with (at_builtin; refine wpList_append_apk rfl _ _ 58 rfl w0.heap.size 21 iR (.int .i32 0) 1 4 Tryz.underlying58 HIR.out.1 HIR.out.2.1 HIR.out.2.2.1 HIR.out.2.2.2 rfl (by decide) (.slice aR RS cR) RS tR rfl HRowR.out.1 ⟨wr.heap.size, 0, none⟩ 1 1 [.int .i32 (k : Int)] rfl rfl HNewR.out (by simp [Value.oneCell']) hR63 hR48 HRowR.out.2 ?_; intro v8 w8 own8 ap8; have HF8 : Hid (Po w0 w (w8.setCell ⟨b, 6, none⟩ v8) b s { s with M := vm5, R := v8 } n (reds K css) (K ++ (M ++ [l])) M l R F P r (S ++ [k])) := (HAp.out v8 w8 own8 ap8).2.2.2.2.2; obtain ⟨⟨a8, c8, hv8⟩, q1, q2, q3, q4, -⟩ := HAp.out v8 w8 own8 ap8; subst hv8; clear own8 ap8)
        go_roundg q
        case measure => exact HM.out
        case rel => exact ⟨r, S ++ [k], _, rfl, HR.out.1, HR.out.2.1, HR.out.2.2.1, HR.out.2.2.2.1, by have := HR.out.2.2.2.2; simp; omega, HF8.out⟩
      · have hne1 : ((c' : Int) == 1) = false := by simp; omega
        have HZ5 : Hid (Po w0 w (wr.setCell ⟨gE, k, none⟩ (.int .i32 (c' : Int))) b s { s with M := vm5, R := u } n (reds K css) (K ++ (M ++ [l])) M l R F P r S) := HEs.out hone
        clear HEs HAppR
        go_wp2
        go_roundg q
        case measure => exact HM.out
        case rel => exact ⟨r, S, u, rfl, HR.out.1, HR.out.2.1, HR.out.2.2.1, HR.out.2.2.2.1, by have := HR.out.2.2.2.2; omega, HZ5.out⟩
    · obtain rfl : gk = 0 := by omega
      have hk0 := hch.zero
      subst hk0
      have HF : Hid (Pt8 w0 w wr b s n css K M R l) := HT.out.fin rfl HW.out HL.out.2.1 HL.out.2.2.1 HL.out.1 HPl.out.1 HPl.out.2.1
      clear hch hks hgP
      go_wp2
      go_end0
      exact ⟨rfl, HF.out⟩
set_option maxRecDepth 100000 in
set_option maxHeartbeats 1600000 in
/-- put, of any literal of the clauses' variables -/
theorem oPut_any (w0 : World) (b : Nat) (s : Sy) (n : Nat) (css : List (List Int)) (K M : List Int) (R : List Nat) (l : Int) (w : World) (h : Ow w0 w b s n css K M R) (hR : R.length ≤ 1073741824) (hf : fmd l = true) (hl : idx l < n) :
    Calls Tryz.prog 121 #[.pointer (some ⟨b, 0, none⟩), .int .i64 l] w fun e w' => (-l ∈ K ++ M ∧ e = .panicked clashV ∧ Below w.heap.size w w') ∨ (-l ∉ K ++ M ∧ l ∈ K ++ M ∧ e = .returned (.tuple #[]) ∧ Below w.heap.size w w') ∨ (-l ∉ K ++ M ∧ l ∉ K ++ M ∧ e = .returned (.tuple #[]) ∧ Pt8 w0 w w' b s n css K M R l) := by
  by_cases hN : -l ∈ K ++ M
  · have HW : Hid (Ow w0 w b s n css K M R) := h
    have hfn := fmd_neg hf
    have hnl := idx_neg_lt hf h.fit.ev hl
    have hr := fmd_range hf
    have hwl : IntKind.i64.wrap (-l) = -l := by rw [IntKind.wrap_i64]; omega
    clear h
    go_enter Tryz.func121, Tryz.ntmps121
    go_wp2_with fail
    refine (oTrue_any w0 b s n css K M R (-l) w HW.out hfn hnl).mono ?_
    rintro e w1 ⟨rfl, bel1⟩
    have HB : Hid (Below w.heap.size w w1) := bel1
    have hdt : decide (-l ∈ K ++ M) = true := decide_eq_true hN
    have HN : Hid (-l ∈ K ++ M) := hN
    rw [hdt]
    clear bel1 hN hdt
    go_wp2
    exact ⟨rfl, .inl ⟨HN.out, rfl, HB.out⟩⟩
  · by_cases hL : l ∈ K ++ M
    · have HW : Hid (Ow w0 w b s n css K M R) := h
      have hfn := fmd_neg hf
      have hnl := idx_neg_lt hf h.fit.ev hl
      have hr := fmd_range hf
      have hwl : IntKind.i64.wrap (-l) = -l := by rw [IntKind.wrap_i64]; omega
      clear h
      go_enter Tryz.func121, Tryz.ntmps121
      go_wp2_with fail
      refine (oTrue_any w0 b s n css K M R (-l) w HW.out hfn hnl).mono ?_
      rintro e w1 ⟨rfl, bel1⟩
      have hdt : decide (-l ∈ K ++ M) = false := decide_eq_false hN
      have HN : Hid (-l ∉ K ++ M ∧ l ∈ K ++ M) := ⟨hN, hL⟩
      rw [hdt]
      have HW1 : Hid (Ow w0 w1 b s n css K M R ∧ Below w.heap.size w w1) := ⟨HW.out.below bel1, bel1⟩
      clear bel1 hN hdt
      go_wp2_with fail
      refine (oTrue_any w0 b s n css K M R l w1 HW1.out.1 hf hl).mono ?_
      rintro e w2 ⟨rfl, bel2⟩
      have HB : Hid (Below w.heap.size w w2) := Below.step HW1.out.2 bel2
      have hdf : decide (l ∈ K ++ M) = true := decide_eq_true hL
      rw [hdf]
      clear bel2 hL hdf
      go_wp2
      refine bodyPost_ret (results_none rfl _ _ _) rfl ?_
      exact .inr (.inl ⟨HN.out.1, HN.out.2, rfl, HB.out⟩)
    · exact (oPut_in w0 b s n css K M R l w h hR hf hl hL hN).mono fun e w' h2 => .inr (.inr ⟨hN, hL, h2.1, h2.2⟩)
end Go.Proofs.YtjajafeaengnjaaGreatDoor
set_option linter.unusedSimpArgs false
set_option linter.unusedVariables false
namespace Go.Proofs.YtjajafeaengnjaaGreatDoor
open Go Go.RowKit

/-- what look says of a clause -/
def Lk8 (w0 w w' : World) (b : Nat) (s : Sy) (n : Nat) (css : List (List Int)) (K M : List Int) (R : List Nat) (c : List Int) (e : Ending) : Prop :=
  ((∀ m ∈ c, -m ∈ K ++ M) ∧ e = .panicked clashV ∧ Below w.heap.size w w') ∨ (∃ l ∈ c, -l ∉ K ++ M ∧ l ∈ K ++ M ∧ e = .returned (.tuple #[]) ∧ Below w.heap.size w w') ∨ ∃ l ∈ c, -l ∉ K ++ M ∧ l ∉ K ++ M ∧ e = .returned (.tuple #[]) ∧ Pt8 w0 w w' b s n css K M R l
theorem Pt8.from {w0 w w1 w' : World} {b : Nat} {s : Sy} {n : Nat} {css : List (List Int)} {K M : List Int} {R : List Nat} {l : Int} (hb : Below w.heap.size w w1) (h : Pt8 w0 w1 w' b s n css K M R l) : Pt8 w0 w w' b s n css K M R l := by
  obtain ⟨s', S, a, c, d, m⟩ := h
  exact ⟨s', S, a, c, d, (Mo.below hb).trans m⟩
set_option maxRecDepth 100000 in
set_option maxHeartbeats 3200000 in
theorem oLook_any (w0 : World) (b : Nat) (s : Sy) (n : Nat) (css : List (List Int)) (K M : List Int) (R : List Nat) (k : Nat) (w : World) (h : Ow w0 w b s n css K M R) (hr : Rds w0 s.C css) (hR : R.length ≤ 1073741824) (hk : k < css.length) :
    Calls Tryz.prog 122 #[.pointer (some ⟨b, 0, none⟩), .int .i32 (k : Int)] w fun e w' => Lk8 w0 w w' b s n css K M R (css.getD k []) e := by
  have HW : Hid (Ow w0 w b s n css K M R ∧ R.length ≤ 1073741824) := ⟨h, hR⟩
  have hN := h.fit.num
  have hcl := h.fit.len _ (getD_in hk)
  have HLt : Hid (∀ l ∈ css.getD k [], fmd l = true ∧ idx l < n) := h.fit.lit _ (getD_in hk)
  obtain ⟨F, P, hz, -⟩ := h.z
  have b0 := hz.c0
  have hrw := hr.below h.bel
  obtain ⟨ac, cc, eC, l1, l2, hAT⟩ := hrw.form
  rw [eC] at b0
  obtain ⟨bb, off, u, rfl, kc, hrd⟩ := hAT k hk
  obtain ⟨ax, cx, rfl, x1, x2, hcx⟩ := hrd.form
  have HC : Hid (∀ (W : World) (j : Nat), Below w.heap.size w W → j < (css.getD k []).length → ∃ b2 off2, ax = some ⟨b2, off2, none⟩ ∧ W.cell? ⟨b2, off2 + j, none⟩ = some (.int .i64 ((css.getD k []).getD j 0))) := fun W j hW hj => by
    obtain ⟨b2, off2, e, hc⟩ := hcx j hj
    exact ⟨b2, off2, e, (hW.cell (p := ⟨b2, off2 + j, none⟩) (World.block_lt_of_cell? w _ hc)).trans hc⟩
  clear hz hrw hAT hrd hcx eC h hr hR
  generalize css.getD k [] = c at *
  go_enter Tryz.func122, Tryz.ntmps122
  go_wp2
  go_loopg [14] c.length (fun g j' wr => ∃ j : Nat, j + g = c.length ∧ j' = .int .i64 j ∧ Below w.heap.size w wr ∧ ∀ m ∈ c.take j, -m ∈ K ++ M)
  case atStart => exact ⟨0, by omega, rfl, Below.refl _ _, by simp⟩
  case round =>
    obtain ⟨j, hj, rfl, hb, hall⟩ := hrel
    have HJ : Hid (j + gk = c.length) := hj
    have HB : Hid (Below w.heap.size w wr ∧ ∀ m ∈ c.take j, -m ∈ K ++ M) := ⟨hb, hall⟩
    clear hj hb hall
    by_cases hlt : j < c.length
    · obtain ⟨b2, off2, rfl, c1⟩ := HC.out wr j HB.out.1 hlt
      have hlm : c.getD j 0 ∈ c := getD_mem' (d := 0) hlt
      have hlf := HLt.out _ hlm
      have HTk : Hid (∀ x, x ∈ c.take (j + 1) ↔ x ∈ c.take j ∨ x = c.getD j 0) := fun x => mem_take_more hlt
      have HLT : Hid (j < c.length) := hlt
      generalize c.getD j 0 = l at *
      have hr := fmd_range hlf.1
      have hwl : IntKind.i64.wrap (-l) = -l := by rw [IntKind.wrap_i64]; omega
      go_wp2_with fail
      refine (oTrue_any w0 b s n css K M R (-l) wr (HW.out.1.below HB.out.1) (fmd_neg hlf.1) (idx_neg_lt hlf.1 HW.out.1.fit.ev hlf.2)).mono ?_
      rintro e w1 ⟨rfl, bel1⟩
      have HB1 : Hid (Below w.heap.size w w1) := Below.step HB.out.1 bel1
      clear bel1
      by_cases hin : -l ∈ K ++ M
      · have HIn : Hid (-l ∈ K ++ M) := hin
        rw [decide_eq_true hin]
        clear hin
        go_wp2
        go_roundg (gk - 1)
        case measure => have := HJ.out; have := HLT.out; omega
        case rel => exact ⟨j + 1, by have := HJ.out; have := HLT.out; omega, by go_num, HB1.out, fun m hm => ((HTk.out m).1 hm).elim (HB.out.2 m) (fun e => e ▸ HIn.out)⟩
      · have HIn : Hid (-l ∉ K ++ M) := hin
        have HLm : Hid (l ∈ c) := hlm
        rw [decide_eq_false hin]
        clear hin hlm
        go_wp2_with fail
        refine (oPut_any w0 b s n css K M R l w1 (HW.out.1.below HB1.out) HW.out.2 hlf.1 hlf.2).mono ?_
        rintro e w2 (⟨h1, -, -⟩ | ⟨h1, h2, rfl, h3⟩ | ⟨h1, h2, rfl, h3⟩)
        · exact absurd h1 HIn.out
        · have HF : Hid (l ∈ K ++ M ∧ Below w.heap.size w w2) := ⟨h2, Below.step HB1.out h3⟩
          clear h1 h2 h3
          go_wp2
          refine bodyPost_ret (results_none rfl _ _ _) rfl ?_
          exact .inr (.inl ⟨l, HLm.out, HIn.out, HF.out.1, rfl, HF.out.2⟩)
        · have HF : Hid (l ∉ K ++ M ∧ Pt8 w0 w w2 b s n css K M R l) := ⟨h2, h3.from HB1.out⟩
          clear h1 h2 h3
          go_wp2
          refine bodyPost_ret (results_none rfl _ _ _) rfl ?_
          exact .inr (.inr ⟨l, HLm.out, HIn.out, HF.out.1, rfl, HF.out.2⟩)
    · have hje : j = c.length := by have := HJ.out; omega
      have HA : Hid (∀ m ∈ c, -m ∈ K ++ M) := by
        have := HB.out.2
        rw [hje, List.take_length] at this
        exact this
      go_wp2
      exact ⟨rfl, .inl ⟨HA.out, rfl, HB.out.1⟩⟩
end Go.Proofs.YtjajafeaengnjaaGreatDoor
set_option linter.unusedSimpArgs false
set_option linter.unusedVariables false
namespace Go.Proofs.YtjajafeaengnjaaGreatDoor
open Go Go.RowKit

/-- a slice cut to nothing -/
def cut0 : Value → Value
  | .slice a _ c => .slice a 0 c
  | v => v
theorem row_cut {W : World} {B e sz n : Nat} {v : Value} {xs : List Value} (h : W.ownsRow B e sz v n xs) : W.ownsRow B e sz (cut0 v) 0 [] ∧ (cut0 v).ownBlock = v.ownBlock := by
  have h0 := h
  rcases h.2 with ⟨rfl, _⟩ | ⟨g, cap, cur, rfl, _⟩
  · exact ⟨World.ownsRow_nil _ _ _ _, rfl⟩
  · have := own_cut h0 (m := 0) (Nat.zero_le _)
    rw [Nat.zero_mul, List.take_zero] at this
    exact ⟨this, rfl⟩
theorem grown_refl (W : World) (o : Option Nat) : W.grownBy W o := ⟨rfl, rfl, rfl, Nat.le_refl _, fun _ _ _ => rfl⟩
section
variable {B : Nat} {W W' : World} {b : Nat} {s : Sy} {n N : Nat} {A : List Bool} {E : List Int} {F : List Nat} {P : List (Nat × Nat)} {M : List Int} {R : List Nat}
theorem Oz.cutM (h : Oz B W b s n N A E F P M R) : Oz B (W.setCell ⟨b, 5, none⟩ (cut0 s.M)) b { s with M := cut0 s.M } n N A E F P [] R ∧ Mo W (s.own b) (W.setCell ⟨b, 5, none⟩ (cut0 s.M)) (({ s with M := cut0 s.M } : Sy).own b) :=
  h.putM (M' := []) (grown_refl _ _) (.inl (row_cut h.m).2) (row_cut h.m).1
theorem Oz.cutR (h : Oz B W b s n N A E F P M R) : Oz B (W.setCell ⟨b, 6, none⟩ (cut0 s.R)) b { s with R := cut0 s.R } n N A E F P M [] ∧ Mo W (s.own b) (W.setCell ⟨b, 6, none⟩ (cut0 s.R)) (({ s with R := cut0 s.R } : Sy).own b) :=
  h.putR (R' := []) (grown_refl _ _) (.inl (row_cut h.r).2) (row_cut h.r).1
end
/-- the state inside of back: ks are still to be counted -/
structure Tb (w0 w W : World) (b : Nat) (s : Sy) (n : Nat) (X : List (List Int)) (K L : List Int) (l : Int) (M : List Int) (R : List Nat) (F : List Nat) (P : List (Nat × Nat)) (ks : List Nat) : Prop where
  z : Oz w0.heap.size W b s n X.length (inLs n (K ++ L)) (lfm X (L ++ [l]) L ks) F P M R
  mo : Mo w (s.own b) W (s.own b)
theorem Tb.below {w0 w W W' : World} {b : Nat} {s : Sy} {n : Nat} {X : List (List Int)} {K L : List Int} {l : Int} {M : List Int} {R F : List Nat} {P : List (Nat × Nat)} {ks : List Nat} (h : Tb w0 w W b s n X K L l M R F P ks) (hb : Below W.heap.size W W') : Tb w0 w W' b s n X K L l M R F P ks := ⟨h.z.below hb, h.mo.trans (Mo.below hb)⟩
/-- between the literals -/
structure Tu (w0 w W : World) (b : Nat) (s : Sy) (n : Nat) (X : List (List Int)) (K L M : List Int) (R : List Nat) (F : List Nat) (P : List (Nat × Nat)) : Prop where
  z : Oz w0.heap.size W b s n X.length (inLs n (K ++ L)) (lefts X L) F P M R
  mo : Mo w (s.own b) W (s.own b)
theorem lefts_set_eq {X : List (List Int)} {L L' : List Int} (h : ∀ x, x ∈ L ↔ x ∈ L') : lefts X L = lefts X L' := by
  unfold lefts
  apply List.map_congr_left
  intro c _
  rw [cnt_congr (fun _ => Iff.rfl) fun x _ => h (-x)]
theorem inLs_set_eq {n : Nat} {L L' : List Int} (h : ∀ x, x ∈ L ↔ x ∈ L') : inLs n L = inLs n L' := by
  unfold inLs
  apply List.map_congr_left
  intro i _
  rw [Bool.eq_iff_iff, decide_eq_true_eq, decide_eq_true_eq]
  exact h _
set_option maxRecDepth 100000 in
set_option maxHeartbeats 4000000 in
theorem oBack_any (w0 : World) (b : Nat) (s : Sy) (n : Nat) (css : List (List Int)) (K M : List Int) (R : List Nat) (w : World) (h : Ow w0 w b s n css K M R) (hK : ∀ x ∈ M, x ∉ K) :
    Calls Tryz.prog 120 #[.pointer (some ⟨b, 0, none⟩)] w fun e w' => e = .returned (.tuple #[]) ∧ ∃ s', Ow w0 w' b s' n css K [] [] ∧ s'.C = s.C ∧ Mo w (s.own b) w' (s'.own b) := by
  have HW : Hid (Ow w0 w b s n css K M R) := h
  have hM := h.few
  have hn := h.fit.hn
  have hcn := h.fit.num
  obtain ⟨F, P, hz, hp, hP⟩ := h.z
  have HPl : Hid (Pls (reds K css) n F P ∧ P.length ≤ 2147483648 ∧ Fit (reds K css) n) := ⟨hp, hP, h.fit.reds K⟩
  have b5 := hz.c5
  obtain ⟨aM, cM, eM⟩ := row_form' hz.m
  obtain ⟨aR, cR, eR⟩ := row_form' hz.r
  have HEM : Hid (s.M = .slice aM M.length cM ∧ s.R = .slice aR R.length cR) := ⟨eM, eR⟩
  have HMf : Hid (∀ j, j < M.length → fmd (M.getD j 0) = true ∧ idx (M.getD j 0) < n ∧ M.getD j 0 ∉ K ∧ M.getD j 0 ∉ M.drop (j + 1) ∧ ∀ x, x ∈ M.drop j ↔ x ∈ M.drop (j + 1) ++ [M.getD j 0]) := fun j hj => by
    have hm : M.getD j 0 ∈ M := getD_mem' (d := 0) hj
    have e : M.drop j = M.getD j 0 :: M.drop (j + 1) := by rw [List.drop_eq_getElem_cons hj, List.getD_eq_getElem?_getD, List.getElem?_eq_getElem hj]; rfl
    have hnd : (M.drop j).Nodup := h.mn.sublist (List.drop_sublist _ _)
    rw [e] at hnd
    refine ⟨(h.mf _ hm).1, (h.mf _ hm).2, hK _ hm, (List.nodup_cons.1 hnd).1, fun x => ?_⟩
    rw [e, List.mem_cons, List.mem_append, List.mem_singleton]
    exact Or.comm
  have HT0 : Hid (Tu w0 w w b s n (reds K css) K (M.drop 0) M R F P) := ⟨by rw [reds_len]; simpa using hz, Mo.refl _ _⟩
  have hlen : M.length * 8 ≤ 140737488355328 := by omega
  have HMc : Hid (∀ (W : World) (hT : W.ownsRow w0.heap.size 3 1 s.M M.length (i64s M)) (j : Nat), j < M.length → ∃ g, aM = some ⟨g, 0, none⟩ ∧ W.cell? ⟨g, j, none⟩ = some (.int .i64 (M.getD j 0)) ∧ M.length ≤ cM) := fun W hT j hj => by
    obtain ⟨g, c, e, k1, k2, k3⟩ := row_some hT (by omega)
    rw [eM] at e
    injection e with e1 e2 e3
    refine ⟨g, e1, ?_, by omega⟩
    rw [eM, e1] at hT
    exact row_cell hT (by unfold i64s; rw [List.getElem?_map, List.getElem?_eq_getElem hj, List.getD_eq_getElem?_getD, List.getElem?_eq_getElem hj]; rfl)
  rw [eM] at b5
  clear hz hp hP eM eR h hK
  go_enter Tryz.func120, Tryz.ntmps120
  go_wp2
  go_loopg [10] M.length (fun g j' wr => ∃ j : Nat, j + g = M.length ∧ j' = .int .i64 j ∧ Tu w0 w wr b s n (reds K css) K (M.drop j) M R F P)
  case atStart => exact ⟨0, by omega, rfl, HT0.out⟩
  case round =>
    obtain ⟨j, hj, rfl, htu⟩ := hrel
    have HJ : Hid (j + gk = M.length) := hj
    have HTu : Hid (Tu w0 w wr b s n (reds K css) K (M.drop j) M R F P) := htu
    clear hj htu
    by_cases hlt : j < M.length
    · obtain ⟨g, rfl, kM, hcM⟩ := HMc.out wr HTu.out.z.m j hlt
      obtain ⟨hf, hl, hlK, hlL, hset⟩ := HMf.out j hlt
      have hz := HTu.out.z
      rw [lefts_set_eq hset, inLs_set_eq (L' := K ++ (M.drop (j + 1) ++ [M.getD j 0])) (fun x => by rw [List.mem_append, List.mem_append, hset x])] at hz
      have HLT : Hid (j < M.length) := hlt
      generalize M.getD j 0 = l at *
      have HLd : Hid (M.drop (j + 1) = M.drop (j + 1)) := rfl
      generalize hL' : M.drop (j + 1) = L at *
      have HL' : Hid (M.drop (j + 1) = L) := hL'
      clear hL' HLd hset
      have hr := fmd_range hf
      have hwl : IntKind.i64.wrap (-l) = -l := by rw [IntKind.wrap_i64]; omega
      obtain ⟨i, hi⟩ : ∃ i : Nat, idx l = i := ⟨(idx l).toNat, by have := idx_range hf; omega⟩
      have hnl := idx_neg_lt hf HPl.out.2.2.ev hl
      obtain ⟨jj, hjj⟩ : ∃ jj : Nat, idx (-l) = jj := ⟨(idx (-l)).toNat, by have := idx_range (fmd_neg hf); omega⟩
      have hin : i < n := by omega
      have hjn : jj < n := by omega
      obtain ⟨p0, hp0⟩ : ∃ p0, F[jj]? = some p0 := ⟨_, List.getElem?_eq_getElem (by rw [HPl.out.1.len]; exact hjn)⟩
      obtain ⟨hp1, ks0, hch, hpw, hks⟩ := HPl.out.1.ch jj p0 hp0
      have hlit : litAt (jj : Int) = -l := by rw [← hjj, litAt_idx (fmd_neg hf)]
      rw [hlit] at hks
      obtain ⟨gI, cI, eI, i1, i2, i3⟩ := row_some hz.i (by omega)
      obtain ⟨gF, cF, eF, f1, f2, f3⟩ := row_some hz.f (by omega)
      obtain ⟨gP, cP, eP, p1, p2, p3⟩ := row_some hz.p (by have := HPl.out.1.pos; omega)
      have b1 := hz.c1
      have rI := hz.i
      rw [eI] at b1 rI
      have kI := row_cell rI (j := i) (x := .bool (decide (l ∈ K ++ (L ++ [l])))) (by rw [List.getElem?_map, inLs_at hf hi hin]; rfl)
      have zI := row_fz rI i
      have HI : Hid (idx l = i) := hi
      have HJJ : Hid (idx (-l) = jj) := hjj
      obtain ⟨z1, m1⟩ := hz.setI eI hin false
      rw [inLs_set (L' := K ++ L) hn hf hi false (by simp [hlL, hlK]) (fun x hx => by simp [hx])] at z1
      have hst : lfm (reds K css) (L ++ [l]) L ks0 = lefts (reds K css) (L ++ [l]) := lfm_start fun k hk hnk => by
        have hno : -l ∉ (reds K css).getD k [] := fun h2 => hnk ((hks k).2 h2)
        rw [cnt_put hlL, if_neg hno]; rfl
      have HP1 : Hid (Tb w0 w (wr.setCell ⟨gI, i, none⟩ (.bool false)) b s n (reds K css) K L l M R F P ks0) := ⟨by rw [hst]; exact z1, HTu.out.mo.trans m1⟩
      have HEP : Hid (s.P = .slice (some ⟨gP, 0, none⟩) P.length cP) := eP
      have HEF : Hid (s.F = .slice (some ⟨gF, 0, none⟩) n cF) := eF
      have HF0 : Hid (F[jj]? = some p0) := hp0
      have HCH : Hid (Ch P p0 ks0 ∧ ks0.Pairwise (· > ·) ∧ ∀ k, k ∈ ks0 ↔ -l ∈ (reds K css).getD k []) := ⟨hch, hpw, hks⟩
      have HL : Hid (l ∉ L ∧ fmd l = true) := ⟨hlL, hf⟩
      clear hz z1 m1 hst hch hpw hks hlit rI hp0 eI eF eP hnl hi hjj hl hlL hlK HTu
      generalize decide (l ∈ K ++ (L ++ [l])) = dl at *
      go_upto_region 3 with fail
      go_cut [] from 14 to 20 (fun wx => Tb w0 w wx b s n (reds K css) K L l M R F P ks0)
      case first =>
        go_region_law (go_simp; go_at_call 60; refine (index_any _ _).mono ?_; intro e w9 hh; rw [hh.1, hh.2, HI.out]; clear hh e w9; dsimp only)
        all_goals
          have HP2 : Hid (Tb w0 w (wr.setCell ⟨gI, i, none⟩ (.bool false)).drew b s n (reds K css) K L l M R F P ks0) := HP1.out.below (Below.refl _ _).drew
          go_wp2_with fail
          go_meet
          exact HP2.out
      case rest =>
      have HP2 : Hid (Tb w0 w wc b s n (reds K css) K L l M R F P ks0) := hcut
      clear hcut HP1 b1 kI zI kM
      generalize wc = w3 at *
      have b3 : w3.cell? ⟨b, 3, none⟩ = some s.F := HP2.out.z.c3
      have rF : w3.ownsRow w0.heap.size 21 1 s.F n (i32s (nats F)) := HP2.out.z.f
      rw [HEF.out] at b3 rF
      have kF := row_cell rF (j := jj) (x := .int .i32 (p0 : Int)) (by unfold i32s nats; rw [List.getElem?_map, List.getElem?_map, HF0.out]; rfl)
      clear rF
      go_upto_region 4 with fail
      go_cut [4] from 21 to 29 (fun p' wx => p' = .int .i32 (p0 : Int) ∧ Tb w0 w wx b s n (reds K css) K L l M R F P ks0)
      case first =>
        go_region_law (go_simp; go_at_call 60; refine (index_any _ _).mono ?_; intro e w9 hh; rw [hh.1, hh.2, HJJ.out]; clear hh e w9; dsimp only)
        all_goals
          have HP3 : Hid (Tb w0 w w3.drew b s n (reds K css) K L l M R F P ks0) := HP2.out.below (Below.refl _ _).drew
          go_wp2_with fail
          go_meet
          exact ⟨rfl, HP3.out⟩
      case rest =>
      obtain ⟨rfl, hcut⟩ := hcut
      have HP3 : Hid (Tb w0 w wc b s n (reds K css) K L l M R F P ks0) := hcut
      clear hcut HP2 b3 kF
      generalize wc = w4 at *
      go_wp2
      go_loopg [4] p0 (fun g p' wr => ∃ ks, p' = .int .i32 ((g : Nat) : Int) ∧ Ch P g ks ∧ ks.Pairwise (· > ·) ∧ (∀ k ∈ ks, -l ∈ (reds K css).getD k []) ∧ g < P.length ∧ Tb w0 w wr b s n (reds K css) K L l M R F P ks)
      case atStart => exact ⟨ks0, rfl, HCH.out.1, HCH.out.2.1, fun k hk => (HCH.out.2.2 k).1 hk, hp1, HP3.out⟩
      case round =>
        obtain ⟨ks, rfl, hch, hpw, hks, hgP, hpt⟩ := hrel
        have HT : Hid (Tb w0 w wr b s n (reds K css) K L l M R F P ks) := hpt
        clear hpt
        by_cases hg0 : 0 < gk
        · obtain ⟨k, q, r, g1, g2, rfl, g4⟩ := hch.inv hg0
          obtain ⟨hkX, -⟩ := HPl.out.1.num gk k q hg0 g1
          have hkl : -l ∈ (reds K css).getD k [] := hks k (by simp)
          have hkr : k ∉ r := fun h2 => Nat.lt_irrefl _ ((List.pairwise_cons.1 hpw).1 k h2)
          have hz := HT.out.z
          have b4 := hz.c4
          have b2 := hz.c2
          have rP := hz.p
          rw [HEP.out] at b4 rP
          obtain ⟨k1, k2⟩ := twp_at g1
          have x1 := row_cell rP k1
          have x2 := row_cell rP k2
          obtain ⟨gE, cE, eE, e1, e2, e3⟩ := row_some hz.e (by omega)
          have rE := hz.e
          rw [eE] at b2 rE
          have x3 := row_cell rE (j := k) (x := .int .i32 (cnt (L ++ [l]) ((reds K css).getD k []) : Int)) (by unfold i32s; rw [List.getElem?_map, lfm_at hkX (by simp)]; rfl)
          have x4 := row_fz rE k
          obtain ⟨z1, m1⟩ := hz.setE eE hkX (cnt L ((reds K css).getD k []) : Int)
          rw [lfm_step hkX hkr] at z1
          have hcp := cnt_put (c := (reds K css).getD k []) HL.out.1
          rw [if_pos hkl] at hcp
          have hpos := cnt_pos HL.out.1 hkl
          have hcl : cnt L ((reds K css).getD k []) ≤ 1073741824 := Nat.le_trans (cnt_le _ _) (HPl.out.2.2.len _ (getD_in hkX))
          have hX := HPl.out.2.2.num
          have HZ : Hid (Tb w0 w (wr.setCell ⟨gE, k, none⟩ (.int .i32 (cnt L ((reds K css).getD k []) : Int))) b s n (reds K css) K L l M R F P r) := ⟨z1, HT.out.mo.trans m1⟩
          have HR : Hid (Ch P q r ∧ r.Pairwise (· > ·) ∧ (∀ j ∈ r, -l ∈ (reds K css).getD j []) ∧ q < P.length) := ⟨g4, (List.pairwise_cons.1 hpw).2, fun j hj => hks j (List.mem_cons_of_mem _ hj), by omega⟩
          have HM : Hid (q < gk) := g2
          have hPP : P.length ≤ 2147483648 := HPl.out.2.1
          have HG1 : Hid (P[gk]? = some (k, q)) := g1
          clear hz z1 m1 rP rE k1 k2 hch hpw hks g1 g4 hkl hkr eE HT
          generalize cnt (L ++ [l]) ((reds K css).getD k []) = c' at *
          generalize cnt L ((reds K css).getD k []) = c at *
          obtain rfl : c = c' + 1 := by omega
          have hwc2 : IntKind.i32.wrap ((c' : Int) + 1) = ((c' + 1 : Nat) : Int) := by rw [wrap_i32']; omega
          clear hcp hpos
          have ecc : ((c' + 1 : Nat) : Int) = (c' : Int) + 1 := by omega
          rw [ecc] at HZ hwc2
          clear ecc
          generalize hNX : (reds K css).length = N at *
          generalize hPn : P.length = Pn at *
          have HPn : Hid (P.length = Pn) := hPn
          clear hNX hPn
          have g1' : gk * 2 + 1 < 4294967297 := by omega
          go_upto_region 7 with fail
          go_region_law fail
          all_goals
            have HZ5 : Hid (Tb w0 w (wr.setCell ⟨gE, k, none⟩ (.int .i32 ((c' : Int) + 1))).drew b s n (reds K css) K L l M R F P r) := HZ.out.below (Below.refl _ _).drew
            clear HZ x1 x2 x3 x4 b4 b2
            generalize (wr.setCell ⟨gE, k, none⟩ (.int .i32 ((c' : Int) + 1))).drew = w5 at *
            have z5 := HZ5.out.z
            have u4 := z5.c4
            have rP := z5.p
            rw [HEP.out] at u4 rP
            rw [HPn.out] at rP
            have x5 := row_cell rP (twp_at HG1.out).2
            clear rP z5
            go_wp2
            go_roundg q
            case measure => exact HM.out
            case rel => exact ⟨r, rfl, HR.out.1, HR.out.2.1, HR.out.2.2.1, HR.out.2.2.2, HZ5.out⟩
        · obtain rfl : gk = 0 := by omega
          have hk0 := hch.zero
          subst hk0
          have HFn : Hid (Tu w0 w wr b s n (reds K css) K L M R F P) := by
            have z := HT.out.z
            rw [lfm_end] at z
            exact ⟨z, HT.out.mo⟩
          clear hch hks hgP
          go_wp2
          go_roundg (M.length - (j + 1))
          case measure => have := HJ.out; have := HLT.out; omega
          case rel => exact ⟨j + 1, by have := HLT.out; omega, by go_num, by rw [HL'.out]; exact HFn.out⟩
    · have hje : j = M.length := by have := HJ.out; omega
      have HTu2 : Hid (Tu w0 w wr b s n (reds K css) K [] M R F P) := by
        have := HTu.out
        rw [hje, List.drop_length] at this
        exact this
      clear HTu hje
      have HCl : Hid (∀ (W : World) (s' : Sy), Oz w0.heap.size W b s' n (reds K css).length (inLs n (K ++ [])) (lefts (reds K css) []) F P [] [] → s'.C = s.C → Mo w (s.own b) W (s'.own b) → ∃ s', Ow w0 W b s' n css K [] [] ∧ s'.C = s.C ∧ Mo w (s.own b) W (s'.own b)) := fun W s' z2 hC mo => by
        rw [reds_len] at z2
        exact ⟨s', ⟨Mo.bel HW.out.bel (fun k hk => (HW.out.lt k hk).1) mo, HW.out.fit, List.nodup_nil, by simp, F, P, z2, HPl.out.1, HPl.out.2.1⟩, hC, mo⟩
      have e5 : cut0 s.M = .slice aM 0 cM := by rw [HEM.out.1]; rfl
      have e6 : cut0 s.R = .slice aR 0 cR := by rw [HEM.out.2]; rfl
      have HFinA : Hid (∃ s', Ow w0 ((wr.setCell ⟨b, 5, none⟩ (.slice aM 0 cM)).setCell ⟨b, 6, none⟩ (.slice aR 0 cR)).drew b s' n css K [] [] ∧ s'.C = s.C ∧ Mo w (s.own b) ((wr.setCell ⟨b, 5, none⟩ (.slice aM 0 cM)).setCell ⟨b, 6, none⟩ (.slice aR 0 cR)).drew (s'.own b)) := by
        obtain ⟨zA, mA⟩ := HTu2.out.z.cutM
        obtain ⟨zB, mB⟩ := zA.cutR
        have mo := (HTu2.out.mo.trans mA).trans mB
        simp only [e5, e6] at zB mo
        exact HCl.out _ _ (zB.below (Below.refl _ _).drew) rfl (mo.trans (Mo.below (Below.refl _ _).drew))
      have HFinB : Hid (∃ s', Ow w0 ((wr.setCell ⟨b, 6, none⟩ (.slice aR 0 cR)).setCell ⟨b, 5, none⟩ (.slice aM 0 cM)).drew b s' n css K [] [] ∧ s'.C = s.C ∧ Mo w (s.own b) ((wr.setCell ⟨b, 6, none⟩ (.slice aR 0 cR)).setCell ⟨b, 5, none⟩ (.slice aM 0 cM)).drew (s'.own b)) := by
        obtain ⟨zA, mA⟩ := HTu2.out.z.cutR
        obtain ⟨zB, mB⟩ := zA.cutM
        have mo := (HTu2.out.mo.trans mA).trans mB
        simp only [e5, e6] at zB mo
        exact HCl.out _ _ (zB.below (Below.refl _ _).drew) rfl (mo.trans (Mo.below (Below.refl _ _).drew))
      have y5 := HTu2.out.z.c5
      have y6 := HTu2.out.z.c6
      have f5 := HTu2.out.z.fz 5
      have f6 := HTu2.out.z.fz 6
      rw [HEM.out.1] at y5
      rw [HEM.out.2] at y6
      have hRl : R.length ≤ R.length := Nat.le_refl _
      clear e5 e6 HCl
      go_upto_region 9 with fail
      go_region_law fail
      all_goals
        go_wp2
        go_end0
        first
        | exact ⟨rfl, HFinA.out⟩
        | exact ⟨rfl, HFinB.out⟩
end Go.Proofs.YtjajafeaengnjaaGreatDoor
