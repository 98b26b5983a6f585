/-
  depotlaw02.turned, walked; what stays while lists that were lent are written over.
  KEEP: set on app at below new trans refl start ap kept rd rds mono lt add none own nil put len pos setF setV putL putR other neV same_any row
-/
import Derived.Test.YtbnnoajpmmbpbaaTrn
set_option linter.unusedSimpArgs false
set_option linter.unusedVariables false
namespace Go.Proofs.Ytbnnoajpmmbpbaa
open Go Go.RowKit Go.Shelf

theorem Fr.toBelow {Q : Nat → Prop} {B : Nat} {w W W' : World} (h : Below B w W) (hf : Fr Q W W') (hB : B ≤ W.heap.size) (hq : ∀ k, Q k → B ≤ k) : Below B w W' :=
  ⟨hf.os.trans h.os, hf.tape.trans h.tape, hf.output.trans h.output, Nat.le_trans h.size hf.size, fun k hk => (hf.block k (by omega) (fun e => by have := hq k e; omega)).trans (h.block k hk)⟩
theorem cutN_zero {B : Nat} {W : World} {x : Value} {z : List Int} (h : Own B W x z) : cutN 0 x = x := by
  obtain ⟨a, c, rfl⟩ := own_form h
  rfl
theorem OwnR.tn {B : Nat} {W : World} {a : Option Addr} {c : Nat} {L : List Cls} (h : OwnR B W (.slice a L.length c) L) : Tn B W a (L.map Prod.snd) [] L := by
  refine ⟨fun k hk => ?_, h.own, h.ap, by simp⟩
  obtain ⟨g, cap, e, h1, h2, h3⟩ := row_some h.row (by omega)
  injection e with e1 _ e3
  subst e1; subst e3
  refine ⟨g, rfl, h3, ?_, fun x hx e => ?_⟩
  · have := row_cell h.row (j := k) (x := (L[k]).1) (by rw [List.getElem?_map, List.getElem?_eq_getElem hk]; rfl)
    rw [this, List.length_nil, cutN_zero (h.own _ (List.getElem_mem hk))]
  · exact block_apart (by decide) h.row (h.own x hx) e.symm rfl
theorem OwnR.turned {B : Nat} {W W' : World} {a : Option Addr} {c : Nat} {L : List Cls} (h : OwnR B W (.slice a L.length c) L) (hf : Fr (TnB L) W W') {css : List (List Int)} (ht : Tn B W' a css [] (L.map (tnC []))) : OwnF B W' (.slice a L.length c) css := by
  refine ⟨L.map (tnC []), ⟨?_, ht.own, ht.ap⟩, by rw [ht.ls]; simp⟩
  have e : (L.map (tnC [])).map Prod.fst = L.map Prod.fst := by simp [tnC, Function.comp_def]
  rw [e, List.length_map]
  refine row_kept h.row fun k hk => hf.block k (h.row.lt k hk.symm).2 ?_
  rintro ⟨x, hx, e⟩
  exact block_apart (by decide) h.row (h.own x hx) e.symm hk.symm
theorem tnB_le {B : Nat} {W : World} {L : List Cls} (h : ∀ x ∈ L, Own B W x.1 x.2) : ∀ k, TnB L k → B ≤ k ∧ k < W.heap.size := fun k ⟨x, hx, e⟩ => (h x hx).lt k e.symm
set_option maxHeartbeats 6400000 in
theorem turned_any (n : Int) (s : Value) (css : List (List Int)) (w : World) (hr : Rds w s css) (hc2 : css.length ≤ 2147483648) :
    Calls Try.prog 9 #[.agg #[.int .i64 n, s]] w fun e w' => ∃ u, e = .returned (.agg #[.int .i64 n, u]) ∧ OwnF w.heap.size w' u (css.map (·.map ngv)) ∧ Below w.heap.size w w' := by
  have HX : Hid (En w n s css ((w.alloc (.cells #[.int .i64 n, s] 24)).alloc (.cells #[.int .i64 0, .slice none 0 0] 24))) := En.new hr
  have HZ : Hid (∀ z ∈ css, z.length * 8 ≤ 140737488351232) := rds_each hr
  have c0 := HX.out.bx.c0
  have c1 := HX.out.bx.c1
  clear hr
  go_enter Try.func9, Try.ntmps9
  go_wp2_with fail
  clear c0 c1
  generalize (w.alloc (.cells #[.int .i64 n, s] 24)).alloc (.cells #[.int .i64 0, .slice none 0 0] 24) = W0 at *
  refine (copyFormula_any n s css W0 HX.out.bx.rd).mono ?_
  rintro e w1 ⟨u1, rfl, own1, bel1⟩
  obtain ⟨a1, k1, hu1⟩ := ownf_form own1
  subst hu1
  obtain ⟨L, hL, hLs⟩ := own1
  have HX1 : Hid (En w n s css (w1.alloc (.cells #[.int .i64 n, .slice a1 css.length k1] 24))) := (HX.out.on bel1).on (below_box _ _)
  have hLl : L.length = css.length := by have := congrArg List.length hLs; simpa using this
  have hL1 : OwnR W0.heap.size (w1.alloc (.cells #[.int .i64 n, .slice a1 css.length k1] 24)) (.slice a1 L.length k1) L := by rw [hLl]; exact hL.below (below_box _ _)
  have HL1 : Hid (OwnR W0.heap.size (w1.alloc (.cells #[.int .i64 n, .slice a1 css.length k1] 24)) (.slice a1 L.length k1) L) := hL1
  have HTn : Hid (Tn W0.heap.size (w1.alloc (.cells #[.int .i64 n, .slice a1 css.length k1] 24)) a1 css [] L) := by have := hL1.tn; rw [hLs] at this; exact this
  have HD : Hid (Bx2 (w1.alloc (.cells #[.int .i64 n, .slice a1 css.length k1] 24)) w1.heap.size 24 (.int .i64 n) (.slice a1 css.length k1)) := Bx2.new _ _ _ _
  have hk1 : css.length ≤ k1 := by
    by_cases h0 : css.length = 0
    · omega
    · obtain ⟨g, cap, e, h1, -, -⟩ := row_some hL.row (by rw [hLl]; omega)
      injection e with _ _ e3
      omega
  have HLl : Hid (L.length = css.length) := hLl
  have HS0 : Hid (w.heap.size + 1 < W0.heap.size) := HX.out.ans.lt
  have HS1 : Hid (W0.heap.size ≤ w1.heap.size) := bel1.size
  clear hL hL1 bel1 hLl hLs
  have d0 := HD.out.c0
  have d1 := HD.out.c1
  go_wp2_with fail
  clear d0 d1
  generalize hw2 : w1.alloc (.cells #[.int .i64 n, .slice a1 css.length k1] 24) = w2 at *
  refine (turn_any W0.heap.size a1 k1 css [] L w2 HTn.out hk1 hc2 (fun z hz => by have := HZ.out z hz; omega)).mono ?_
  rintro e w3 ⟨⟨v3, rfl⟩, hfr, htn⟩
  have hle := tnB_le HL1.out.own
  have HO3 : Hid (OwnF w.heap.size w3 (.slice a1 css.length k1) (css.map (·.map ngv))) := by
    have := HL1.out.turned hfr htn
    rw [HLl.out] at this
    exact this.mono (by have := HS0.out; omega)
  have HA3 : Hid (Bx2 w3 (w.heap.size + 1) 24 (.int .i64 0) (.slice none 0 0)) := (hfr.block _ HX1.out.ans.lt (fun e => by have := (hle _ e).1; have := HS0.out; omega)).trans HX1.out.ans
  have HD3 : Hid (Bx2 w3 w1.heap.size 24 (.int .i64 n) (.slice a1 css.length k1)) := (hfr.block _ HD.out.lt (fun ⟨x, hx, e⟩ => HD.out.not_row (by decide) (HL1.out.own x hx) e)).trans HD.out
  have HB3 : Hid (Below w.heap.size w w3) := hfr.toBelow HX1.out.bx.bel (by have := HX1.out.bx.bel.size; exact this) (fun k hk => by have := (hle k hk).1; have := HS0.out; omega)
  have d0 := HD3.out.c0
  have d1 := HD3.out.c1
  have a0 := HA3.out.c0
  have a1' := HA3.out.c1
  have f0 := HA3.out.f0
  have f1 := HA3.out.f1
  clear hfr htn hle
  go_wp2
  have hb := (HA3.out.set0 (.int .i64 n)).set1 (.slice a1 css.length k1)
  try simp only [Exit.inBlock, Exit.then]
  refine bodyPost_ret (results_cell_row rfl _ _ (w.heap.size + 1) 24 #[.int .i64 n, .slice a1 css.length k1] (0, 0) _ rfl hb Try.underlying24 rfl (by kernel_rfl)) rfl ?_
  exact ⟨_, rfl, (HO3.out.set HA3.out (by decide) (by decide) _ _).set (HA3.out.set0 _) (by decide) (by decide) _ _, below_set (below_set HB3.out (by omega) _ _) (by omega) _ _⟩
end Go.Proofs.Ytbnnoajpmmbpbaa
