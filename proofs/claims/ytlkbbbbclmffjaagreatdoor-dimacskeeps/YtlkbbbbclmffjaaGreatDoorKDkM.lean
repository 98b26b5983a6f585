/-
  DimacsKeeps: modelsApart, walked.
  KEEP: set on app at below new trans refl kept rd rds mono own row cells lt box from cell of obw sat mod err line
-/
import Derived.Test.YtlkbbbbclmffjaaGreatDoorJClW
import Derived.Test.YtlkbbbbclmffjaaGreatDoorJDmR
import Derived.Test.YtlkbbbbclmffjaaGreatDoorKSameBs
import Derived.Test.YtlkbbbbclmffjaaGreatDoorJAparQ
import Derived.Test.YtlkbbbbclmffjaaGreatDoorKAnL
set_option linter.unusedSimpArgs false
set_option linter.unusedVariables false
namespace Go.Proofs.YtlkbbbbclmffjaaGreatDoor
open Go Go.RowKit Go.Shelf

attribute [local go_sem] Oper.semAt_some
theorem three_row (W : World) {B : Nat} (hB : B ≤ W.heap.size) (x y z : Value) : (W.alloc (.cells #[x, y, z] 25)).ownsRow B 25 1 (.slice (some ⟨W.heap.size, 0, none⟩) 3 3) 3 ((List.range 3).map (fun j => if j = 0 then x else if j = 1 then y else z)) :=
  ⟨rfl, .inr ⟨W.heap.size, 3, #[x, y, z], rfl, hB, World.alloc_heap_new W _, Nat.le_refl _, by unfold maxLen; omega, rfl, rfl⟩⟩
/-- what a ReadAnswer answers, in plain words -/
def Ans (w : World) (A : AnA) (e : Ending) (w' : World) : Prop :=
  ∃ a c, e = .returned (.tuple #[.bool A.sat, .slice a A.mod.length c, .int .i64 A.err, .int .i64 (A.line : Int)]) ∧ OwnBo w.heap.size w' (.slice a A.mod.length c) A.mod ∧ Below w.heap.size w w'
theorem Ans.of {w w' : World} {A : AnA} {e : Ending} (h : AnS w A e w') : Ans w A e w' := by
  obtain ⟨v, he, ho, hb⟩ := h
  obtain ⟨a, c, hv⟩ := row_sliceB ho
  subst hv
  exact ⟨a, c, he, ho, hb⟩

set_option maxRecDepth 100000 in
set_option maxHeartbeats 6400000 in
theorem modelsApart_any (s t : ByteArray) (w : World) (hs : s.data.toList.length < 4294967281) (ht : t.data.toList.length < 4294967281) :
    Calls Tryz.prog 16 #[.string s, .string t] w fun e w' => e = .returned (.bool true) ∧ Below w.heap.size w w' := by
  obtain ⟨A, hA⟩ : ∃ A, anF s.data.toList = A := ⟨_, rfl⟩
  obtain ⟨C, hC⟩ : ∃ C, anF t.data.toList = C := ⟨_, rfl⟩
  have HLa : Hid (A.mod.length ≤ 4294967296 ∧ C.mod.length ≤ 4294967296) := ⟨by rw [← hA]; exact Nat.le_trans (anF_len _) (by omega), by rw [← hC]; exact Nat.le_trans (anF_len _) (by omega)⟩
  have HP : Hid (∀ W, Calls Tryz.prog 31 #[.string s] W (Ans W A)) := fun W => (dimAnswer_any s W hs).mono fun e w' h => by rw [hA] at h; exact Ans.of h
  have HPt : Hid (∀ W, Calls Tryz.prog 31 #[.string t] W (Ans W C)) := fun W => (dimAnswer_any t W ht).mono fun e w' h => by rw [hC] at h; exact Ans.of h
  have hs2 : s.size ≤ 1099511627776 := by have h5 := ba_len s; omega
  have ht2 : t.size ≤ 1099511627776 := by have h5 := ba_len t; omega
  have HR : Hid (∀ W, Calls Tryz.prog 32 #[.string s] W (Ans W A)) := fun W => (rAnswer_any s W hs2).mono fun e w' h => by rw [hA] at h; exact Ans.of h
  have HRt : Hid (∀ W, Calls Tryz.prog 32 #[.string t] W (Ans W C)) := fun W => (rAnswer_any t W ht2).mono fun e w' h => by rw [hC] at h; exact Ans.of h
  clear hA hC hs ht hs2 ht2
  obtain ⟨sa, am, ae, al⟩ := A
  obtain ⟨cs, cm, ce, cl⟩ := C
  go_enter Tryz.func16, Tryz.ntmps16
  go_wp2_with fail
  refine Calls.mono (HP.out _) ?_
  rintro e w1 ⟨a1, c1, rfl, o1, b1⟩
  go_wp2_with fail
  refine Calls.mono (HP.out _) ?_
  rintro e w2 ⟨a2, c2, rfl, o2, b2⟩
  go_wp2_with fail
  refine Calls.mono (HPt.out _) ?_
  rintro e w3 ⟨a3, c3, rfl, o3, b3⟩
  go_wp2_with fail
  refine Calls.mono (HR.out _) ?_
  rintro e w4 ⟨a4, c4, rfl, o4, b4⟩
  go_wp2_with fail
  refine Calls.mono (HRt.out _) ?_
  rintro e w5 ⟨a5, c5, rfl, o5, b5⟩
  dsimp only at o1 o2 o3 o4 o5 HLa
  have s1 := b1.size
  have s2 := b2.size
  have s3 := b3.size
  have s4 := b4.size
  have HO : Hid (∀ W, Below w5.heap.size w5 W → OwnBo w.heap.size W (.slice a1 am.length c1) am ∧ OwnBo w1.heap.size W (.slice a2 am.length c2) am ∧ OwnBo w2.heap.size W (.slice a3 cm.length c3) cm ∧ OwnBo w3.heap.size W (.slice a4 am.length c4) am ∧ OwnBo w4.heap.size W (.slice a5 cm.length c5) cm ∧ Below w.heap.size w W) := fun W h =>
    ⟨(((((o1.belowA b2).belowA b3).belowA b4).belowA b5).belowA h), ((((o2.belowA b3).belowA b4).belowA b5).belowA h), (((o3.belowA b4).belowA b5).belowA h), ((o4.belowA b5).belowA h), o5.belowA h, Below.step (Below.step (Below.step (Below.step (Below.step b1 b2) b3) b4) b5) h⟩
  have HRd : Hid (∀ W, Below w5.heap.size w5 W → RdB W (.slice a1 am.length c1) am ∧ RdB W (.slice a2 am.length c2) am ∧ RdB W (.slice a3 cm.length c3) cm ∧ RdB W (.slice a4 am.length c4) am ∧ RdB W (.slice a5 cm.length c5) cm) := fun W h => by
    have hl := HLa.out
    obtain ⟨q1, q2, q3, q4, q5, _⟩ := HO.out W h
    exact ⟨OwnBo.rd q1 (by omega), OwnBo.rd q2 (by omega), OwnBo.rd q3 (by omega), OwnBo.rd q4 (by omega), OwnBo.rd q5 (by omega)⟩
  have HBk : Hid ((∀ b, (Value.slice a1 am.length c1).ownBlock = some b → w.heap.size ≤ b ∧ b < w1.heap.size) ∧ (∀ b, (Value.slice a2 am.length c2).ownBlock = some b → w1.heap.size ≤ b ∧ b < w2.heap.size) ∧ (∀ b, (Value.slice a3 cm.length c3).ownBlock = some b → w2.heap.size ≤ b ∧ b < w3.heap.size) ∧ (∀ b, (Value.slice a4 am.length c4).ownBlock = some b → w3.heap.size ≤ b ∧ b < w4.heap.size)) :=
    ⟨World.ownsRow.lt o1, World.ownsRow.lt o2, World.ownsRow.lt o3, World.ownsRow.lt o4⟩
  have HSB : Hid (∀ (x y : Value) (z : List Bool) W, RdB W x z → RdB W y z → Calls Tryz.prog 33 #[x, y] W fun e w' => e = .returned (.bool true) ∧ Below W.heap.size W w') := fun x y z W h1 h2 => by
    have h5 := sameBools_any x y z z W h1 h2
    rw [show (z == z) = true from beq_self_eq_true z] at h5
    exact h5
  clear o1 o2 o3 o4 o5 b1 b2 b3 b4 b5
  go_wp2_with fail
  refine Calls.mono (HSB.out _ _ am w5 (HRd.out w5 (Below.refl _ _)).1 (HRd.out w5 (Below.refl _ _)).2.2.2.1) ?_
  rintro e w6 ⟨rfl, b6⟩
  have HB6 : Hid (Below w5.heap.size w5 w6) := b6
  clear b6
  go_wp2_with fail
  refine Calls.mono (HSB.out _ _ am w6 (HRd.out w6 HB6.out).2.1 (HRd.out w6 HB6.out).2.2.2.1) ?_
  rintro e w7 ⟨rfl, b7⟩
  have HB7 : Hid (Below w5.heap.size w5 w7) := Below.step HB6.out b7
  clear b7
  go_wp2_with fail
  refine Calls.mono (HSB.out _ _ cm w7 (HRd.out w7 HB7.out).2.2.1 (HRd.out w7 HB7.out).2.2.2.2) ?_
  rintro e w8 ⟨rfl, b8⟩
  have HB8 : Hid (Below w5.heap.size w5 w8) := Below.step HB7.out b8
  have hs8 : w.heap.size ≤ w8.heap.size := (HO.out w8 HB8.out).2.2.2.2.2.size
  clear b8
  have HRow : Hid ((w8.alloc (.cells #[.slice a1 am.length c1, .slice a2 am.length c2, .slice a3 cm.length c3] 25)).ownsRow w.heap.size 25 1 (.slice (some ⟨w8.heap.size, 0, none⟩) 3 3) 3 ((List.range 3).map (fun j => if j = 0 then .slice a1 am.length c1 else if j = 1 then .slice a2 am.length c2 else .slice a3 cm.length c3))) := three_row w8 hs8 _ _ _
  have HBx : Hid (Below w5.heap.size w5 (w8.alloc (.cells #[.slice a1 am.length c1, .slice a2 am.length c2, .slice a3 cm.length c3] 25))) := Below.step HB8.out (below_box _ _)
  go_wp2_with fail
  generalize w8.alloc (.cells #[.slice a1 am.length c1, .slice a2 am.length c2, .slice a3 cm.length c3] 25) = wX at *
  have hw5 : w5.heap.size ≤ wX.heap.size := HBx.out.size
  have hsX : w.heap.size ≤ wX.heap.size := (HO.out wX HBx.out).2.2.2.2.2.size
  refine Calls.mono (apart_b (fun k => (Value.slice a4 am.length c4).ownBlock = some k) w.heap.size _ 3 (fun j => if j = 0 then .slice a1 am.length c1 else if j = 1 then .slice a2 am.length c2 else .slice a3 cm.length c3) (fun j => if j = 0 then am.length else if j = 1 then am.length else cm.length) wX hsX HRow.out
    (fun j hj => by
      obtain ⟨q1, q2, q3, _⟩ := HO.out wX HBx.out
      by_cases h0 : j = 0
      · rw [if_pos h0, if_pos h0]; exact ⟨am, Orw.of q1 (by decide), rfl⟩
      · rw [if_neg h0, if_neg h0]
        by_cases h1 : j = 1
        · rw [if_pos h1, if_pos h1]; exact ⟨am, (Orw.of q2 (by decide)).mono (by omega), rfl⟩
        · rw [if_neg h1, if_neg h1]; exact ⟨cm, (Orw.of q3 (by decide)).mono (by omega), rfl⟩)
    (fun i j hi hj hij => by
      obtain ⟨k1, k2, k3, k4⟩ := HBk.out
      have key : ∀ {x y : Value}, (∀ b, x.ownBlock = some b → y.ownBlock ≠ some b) → (x.ownBlock = none ∨ x.ownBlock ≠ y.ownBlock) := fun {x y} h => by
        cases hx : x.ownBlock with
        | none => exact .inl rfl
        | some b => exact .inr (fun e => h b hx e.symm)
      refine key (fun b hb hc => ?_)
      by_cases i0 : i = 0 <;> by_cases i1 : i = 1 <;> by_cases j0 : j = 0 <;> by_cases j1 : j = 1 <;> simp only [i0, i1, j0, j1, if_true, if_false] at hb hc <;> first
        | omega
        | (have e1 := k1 b hb; have e2 := k2 b hc; omega)
        | (have e1 := k1 b hb; have e2 := k3 b hc; omega)
        | (have e1 := k2 b hb; have e2 := k1 b hc; omega)
        | (have e1 := k2 b hb; have e2 := k3 b hc; omega)
        | (have e1 := k3 b hb; have e2 := k1 b hc; omega)
        | (have e1 := k3 b hb; have e2 := k2 b hc; omega))
    (by omega)
    (fun j hj => by
      have hl := HLa.out
      by_cases h0 : j = 0
      · rw [if_pos h0]; omega
      · rw [if_neg h0]
        by_cases h1 : j = 1
        · rw [if_pos h1]; omega
        · rw [if_neg h1]; omega)
    (fun j hj b hb hq => by
      obtain ⟨k1, k2, k3, k4⟩ := HBk.out
      have e4 := k4 b hq
      by_cases h0 : j = 0
      · rw [if_pos h0] at hb; have := k1 b hb; omega
      · rw [if_neg h0] at hb
        by_cases h1 : j = 1
        · rw [if_pos h1] at hb; have := k2 b hb; omega
        · rw [if_neg h1] at hb; have := k3 b hb; omega)
    (fun k hk => by
      obtain ⟨k1, k2, k3, k4⟩ := HBk.out
      have e4 := k4 k hk
      have h5 := World.ownsRow.lt (HO.out wX HBx.out).2.2.2.1 k hk
      exact h5.2)) ?_
  rintro e wY ⟨rfl, bY, kY⟩
  have HOY : Hid (OwnBo w3.heap.size wY (.slice a4 am.length c4) am ∧ Below w.heap.size w wY) := by
    obtain ⟨q1, q2, q3, q4, q5, q6⟩ := HO.out wX HBx.out
    exact ⟨row_kept q4 fun k e => kY k e.symm, q6.trans bY⟩
  clear bY kY HRow
  go_wp2_with fail
  refine Calls.mono (HP.out _) ?_
  rintro e wZ ⟨a9, c9, rfl, o9, b9⟩
  dsimp only at o9
  have HR9 : Hid (RdB wZ (.slice a9 am.length c9) am ∧ RdB wZ (.slice a4 am.length c4) am ∧ Below w.heap.size w wZ) := ⟨OwnBo.rd o9 (by have := HLa.out; omega), OwnBo.rd (HOY.out.1.belowA b9) (by have := HLa.out; omega), Below.step HOY.out.2 b9⟩
  clear o9 b9
  go_wp2_with fail
  refine Calls.mono (HSB.out _ _ am wZ HR9.out.1 HR9.out.2.1) ?_
  rintro e wF ⟨rfl, bF⟩
  have HBF : Hid (Below w.heap.size w wF) := Below.step HR9.out.2.2 bF
  clear bF
  go_wp2
  go_ret
  exact ⟨rfl, HBF.out⟩

end Go.Proofs.YtlkbbbbclmffjaaGreatDoor
