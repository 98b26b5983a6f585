/-
  heat: New.
  KEEP: set on app at below new trans refl start kept mono lt add none own nil put len pos other cell ty blt fz box k p r pr a0 a1 a2 c0 c1 c2 hb setK setP setR unique grown step fin bij up q1 q2 pl held mk v1 v2 t1 t2 hs few cut root z kl nl sl d1 d2 row down has holds stp bel
-/
import Derived.Test.YtbfjhgiifmhccaaHtN
set_option linter.unusedSimpArgs false
set_option linter.unusedVariables false
namespace Go.Proofs.Ytbfjhgiifmhccaa
open Go Go.RowKit
attribute [local go_sem] run_store_float

/-- is a decay one from a half to one -/
def leF (x y : Nat) : Bool := FloatKind.f64.format.order x y == some .lt || FloatKind.f64.format.order x y == some .eq
def dcB (d : Nat) : Bool := leF 4602678819172646912 d && leF d 4607182418800017408
theorem sgn_lt {p m u c : Nat} (hp : 0 < p) : Ieee.signed true m u < Ieee.signed false p c := by
  unfold Ieee.signed
  have h1 : 0 < p <<< c := by rw [Nat.shiftLeft_eq]; exact Nat.mul_pos hp (Nat.two_pow_pos _)
  simp only [Bool.false_eq_true, if_false, if_true]
  generalize p <<< c = x at *
  generalize m <<< u = y at *
  omega
theorem ord_neg {d : Nat} (h1 : 9223372036854775808 ≤ d) (h2 : d < 18446744073709551616) : Ieee.double.order 4602678819172646912 d = some .gt ∨ Ieee.double.order 4602678819172646912 d = none := by
  have hr : Ieee.double.read 4602678819172646912 = .number false 4503599627370496 (-53) := by decide
  unfold Ieee.Format.order
  rw [hr]
  have e1 : d / 9223372036854775808 % 2 = 1 := by omega
  unfold Ieee.Format.read
  simp only [sw_eq, e1, beq_self_eq_true]
  split
  · left
    show some (compare (Ieee.signed false 4503599627370496 _) (Ieee.signed true _ _)) = _
    rw [Int.compare_eq_gt.2 (sgn_lt (by omega))]
  · split
    · left
      show some (compare (Ieee.signed false 4503599627370496 _) (Ieee.signed true _ _)) = _
      rw [Int.compare_eq_gt.2 (sgn_lt (by omega))]
    · split
      · left; rfl
      · right; rfl
theorem ord_nan {d x : Nat} (h1 : infR < d) (h2 : d < 9223372036854775808) : Ieee.double.order x d = none := by
  unfold Ieee.Format.order
  have : ∃ t, Ieee.double.read d = .nan false t := by
    unfold Ieee.Format.read
    have e1 : d / 9223372036854775808 = 0 := by omega
    have e2 : d % 9223372036854775808 = d := by omega
    unfold infR at h1
    simp only [sw_eq, bin_eq, inf_eq, e1, e2]
    have hb : ¬ d < bnd := by unfold bnd; omega
    have hi : ¬ d < infR := by unfold infR; omega
    have he : ¬ d = infR := by unfold infR; omega
    rw [if_neg hb, if_neg hi, if_neg he]
    exact ⟨_, rfl⟩
  obtain ⟨t, ht⟩ := this
  rw [ht]
  cases Ieee.double.read x <;> rfl
theorem dc_range {d : Nat} (hd : d < 18446744073709551616) (h : dcB d = true) : 4602678819172646912 ≤ d ∧ d ≤ 4607182418800017408 := by
  simp only [dcB, leF, Bool.and_eq_true, Bool.or_eq_true, beq_iff_eq] at h
  obtain ⟨h1, h2⟩ := h
  have h1 : Ieee.double.order 4602678819172646912 d = some .lt ∨ Ieee.double.order 4602678819172646912 d = some .eq := h1
  have h2 : Ieee.double.order d 4607182418800017408 = some .lt ∨ Ieee.double.order d 4607182418800017408 = some .eq := h2
  by_cases hn : 9223372036854775808 ≤ d
  · rcases ord_neg hn hd with e | e <;> rw [e] at h1 <;> simp at h1
  · by_cases hi : d ≤ infR
    · rw [ord_word (by decide) hi] at h1
      rw [ord_word hi (by decide)] at h2
      constructor
      · rcases h1 with h1 | h1
        · exact Nat.le_of_lt (Nat.compare_eq_lt.1 (Option.some.inj h1))
        · exact Nat.le_of_eq (Nat.compare_eq_eq.1 (Option.some.inj h1))
      · rcases h2 with h2 | h2
        · exact Nat.le_of_lt (Nat.compare_eq_lt.1 (Option.some.inj h2))
        · exact Nat.le_of_eq (Nat.compare_eq_eq.1 (Option.some.inj h2))
    · rw [ord_nan (by omega) (by omega)] at h1; simp at h1
theorem new_far (n : Int) (d : Nat) (w : World) (h : n < 0 ∨ 1048576 < n) :
    Calls Try.prog 10 #[.int .i64 n, .float .f64 d] w fun e w' => e = .returned (.tuple #[.pointer none, .int .i64 2]) ∧ w' = w := by
  rcases h with h | h
  · go_enter Try.func10, Try.ntmps10
    go_wp2
    go_returns
    exact ⟨rfl, rfl⟩
  · have h0 : ¬ n < 0 := by omega
    go_enter Try.func10, Try.ntmps10
    go_wp2
    go_returns
    exact ⟨rfl, rfl⟩
theorem new_bad (n : Nat) (d : Nat) (w : World) (hn : n ≤ 1048576) (h : dcB d = false) :
    Calls Try.prog 10 #[.int .i64 (n : Int), .float .f64 d] w fun e w' => e = .returned (.tuple #[.pointer none, .int .i64 2]) ∧ w' = w := by
  unfold dcB at h
  have e1 : (FloatKind.f64.format.order 4602678819172646912 d == some .lt || FloatKind.f64.format.order 4602678819172646912 d == some .eq) = leF 4602678819172646912 d := rfl
  have e2 : (FloatKind.f64.format.order d 4607182418800017408 == some .lt || FloatKind.f64.format.order d 4607182418800017408 == some .eq) = leF d 4607182418800017408 := rfl
  cases h1 : leF 4602678819172646912 d
  · rw [h1] at e1
    clear h e2 h1
    go_enter Try.func10, Try.ntmps10
    go_wp2
    go_returns
    exact ⟨rfl, rfl⟩
  · rw [h1] at e1 h
    rw [Bool.true_and] at h
    rw [h] at e2
    clear h h1
    go_enter Try.func10, Try.ntmps10
    go_wp2
    go_returns
    exact ⟨rfl, rfl⟩
def NewS (w : World) (n d : Nat) (e : Ending) (w' : World) : Prop := ∃ b v, e = .returned (.tuple #[.pointer (some ⟨b, 0, none⟩), .int .i64 0]) ∧ Ht w.heap.size w' b v n d 4607182418800017408 (List.replicate (n + 1) 0) (fun _ => true) ∧ Below w.heap.size w w'
theorem gt_repl (N k : Nat) : gt (List.replicate N 0) k = 0 := by
  unfold gt; rw [List.getD_eq_getElem?_getD, List.getElem?_replicate]; split <;> rfl
theorem FulS.heat {w w' : World} {n d : Nat} {kv pv rv : Value} (h : FulS w w' n kv pv rv) (hn : n ≤ 1048576) (h1 : 4602678819172646912 ≤ d) (h2 : d ≤ 4607182418800017408) :
    Ht w.heap.size (w'.alloc (.cells #[.float .f64 d, .float .f64 4607182418800017408, kv, pv, rv] 70)) w'.heap.size ⟨kv, pv, rv⟩ n d 4607182418800017408 (List.replicate (n + 1) 0) (fun _ => true) := by
  refine ⟨⟨List.range (n + 1), List.range (n + 1), ⟨World.alloc_heap_new w' _, h.bel.size, rfl, rfl, rfl, ?_, ?_, ?_, h.pr, (show (70 : TypeId) ≠ 23 by decide), (show (70 : TypeId) ≠ 21 by decide)⟩, full_bij n, full_hp n _ (gt_repl _), ?_⟩, by simp, hn, fun k => by rw [gt_repl]; exact Nat.zero_le _, by decide, h1, h2⟩
  · have := World.ownsRow.alloc h.k (.cells #[.float .f64 d, .float .f64 4607182418800017408, kv, pv, rv] 70)
    rw [List.length_replicate]; exact this
  · have := World.ownsRow.alloc h.p (.cells #[.float .f64 d, .float .f64 4607182418800017408, kv, pv, rv] 70)
    rw [List.length_range]; exact this
  · have := World.ownsRow.alloc h.r (.cells #[.float .f64 d, .float .f64 4607182418800017408, kv, pv, rv] 70)
    rw [List.length_range]; exact this
  · intro u hu hu'
    have : gt (List.range (n + 1)) u = u := by unfold gt; rw [List.getD_eq_getElem?_getD, List.getElem?_range (by omega)]; rfl
    rw [this]; exact ⟨fun _ => rfl, fun _ => by omega⟩
theorem new_yes (n : Nat) (d : Nat) (w : World) (hn : n ≤ 1048576) (hd : d < 18446744073709551616) (h : dcB d = true) :
    Calls Try.prog 10 #[.int .i64 (n : Int), .float .f64 d] w fun e w' => NewS w n d e w' := by
  obtain ⟨r1, r2⟩ := dc_range hd h
  unfold dcB at h
  rw [Bool.and_eq_true] at h
  have e1 : (FloatKind.f64.format.order 4602678819172646912 d == some .lt || FloatKind.f64.format.order 4602678819172646912 d == some .eq) = true := h.1
  have e2 : (FloatKind.f64.format.order d 4607182418800017408 == some .lt || FloatKind.f64.format.order d 4607182418800017408 == some .eq) = true := h.2
  have HFul : Hid (Calls Try.prog 27 #[.int .i64 (n : Int)] w fun e w' => ∃ kv pv rv, e = .returned (.agg #[kv, pv, rv]) ∧ FulS w w' n kv pv rv) := full_any n w hn
  have HF : Hid (∀ w' kv pv rv, FulS w w' n kv pv rv → NewS w n d (.returned (.tuple #[.pointer (some ⟨w'.heap.size, 0, none⟩), .int .i64 0])) (w'.alloc (.cells #[.float .f64 d, .float .f64 4607182418800017408, kv, pv, rv] 70))) := fun w' kv pv rv hf =>
    ⟨_, _, rfl, hf.heat hn r1 r2, Below.step hf.bel (below_box _ _)⟩
  clear h r1 r2 hd
  go_enter Try.func10, Try.ntmps10
  go_wp2_with (go_at_call 27; refine HFul.out.mono ?_; rintro e w' ⟨kv, pv, rv, rfl, hf⟩; have HX : Hid _ := HF.out w' kv pv rv hf; clear hf)
  go_returns
  exact HX.out
end Go.Proofs.Ytbfjhgiifmhccaa
