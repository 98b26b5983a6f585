/-
  PackOpens, walked.
  KEEP: len below nil form rd mono rdz on app start at new trans refl kept own row ap out step
-/
import Derived.Test.YtidlljeiholboaaDoorJDrR
import Derived.Test.YtidlljeiholboaaDoorKPkO
import Derived.Test.YtidlljeiholboaaDoorPkU
set_option linter.unusedSimpArgs false
set_option linter.unusedVariables false
namespace Go.Proofs.YtidlljeiholboaaDoor
open Go Go.RowKit

set_option maxHeartbeats 3200000 in
set_option maxRecDepth 100000 in
theorem rOpen_any (w : World) (bv : Value) (T : List UInt8) (hr : RdY w bv T) (hbig : T.length ≤ 1099511627776) :
    Calls Tryd.prog 25 #[bv] w (DecP w (opB T)) := by
  have hcv := conv_y hr
  have HR : Hid (RdY w bv T) := hr
  have HRe := rRead_any ⟨T.toArray⟩ w (by simpa [ByteArray.size] using hbig)
  have hTd : (⟨T.toArray⟩ : ByteArray).data.toList = T := by simp
  rw [hTd] at HRe
  obtain ⟨a, c, rfl, hc, hm, _⟩ := hr.form
  clear hr hTd
  by_cases h0 : (parD T).2 = 0
  · have e : redB T = ((parD T).1, 0, 0) := by unfold redB; rw [if_pos h0]
    rw [e] at HRe
    have HX : Hid (opB T = ((parD T).1, 0, 0)) := by show _ = _; unfold opB; rw [if_pos h0]
    have HRe : Hid (Calls Tryd.prog 9 #[.string ⟨T.toArray⟩] w fun e w' => ∃ v, e = .returned (.tuple #[v, .int .i64 0, .int .i64 0]) ∧ OwnS w.heap.size w' v (parD T).1 ∧ Below w.heap.size w w') := HRe
    clear h0 e
    go_enter Tryd.func25, Tryd.ntmps25
    go_wp2_with fail
    refine HRe.out.mono ?_
    rintro e w1 ⟨v, rfl, own1, bel1⟩
    go_wp2
    go_returns
    rw [HX.out]
    exact ⟨_, rfl, own1, bel1⟩
  · have HX : Hid (opB T = decB T) := by show _ = _; unfold opB; rw [if_neg h0]
    obtain ⟨k, hk⟩ : ∃ k, k = (parD T).2 := ⟨_, rfl⟩
    have e : redB T = ([], 90, k) := by unfold redB; rw [if_neg h0, hk]
    rw [e] at HRe
    have HRe : Hid (Calls Tryd.prog 9 #[.string ⟨T.toArray⟩] w fun e w' => ∃ v, e = .returned (.tuple #[v, .int .i64 90, .int .i64 (k : Int)]) ∧ OwnS w.heap.size w' v [] ∧ Below w.heap.size w w') := HRe
    clear h0 hk e
    go_enter Tryd.func25, Tryd.ntmps25
    go_wp2_with fail
    refine HRe.out.mono ?_
    rintro e w1 ⟨v, rfl, own1, bel1⟩
    have HD : Hid (Calls Tryd.prog 50 #[.slice a T.length c] w1 (DecP w1 (decB T))) := rDecode_any w1 _ T (HR.out.below bel1) hbig
    generalize decB T = X at *
    obtain ⟨l, E, P⟩ := X
    go_wp2_with (go_at_call 50; refine HD.out.mono ?_; rintro e w2 ⟨v2, rfl, own2, bel2⟩)
    go_returns
    rw [HX.out]
    exact ⟨_, rfl, own2.mono bel1.size, Below.step bel1 bel2⟩
/-- what is read is no longer than the bytes -/
theorem dec_lenO (all : List UInt8) : (decB all).1.length ≤ all.length ∧ ∀ x ∈ (decB all).1, x.2.length ≤ all.length := by
  have hx : ∀ l : List Stp, ∀ x ∈ l, (litsB x.2).length ≤ (encB l).length := fun l x hm => by
    induction l with
    | nil => cases hm
    | cons y r ih =>
      have e : encB (y :: r) = stpB y ++ encB r := rfl
      have e2 : (stpB y).length = (litsB y.2).length + 2 := by simp [stpB]
      rw [e, List.length_append]
      rcases List.mem_cons.1 hm with rfl | hm
      · omega
      · have := ih hm; omega
  rcases dec_say all with ⟨l, hs, h1, h2⟩ | h1 | ⟨q, h1, _⟩ | ⟨q, e, _, h1, _⟩
  · rw [h1]
    have h3 := encB_len l
    rw [← h2] at h3
    refine ⟨by show l.length ≤ _; omega, fun x hm => ?_⟩
    have h4 := hx l x hm
    rw [← h2] at h4
    have := litsB_len x.2
    omega
  all_goals (rw [h1]; exact ⟨Nat.zero_le _, fun x hm => by cases hm⟩)
theorem op_lenO (T : List UInt8) : (opB T).1.length ≤ T.length ∧ ∀ x ∈ (opB T).1, x.2.length ≤ T.length := by
  unfold opB
  split
  · exact par_len T
  · exact dec_lenO T
theorem opB_rdz {w : World} {T : List UInt8} {w' : World} {v : Value} (hb : T.length ≤ 1048576) (h : OwnS w.heap.size w' v (opB T).1) : RdZ w' v (opB T).1 := by
  have hl := op_lenO T
  exact h.rdz (by omega) (fun x hx => by have := hl.2 x hx; omega)
namespace packOpens
set_option maxHeartbeats 3200000 in
set_option maxRecDepth 100000 in
theorem walk (s : Value) (T : List UInt8) (w : World) (hr : RdY w s T) (hb : T.length ≤ 1048576) (he : Env w) :
    Calls Tryd.prog 6 #[s] w fun e w' => e = .returned (.bool true) ∧ RowKit.Below w.heap.size w w' := by
  have hl := hr.len
  have HR : Hid (RdY w s T) := hr
  have HEnv : Hid (Env w) := he
  obtain ⟨a, c, rfl, hc, hm, _⟩ := hr.form
  have HD1 : Hid (∀ W v, RdY W v T → Env W → Calls Tryd.prog 23 #[v] W (DecP W (opB T))) := fun W v h h2 => open_any W v T h (by omega) h2
  have HD2 : Hid (∀ W v, RdY W v T → Calls Tryd.prog 25 #[v] W (DecP W (opB T))) := fun W v h => rOpen_any W v T h (by omega)
  have HRz : Hid (∀ {w w' : World} {v : Value}, OwnS w.heap.size w' v (opB T).1 → RdZ w' v (opB T).1) := fun h => opB_rdz hb h
  clear hr he
  generalize opB T = X at *
  obtain ⟨l, E, P⟩ := X
  dsimp only at *
  go_enter Tryd.func6, Tryd.ntmps6
  go_wp2_with fail
  refine (copiedY_any _ T _ HR.out).mono ?_
  rintro e w1 ⟨u1, rfl, own1, bel1⟩
  have R1 : Hid (RdY w1 u1 T) := own1.rd hl
  have R0 : Hid (RdY w1 (.slice a T.length c) T) := HR.out.below bel1
  obtain ⟨ua, uc, rfl⟩ := own1.form
  clear own1
  go_wp2_with fail
  refine (HD1.out w1 _ R1.out (HEnv.out.below bel1)).mono ?_
  rintro e w2 ⟨v2, rfl, own2, bel2⟩
  dsimp only at *
  have Z2 : Hid (RdZ w2 v2 l) := HRz.out own2
  have R2 : Hid (RdY w2 (.slice a T.length c) T) := R0.out.below bel2
  obtain ⟨va, vc, rfl⟩ := own2.form
  clear own2
  go_wp2_with fail
  refine (copiedY_any _ T _ R2.out).mono ?_
  rintro e w3 ⟨u3, rfl, own3, bel3⟩
  have R3 : Hid (RdY w3 u3 T) := own3.rd hl
  have Z3 : Hid (RdZ w3 (.slice va l.length vc) l) := Z2.out.below bel3
  obtain ⟨xa, xc, rfl⟩ := own3.form
  clear own3
  go_wp2_with fail
  refine (HD2.out w3 _ R3.out).mono ?_
  rintro e w4 ⟨v4, rfl, own4, bel4⟩
  dsimp only at *
  have Z4 : Hid (RdZ w4 v4 l) := HRz.out own4
  have Z5 : Hid (RdZ w4 (.slice va l.length vc) l) := Z3.out.below bel4
  obtain ⟨ya, yc, rfl⟩ := own4.form
  clear own4
  have hE : (E == E) = true := beq_self_eq_true _
  have hP : ((P : Int) == (P : Int)) = true := beq_self_eq_true _
  have HS : Hid (Calls Tryd.prog 10 #[.slice va l.length vc, .slice ya l.length yc] w4 fun e w' => e = .returned (.bool true) ∧ RowKit.Below w4.heap.size w4 w') := by
    have := sameSteps_any _ _ l l w4 Z5.out Z4.out
    rwa [show (l == l) = true from beq_self_eq_true l] at this
  go_wp2_with (go_at_call 10; refine HS.out.mono ?_; rintro e w7 ⟨rfl, bel7⟩)
  go_ret
  exact ⟨rfl, Below.step (Below.step (Below.step (Below.step bel1 bel2) bel3) bel4) bel7⟩

end packOpens
end Go.Proofs.YtidlljeiholboaaDoor
