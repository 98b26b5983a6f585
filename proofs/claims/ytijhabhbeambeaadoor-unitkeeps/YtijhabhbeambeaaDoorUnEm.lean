/-
  unit: what waits: empty.
  KEEP: set on app at below new trans refl start ap kept rd rds mono lt add none own nil put len pos setF setV putL putR other neV same_any
-/
import Derived.Test.YtijhabhbeambeaaDoorUnG
set_option linter.unusedSimpArgs false
set_option linter.unusedVariables false
namespace Go.Proofs.YtijhabhbeambeaaDoor
open Go Go.RowKit

theorem wEmpty_any (B : Nat) (v : Value) (fs : List Value) (N : Nat) (Q : Nat → Bool) (w0 w : World) (h : Wq B w v fs N Q) (hN : N ≤ 2147483648) (hD : Deb w0) (hb : Below w0.heap.size w0 w) (hB : w0.heap.size ≤ B) :
    Calls Tryd.prog 58 #[v] w fun e w' => e = .returned (.tuple #[]) ∧ Wq B w' v fs N (fun _ => false) ∧ Mo w (wown v fs) w' (wown v fs) := by
  have HW : Hid (Wq B w v fs N Q) := h
  have HB : Hid (Below w0.heap.size w0 w ∧ Deb w0 ∧ w0.heap.size ≤ B ∧ ∀ k, wown v fs k → w0.heap.size ≤ k) := ⟨hb, hD, hB, fun k hk => Nat.le_trans hB (h.lt k hk).1⟩
  clear h hD hb hB
  go_enter Tryd.func58, Tryd.ntmps58
  go_wp2
  go_loopg [] (qn N Q) (fun g wr => ∃ Q', g = qn N Q' ∧ Wq B wr v fs N Q' ∧ Mo w (wown v fs) wr (wown v fs))
  case atStart => exact ⟨Q, rfl, HW.out, Mo.refl _ _⟩
  case round =>
    obtain ⟨Q', hg, hw, hm⟩ := hrel
    have HG : Hid (gk = qn N Q') := hg
    have HM : Hid (Wq B wr v fs N Q' ∧ Mo w (wown v fs) wr (wown v fs)) := ⟨hw, hm⟩
    clear hg hw hm
    by_cases hem : emp Q' = true
    · have hq : Q' = fun _ => false := funext ((emp_iff Q').1 hem)
      go_wp2_with fail
      refine (wNone_any _ _ _ _ _ wr HM.out.1).mono ?_
      rintro e w1 ⟨rfl, hw1⟩
      obtain rfl : wr = w1 := hw1.symm
      rw [hem]
      subst hq
      clear hw1
      go_wp2
      go_end0
      exact ⟨rfl, HM.out.1, HM.out.2⟩
    · have hem : emp Q' = false := by simpa using hem
      obtain ⟨k, hk, hle⟩ := has_least (fun h2 => by have := (emp_iff Q').2 h2; rw [hem] at this; cases this)
      have HK : Hid (qn N (qdel Q' k) < qn N Q') := by
        obtain ⟨Ls, _, _, hl⟩ := HM.out.1
        exact filter_lt (x := k) (fun y _ hy => (qdel_at.1 hy).1) (List.mem_range.2 (hl.sub k hk)) hk (by simp [qdel])
      go_wp2_with fail
      refine (wNone_any _ _ _ _ _ wr HM.out.1).mono ?_
      rintro e w1 ⟨rfl, hw1⟩
      obtain rfl : wr = w1 := hw1.symm
      rw [hem]
      clear hw1
      go_wp2_with fail
      refine (wTake_any _ _ _ _ _ k wr HM.out.1 hk hle hN (HB.out.2.1.below (Mo.bel HB.out.1 HB.out.2.2.2 HM.out.2))).mono ?_
      rintro e w1 ⟨rfl, hw1, hm1⟩
      have HF : Hid (_ ∧ _) := ⟨hw1, HM.out.2.trans hm1⟩
      clear hw1 hm1
      go_wp2
      go_roundg (qn N (qdel Q' k))
      case measure => rw [HG.out]; exact HK.out
      case rel => exact ⟨qdel Q' k, rfl, HF.out.1, HF.out.2⟩
end Go.Proofs.YtijhabhbeambeaaDoor
