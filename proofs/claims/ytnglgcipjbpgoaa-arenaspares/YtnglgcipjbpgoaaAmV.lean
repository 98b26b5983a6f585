/-
  depotref04: Lead, walked.
  KEEP: set on app at below new trans refl start ap kept rd rds mono own row cells lt box lo ml ms c0 f0 form max find eq ma some none
-/
import Derived.Test.YtnglgcipjbpgoaaAmU
set_option linter.unusedSimpArgs false
set_option linter.unusedVariables false
namespace Go.Proofs.Ytnglgcipjbpgoaa
open Go Go.RowKit

def rowsV (l : List (Int × Int)) : List Value := l.flatMap (fun x => [.int .i64 x.1, .int .i64 x.2])
theorem rowsV_at {l : List (Int × Int)} {i : Nat} (hi : i < l.length) : (rowsV l)[i * 2]? = some (.int .i64 l[i].1) ∧ (rowsV l)[i * 2 + 1]? = some (.int .i64 l[i].2) := by
  induction l generalizing i with
  | nil => simp at hi
  | cons x r ih =>
    rw [show rowsV (x :: r) = .int .i64 x.1 :: .int .i64 x.2 :: rowsV r from rfl]
    cases i with
    | zero => simp
    | succ j =>
      have := ih (i := j) (by simpa using hi)
      rw [show (j + 1) * 2 = j * 2 + 1 + 1 by omega]
      simpa using this
theorem rowsV_app (a b : List (Int × Int)) : rowsV (a ++ b) = rowsV a ++ rowsV b := by simp [rowsV]
theorem rowV_cells {B : Nat} {W : World} {v : Value} {l : List (Int × Int)} (h : W.ownsRow B 91 2 v l.length (rowsV l)) {i : Nat} (hi : i < l.length) : ∃ g cap, v = .slice (some ⟨g, 0, none⟩) l.length cap ∧ l.length ≤ cap ∧ W.cell? ⟨g, i * 2, none⟩ = some (.int .i64 l[i].1) ∧ W.cell? ⟨g, i * 2 + 1, none⟩ = some (.int .i64 l[i].2) := by
  rcases h.2 with ⟨e, e2⟩ | ⟨g, cap, cur, rfl, hbg, hh, hnc, hcm, _⟩
  · omega
  · have hc := World.ownsRow.cells h (g := g) rfl
    obtain ⟨r0, r1⟩ := rowsV_at hi
    have a0 := hc _ _ r0
    have a1 := hc _ _ r1
    rw [Addr.add_lit, Nat.zero_add] at a0 a1
    exact ⟨g, cap, rfl, hnc, a0, a1⟩
/-- what Lead says -/
def ldV (l : List (Int × Int)) (r : Int) : Value := match l.find? (fun m => m.1 == r) with | some m => .tuple #[.int .i64 m.2, .bool true] | none => .tuple #[.int .i64 0, .bool false]
theorem ldV_hit {l : List (Int × Int)} {r : Int} {k : Nat} (hk : k < l.length) (h : ∀ i (hi : i < l.length), i < k → l[i].1 ≠ r) (he : l[k].1 = r) : ldV l r = .tuple #[.int .i64 l[k].2, .bool true] := by
  have : l.find? (fun m => m.1 == r) = some l[k] := by
    rw [List.find?_eq_some_iff_getElem]
    refine ⟨by simp [he], k, hk, rfl, fun j hj => ?_⟩
    have := h j (by omega) hj
    simpa using this
  unfold ldV
  rw [this]
theorem ldV_no {l : List (Int × Int)} {r : Int} (h : ∀ i (hi : i < l.length), l[i].1 ≠ r) : ldV l r = .tuple #[.int .i64 0, .bool false] := by
  have : l.find? (fun m => m.1 == r) = none := by
    rw [List.find?_eq_none]
    intro x hx
    obtain ⟨i, hi, e⟩ := List.getElem_of_mem hx
    have := h i hi
    rw [e] at this
    simpa using this
  unfold ldV
  rw [this]
set_option maxHeartbeats 800000 in
theorem mLead_any (B : Nat) (v : Value) (l : List (Int × Int)) (r : Int) (w : World) (h : w.ownsRow B 91 2 v l.length (rowsV l)) (hl : l.length ≤ 1099511627776) :
    Calls Try.prog 33 #[v, .int .i64 r] w fun e w' => e = .returned (ldV l r) ∧ w' = w := by
  have HR : Hid (w.ownsRow B 91 2 v l.length (rowsV l)) := h
  obtain ⟨a, c, hv⟩ := row_form2 h
  subst hv
  clear h
  go_enter Try.func33, Try.ntmps33
  go_wp2
  go_loopg [6] l.length (fun q i' wr => ∃ k : Nat, k + q = l.length ∧ i' = .int .i64 k ∧ wr = w ∧ ∀ i (hi : i < l.length), i < k → l[i].1 ≠ r)
  case atStart => exact ⟨0, by omega, rfl, rfl, fun i _ hi => absurd hi (Nat.not_lt_zero _)⟩
  case round =>
    obtain ⟨k, hk, rfl, ew, hno⟩ := hrel
    have ew := ew.symm
    subst ew
    have HK : Hid (k + gk = l.length) := hk
    have HNo : Hid (∀ i (hi : i < l.length), i < k → l[i].1 ≠ r) := hno
    clear hk hno
    by_cases hlt : k < l.length
    · obtain ⟨g, cap, ev, hnc, d0, d1⟩ := rowV_cells HR.out hlt
      injection ev with q1 q2 q3
      subst q1; subst q3
      have HLT : Hid (k < l.length) := hlt
      by_cases hp : l[k].1 = r
      · have HF : Hid (ldV l r = .tuple #[.int .i64 l[k].2, .bool true]) := ldV_hit hlt HNo.out hp
        have d0' := d0.trans (congrArg (fun z => some (Value.int .i64 z)) hp)
        clear q2 d0 hp
        generalize l[k].2 = tz at *
        go_wp2
        go_returns
        exact ⟨by rw [HF.out]; rfl, rfl⟩
      · have HN2 : Hid (∀ i (hi : i < l.length), i < k + 1 → l[i].1 ≠ r) := fun i hi hik => by
          by_cases e : i = k
          · subst e; exact hp
          · exact HNo.out i hi (by omega)
        have hpb : (l[k].1 == r) = false := beq_eq_false_iff_ne.2 hp
        clear q2 d1 hp
        generalize l[k].1 = fr at *
        go_wp2
        go_roundg (gk - 1)
        case measure => have := HK.out; have := HLT.out; omega
        case rel => exact ⟨k + 1, by have := HK.out; have := HLT.out; omega, by go_num, rfl, HN2.out⟩
    · obtain rfl : k = l.length := by have := HK.out; omega
      have HF : Hid (ldV l r = .tuple #[.int .i64 0, .bool false]) := ldV_no fun i hi => HNo.out i hi hi
      clear hlt
      go_wp2
      go_returns
      exact ⟨by rw [HF.out]; rfl, rfl⟩
end Go.Proofs.Ytnglgcipjbpgoaa
