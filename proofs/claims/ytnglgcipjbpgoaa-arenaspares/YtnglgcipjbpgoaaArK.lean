/-
  depotlaw04: copied, equal, sound, found, swept, walked; the book of what was put.
  KEEP: set on app at below new trans refl start ap kept rd rds mono
-/
import Derived.Test.YtnglgcipjbpgoaaArSx
import Derived.Test.YtnglgcipjbpgoaaSames
import Derived.Deep.RegionHeld
set_option linter.unusedSimpArgs false
set_option linter.unusedVariables false
namespace Go.Proofs.Ytnglgcipjbpgoaa
open Go Go.RowKit Go.Maps

theorem copied4_any (v : Value) (zs : List Int) (w : World) (hr : Rd w v zs) :
    Calls Try.prog 17 #[v] w fun e w' => ∃ v', e = .returned v' ∧ Own w.heap.size w' v' zs ∧ Below w.heap.size w w' := by
  have hl := hr.len
  obtain ⟨i0, hi, hz0, hz1, hz2⟩ := info_parts Try.info3
  rcases hr.cases with ⟨rfl, a, c, rfl, hm, hn⟩ | ⟨b, off, c, rfl, hpos, hc, hm, hb, hcell⟩
  · cases a with
    | none =>
      obtain rfl : c = 0 := hn rfl
      have hrun : ∀ ty w, (Builtin.append_ #[32, 32] ty #[.slice none 0 0, .slice none 0 0]).run Try.prog w = .ok (.slice none 0 0) w := fun ty w => run_append_owned_none (P := Try.prog) w 0 32 ty 3 i0 1 Try.underlying32 hi _ _ _ (World.ownsRow_nil w 0 3 1)
      go_enter Try.func17, Try.ntmps17
      go_wp2
      go_ret
      exact ⟨_, rfl, World.ownsRow_nil _ _ _ _, Below.refl _ _⟩
    | some ad =>
      go_enter Try.func17, Try.ntmps17
      go_wp2_with (at_builtin; refine wpList_append_own _ rfl _ _ 32 rfl w.heap.size 3 i0 (.int .i64 0) 1 8 Try.underlying32 hi hz0 hz1 hz2 rfl (by decide) (.slice none 0 0) 0 [] rfl (World.ownsRow_nil _ _ _ _) ad 0 c [] rfl rfl (by simp) (by simp) (by unfold maxLen; omega) (by omega) (by simp) ?_; intro v' w1 hown hgrow hnil)
      go_ret
      exact ⟨_, rfl, by simpa [Own] using hown, (Below.refl _ _).grown hgrow (Nat.le_refl _) (by simp [Value.ownBlock])⟩
  · have hnews : ∀ j u, (zs.map (Value.int .i64))[j]? = some u → w.cell? ((⟨b, off, none⟩ : Addr).add j) = some u := by
      intro j u hu
      have hj : j < zs.length := by
        have := (List.getElem?_eq_some_iff.1 hu).1
        simpa using this
      rw [Addr.add_lit]
      rw [hcell j hj]
      simp [hj] at hu
      simp [hj, hu]
    clear hcell
    go_enter Try.func17, Try.ntmps17
    go_wp2_with (at_builtin; refine wpList_append_own _ rfl _ _ 32 rfl w.heap.size 3 i0 (.int .i64 0) 1 8 Try.underlying32 hi hz0 hz1 hz2 rfl (by decide) (.slice none 0 0) 0 [] rfl (World.ownsRow_nil _ _ _ _) ⟨b, off, none⟩ zs.length c (zs.map (Value.int .i64)) rfl (by simp) hnews (ints_oneCell' zs) (by unfold maxLen; omega) (by omega) (by simp) ?_; intro v' w1 hown hgrow hnil)
    go_ret
    exact ⟨_, rfl, by simpa [Own] using hown, (Below.refl _ _).grown hgrow (Nat.le_refl _) (by simp [Value.ownBlock])⟩

/-- a clause of the book -/
structure Kp where
  pl : Int
  lits : List Int
  learnt : Bool
  live : Bool
abbrev Ent := Value × Kp
def rowsK (L : List Ent) : List Value := L.flatMap (fun x => [.int .i64 x.2.pl, x.1, .bool x.2.learnt, .bool x.2.live])
def bk : List Ent → LvL
  | [] => []
  | x :: r => (if x.2.live then [(x.2.pl, x.2.lits, x.2.learnt)] else []) ++ bk r
theorem bk_append : ∀ L M : List Ent, bk (L ++ M) = bk L ++ bk M
  | [], M => rfl
  | x :: r, M => by rw [List.cons_append, bk, bk, bk_append r M, List.append_assoc]
theorem bk_mem : ∀ {L : List Ent} {x : Ent}, x ∈ L → x.2.live = true → (x.2.pl, x.2.lits, x.2.learnt) ∈ bk L
  | y :: r, x, h, hl => by
    unfold bk
    rcases List.mem_cons.1 h with rfl | h
    · exact List.mem_append_left _ (by rw [if_pos hl]; exact List.mem_singleton.2 rfl)
    · exact List.mem_append_right _ (bk_mem h hl)
theorem bk_take_succ (L : List Ent) (i : Nat) (h : i < L.length) : bk (L.take (i + 1)) = bk (L.take i) ++ (if L[i].2.live then [(L[i].2.pl, L[i].2.lits, L[i].2.learnt)] else []) := by
  rw [List.take_succ_eq_append_getElem h, bk_append]
  simp [bk]
theorem rowsK_at {L : List Ent} {i : Nat} (hi : i < L.length) : (rowsK L)[i * 4]? = some (.int .i64 L[i].2.pl) ∧ (rowsK L)[i * 4 + 1]? = some L[i].1 ∧ (rowsK L)[i * 4 + 2]? = some (.bool L[i].2.learnt) ∧ (rowsK L)[i * 4 + 3]? = some (.bool L[i].2.live) := by
  induction L generalizing i with
  | nil => simp at hi
  | cons x r ih =>
    rw [show rowsK (x :: r) = .int .i64 x.2.pl :: x.1 :: .bool x.2.learnt :: .bool x.2.live :: rowsK r from rfl]
    cases i with
    | zero => simp
    | succ j =>
      have := ih (i := j) (by simpa using hi)
      rw [show (j + 1) * 4 = j * 4 + 1 + 1 + 1 + 1 by omega]
      simpa using this
theorem row_form4 {B K : Nat} {e : TypeId} {w : World} {x : Value} {xs : List Value} (h : w.ownsRow B e 4 x K xs) : ∃ a c, x = .slice a K c := by
  rcases h.2 with ⟨rfl, rfl⟩ | ⟨g, cap, cur, rfl, _⟩
  · exact ⟨none, 0, rfl⟩
  · exact ⟨_, _, rfl⟩
end Go.Proofs.Ytnglgcipjbpgoaa
