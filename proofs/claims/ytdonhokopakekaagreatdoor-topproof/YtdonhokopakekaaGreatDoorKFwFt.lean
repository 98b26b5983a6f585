/-
  top: fitted.
  KEEP: len below nil form rd mono one more grown lt size cell some none of ofNat add out step row get at mk new
-/
import Derived.Test.YtdonhokopakekaaGreatDoorKTell
import Derived.Test.YtdonhokopakekaaGreatDoorKGrow
import Derived.Laws.CopyOwn
import Derived.Handy
import Derived.WalkSpells
set_option linter.unusedSimpArgs false
set_option linter.unusedVariables false
namespace Go.Proofs.YtdonhokopakekaaGreatDoor
open Go Go.RowKit
theorem infoB12 : (Tryz.prog.info? 4).map (fun i => (i.zero, i.size, i.bytes)) = some (some (.bool false), 1, 1) := by kernel_rfl
theorem sizeB12 : (Tryz.prog.info? 4).map (·.size) = some 1 := by kernel_rfl
theorem made_bools (N : Nat) : (madeCells (Value.bool false).cells (N * 1)).toList = (List.replicate N false).map Value.bool := by
  apply List.ext_getElem?
  intro i
  by_cases h : i < N
  · simp [madeCells, Value.cells, h, List.getElem?_replicate, Nat.mod_one]
  · simp [madeCells, Value.cells, h, List.getElem?_replicate]
/-- the truths that fitted answers -/
def fitM (ms : List Bool) (N : Nat) : List Bool := splice (List.replicate N false) 0 (ms.take (Nat.min ms.length N))
theorem fitM_len (ms : List Bool) (N : Nat) : (fitM ms N).length = N := by
  have h1 : Nat.min ms.length N ≤ ms.length := Nat.min_le_left _ _
  have h2 : Nat.min ms.length N ≤ N := Nat.min_le_right _ _
  unfold fitM
  rw [length_splice _ _ _ (by simp only [List.length_take, List.length_replicate]; omega), List.length_replicate]
theorem splice_map {α β : Type} (f : α → β) (L cs : List α) (off : Nat) : (splice L off cs).map f = splice (L.map f) off (cs.map f) := by
  simp [splice]
theorem rdb_of {w : World} {g : Nat} {M : List Bool} {f : Nat × Nat} (h : w.heap[g]? = some (.cells (M.map Value.bool).toArray 4 f)) (hl : M.length ≤ 140737488351232) : RdB w (.slice (some ⟨g, 0, none⟩) M.length M.length) M := by
  refine ⟨hl, _, _, rfl, fun _ => ⟨g, 0, rfl, (Array.getElem?_eq_some_iff.1 h).1, fun j hj => ?_⟩⟩
  show (match w.heap[g]? with | some (Obj.cells c elem frozen) => c[0 + j]? | x => none) = _
  rw [h]
  simp [List.getD_eq_getElem?_getD, hj]
theorem row_full {w : World} {B g N : Nat} {xs cur : List Value} (hN : cur.length = N) (hx : xs = cur) (h : w.ownsRow B 4 1 (.slice (some ⟨g, 0, none⟩) N N) N xs) : w.heap[g]? = some (.cells cur.toArray 4 (0, 0)) := by
  rcases h.2 with ⟨e, _⟩ | ⟨g', cap, cu, e, _, hh, _, _, hs, ht⟩
  · cases e
  · injection e with q1 q2 q3
    injection q1 with q1
    injection q1 with q1
    subst q1; subst q3
    rw [hh]
    have e1 : cu.toList = xs := by
      have : cu.toList.length = N := by simp; omega
      rw [← ht, List.take_of_length_le (by omega)]
    rw [← hx, ← e1]
theorem src_at {w w1 : World} {am : Option Addr} {ms : List Bool} {cs : List Value} (hb : Below w.heap.size w w1) (hm : ms ≠ [] → ∃ b off, am = some ⟨b, off, none⟩ ∧ b < w.heap.size ∧ ∀ j, j < ms.length → w.cell? ⟨b, off + j, none⟩ = some (.bool (ms.getD j false))) (hp : 0 < cs.length) (hc : ∀ j v, cs[j]? = some v → j < ms.length ∧ v = .bool (ms.getD j false)) : ∃ ad, am = some ad ∧ ∀ j v, cs[j]? = some v → w1.cell? (ad.add j) = some v := by
  have hne : ms ≠ [] := fun e => by
    have := (hc 0 cs[0] (List.getElem?_eq_getElem hp)).1
    rw [e] at this; simp at this
  obtain ⟨b, off, ha, hlt, hcell⟩ := hm hne
  refine ⟨_, ha, fun j v hv => ?_⟩
  obtain ⟨hj, rfl⟩ := hc j v hv
  rw [Addr.add_lit]
  exact (hb.cell (p := ⟨b, off + j, none⟩) hlt).trans (hcell j hj)
set_option maxHeartbeats 1600000 in
set_option maxRecDepth 100000 in
theorem fitted_any (vm : Value) (ms : List Bool) (N : Nat) (w : World) (hm : RdB w vm ms) (hN : N ≤ 1048576) :
    Calls Tryz.prog 10 #[vm, .int .i64 (N : Int)] w fun e w' => ∃ u, e = .returned u ∧ RdB w' u (fitM ms N) ∧ Below w.heap.size w w' := by
  obtain ⟨ib, hib, hzb0, hzb1, hzb2⟩ := info_parts infoB12
  obtain ⟨hl, am, cm, rfl, hmc⟩ := hm
  have HM : Hid (ms ≠ [] → ∃ b off, am = some ⟨b, off, none⟩ ∧ b < w.heap.size ∧ ∀ j, j < ms.length → w.cell? ⟨b, off + j, none⟩ = some (.bool (ms.getD j false))) := hmc
  clear hmc
  have h1 : Nat.min ms.length N ≤ ms.length := Nat.min_le_left _ _
  have h2 : Nat.min ms.length N ≤ N := Nat.min_le_right _ _
  have HF : Hid (splice ((List.replicate N false).map Value.bool) 0 ((ms.take (Nat.min ms.length N)).map Value.bool) = (fitM ms N).map Value.bool) := by show _ = _; unfold fitM; rw [splice_map]
  have HFl : Hid ((fitM ms N).length = N) := fitM_len ms N
  obtain ⟨cs, hcs⟩ : ∃ cs, cs = (ms.take (Nat.min ms.length N)).map Value.bool := ⟨_, rfl⟩
  obtain ⟨cur, hcur⟩ : ∃ cur, cur = (List.replicate N false).map Value.bool := ⟨_, rfl⟩
  have HCs : Hid (cs.length = Nat.min ms.length N ∧ (∀ v ∈ cs, v.oneCell' = true) ∧ ∀ j v, cs[j]? = some v → j < ms.length ∧ v = .bool (ms.getD j false)) := by
    rw [hcs]
    refine ⟨by simp only [List.length_map, List.length_take]; omega, fun v hv => ?_, fun j v hv => ?_⟩
    · obtain ⟨x, _, rfl⟩ := List.mem_map.1 hv; rfl
    · rw [List.getElem?_map, Option.map_eq_some_iff] at hv
      obtain ⟨x, hx, rfl⟩ := hv
      have hj := (List.getElem?_eq_some_iff.1 hx).1
      rw [List.length_take] at hj
      have hj2 : j < ms.length := by omega
      rw [List.getElem?_take_of_lt (by omega)] at hx
      exact ⟨hj2, by simp [List.getD_eq_getElem?_getD, hx]⟩
  have HCur : Hid (cur.length = N ∧ (madeCells (Value.bool false).cells (N * 1)).toList = cur) := by rw [hcur]; exact ⟨by simp, made_bools N⟩
  rw [← hcs, ← hcur] at HF
  clear hcs hcur
  go_enter Tryz.func10, Tryz.ntmps10
  go_wp2_with (first
    | (at_make; refine wpList_make_full _ rfl _ _ 26 rfl w.heap.size 4 ib (.bool false) 1 Tryz.underlying26 hib hzb0 hzb1 .i64 .i64 _ _ N rfl rfl (by first | omega | (simp; omega) | simp) (by first | omega | (simp; omega) | simp) (by rw [hzb2]; omega) (by unfold maxLen; omega) (Nat.le_refl _) ?_; intro w1 own1 gr1; have hrow : w1.heap[w.heap.size]? = some (.cells cur.toArray 4 (0, 0)) := row_full HCur.out.1 HCur.out.2 own1; have hb1 : Below w.heap.size w w1 := (Below.refl _ _).grown gr1 (Nat.le_refl _) (fun b e => by cases e); have HRow : Hid (w1.heap[w.heap.size]? = some (.cells cur.toArray 4 (0, 0))) := hrow; have HB1 : Hid (Below w.heap.size w w1) := hb1; clear own1 gr1 hrow hb1)
    | ((refine wpList_copy_splice rfl _ _ 26 26 rfl 4 Tryz.underlying26 sizeB12 _ _ _ _ _ _ rfl rfl w.heap.size 0 cur 4 HRow.out cs HCs.out.1 (fun hp => ⟨rfl, src_at HB1.out HM.out hp HCs.out.2.2⟩) (by have := HCs.out.1; have := HCur.out.1; omega) HCs.out.2.1 w.heap.size w HB1.out (Nat.le_refl _) ?_); intro w2 hg2 hb2; have H2 : Hid (RdB w2 (.slice (some ⟨w.heap.size, 0, none⟩) N N) (fitM ms N) ∧ Below w.heap.size w w2) := ⟨(by have hg := hg2.out; rw [HF.out] at hg; have hr := rdb_of hg (by rw [HFl.out]; omega); rw [HFl.out] at hr; exact hr), hb2⟩; clear hg2 hb2))
  go_ret
  exact ⟨_, rfl, H2.out.1, H2.out.2⟩
end Go.Proofs.YtdonhokopakekaaGreatDoor
