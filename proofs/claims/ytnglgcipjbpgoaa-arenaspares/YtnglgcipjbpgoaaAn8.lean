/-
  depotlaw04: plays: Sweep.
  KEEP: set on app at below new trans refl start ap kept rd rds mono own row cells lt box lo ml ms c0 f0 form max find eq ma some none more map keep ps arStep docStep toldStep movedStep renote tys obj bel
-/
import Derived.Test.YtnglgcipjbpgoaaAn7
import Derived.Test.YtnglgcipjbpgoaaAppK
set_option linter.unusedSimpArgs false
set_option linter.unusedVariables false
namespace Go.Proofs.Ytnglgcipjbpgoaa
open Go Go.RowKit Go.Maps

theorem infoF4 : (Try.prog.info? 70).map (fun i => (i.zero, i.size, i.bytes)) = some (some .nilFunc, 1, 8) := by kernel_rfl
theorem infoN4 : (Try.prog.info? 72).map (fun i => (i.zero, i.size, i.bytes)) = some (some (.slice none 0 0), 1, 24) := by kernel_rfl
theorem undF4 : Try.prog.underlying 25 = some (.slice 70) := by kernel_rfl
theorem undN4 : Try.prog.underlying 26 = some (.slice 72) := by kernel_rfl
theorem fn_nil4 (t : Te) (w : World) : (binOp BinOp.eql 70 (fnT t) Value.nilFunc).run Try.prog w = .ok (.bool false) w := by rfl
theorem one_new4 (w : World) (x : Value) (t : TypeId) : ∀ j y, [x][j]? = some y → (w.alloc (.cells #[x] t)).cell? ((⟨w.heap.size, 0, none⟩ : Addr).add j) = some y := fun j y hy => by
  have hh := World.alloc_heap_new w (.cells #[x] t)
  rw [Addr.add_lit]
  show (match (w.alloc (.cells #[x] t)).heap[w.heap.size]? with | some (Obj.cells c elem frozen) => c[0 + j]? | x => none) = _
  rw [hh, Nat.zero_add]
  match j, hy with
  | 0, hy => simpa using hy
theorem mvd4_len : ∀ (l : List Mc) (q : Int), (mvd4 q l).length = l.length
  | [], _ => rfl
  | x :: r, q => by simp [mvd4, mvd4_len r]
theorem md_len (S : List Seg) : (mvd4 0 (live4 (plc 0 S))).length ≤ S.length := by
  rw [mvd4_len]
  have := List.length_filter_le (fun x : Mc => x.live) (plc 0 S)
  rw [plc_len] at this
  exact this
theorem flat_swp_le : ∀ S : List Seg, (flat (swp S)).length ≤ (flat S).length
  | [] => Nat.le_refl _
  | s :: r => by
    have ih := flat_swp_le r
    unfold swp at ih ⊢
    rw [List.filter_cons]
    cases s.live
    · simp only [Bool.false_eq_true, if_false, flat, List.length_cons, List.length_append]; omega
    · simp only [if_true, flat, List.length_cons, List.length_append]; omega
section
variable {F : Nat → Prop} {w1 w5 : World} {D b : Nat} {v : Value} {S Sm : List Seg} {m : Nat} {rv : Value} {L : List Mt} {tv tv' mv mv' : Value} {T Tm : List Te}
theorem told_fin (h : Pq4 F w1 D b v S m rv L Sm tv T mv Tm) (t : Te) (ht : TellsAt w1 t.m t.mb (lv 0 t.So)) (f1 : F t.m) (f2 : F t.mb) (own5 : w5.ownsRow 0 70 1 tv' (T.length + 1) (T.map fnT ++ [fnT t])) (ap : Ap (w1.alloc (.cells #[fnT t] 70)) tv w5 tv') :
    Pq4 (Fn4 F (w1.alloc (.cells #[fnT t] 70)) (w5.setCell ⟨D, 2, none⟩ tv')) (w5.setCell ⟨D, 2, none⟩ tv') D b v S m rv L Sm tv' (T ++ [t]) mv Tm ∧ Ps4 F (Fn4 F (w1.alloc (.cells #[fnT t] 70)) (w5.setCell ⟨D, 2, none⟩ tv')) w1 (w5.setCell ⟨D, 2, none⟩ tv') ∧ w5.cell? ⟨D, 2, none⟩ = some tv ∧ w5.frozen? ⟨D, 2, none⟩ = false := by
  have hb := below_box w1 (.cells #[fnT t] 70)
  have hA := h.below hb
  have tA := tells_kept ht (hb.block _ (h.lt' _ f1)) (hb.block _ (h.lt' _ f2))
  generalize w1.alloc (.cells #[fnT t] 70) = wA at *
  have hD5 : w5.heap[D]? = some (.cells #[.pointer (some ⟨b, 0, none⟩), .pointer (some ⟨m, 0, none⟩), tv, mv] 28 (0, 0)) := (ap.grown.block D (hA.lt' D hA.fD.1) (fun e => absurd ((hA.tys.2.2.2.2.2.1 D e.symm).symm.trans hA.tys.1) (by decide))).trans hA.bx
  have hk : Mv wA D tv (w5.setCell ⟨D, 2, none⟩ tv') tv' := (Mv.ap (b := D) ap).trans (Mv.set 2 tv')
  have hr : (w5.setCell ⟨D, 2, none⟩ tv').ownsRow 0 70 1 tv' (T.length + 1) (T.map fnT ++ [fnT t]) := row_kept4 own5 fun k e => (grown_set w5 ⟨D, 2, none⟩ tv').block k (World.ownsRow.lt own5 k e).2 (by intro q; injection q with q; subst q; exact absurd ((tyB_row own5 e).symm.trans (tyB_cells hD5)) (by decide))
  have hs := hA.toldStep t (set_heap4 hD5 2 tv') hr hk tA f1 f2
  exact ⟨hs.1, (Ps4.of_below hb).trans hs.2, by simp [World.cell?, hD5], by simp [World.frozen?, hD5]⟩
theorem moved_fin (h : Pq4 F w1 D b v S m rv L Sm tv T mv Tm) (t : Te) (ht : w1.ownsRow 0 91 2 t.mv (mdT t).length (rowsV (mdT t))) (hl : (mdT t).length ≤ 1099511627776) (f1 : ∀ g, t.mv.ownBlock = some g → F g) (own5 : w5.ownsRow 0 72 1 mv' (Tm.length + 1) (Tm.map Te.mv ++ [t.mv])) (ap : Ap (w1.alloc (.cells #[t.mv] 72)) mv w5 mv') :
    Pq4 (Fn4 F (w1.alloc (.cells #[t.mv] 72)) (w5.setCell ⟨D, 3, none⟩ mv')) (w5.setCell ⟨D, 3, none⟩ mv') D b v S m rv L Sm tv T mv' (Tm ++ [t]) ∧ Ps4 F (Fn4 F (w1.alloc (.cells #[t.mv] 72)) (w5.setCell ⟨D, 3, none⟩ mv')) w1 (w5.setCell ⟨D, 3, none⟩ mv') ∧ w5.cell? ⟨D, 3, none⟩ = some mv ∧ w5.frozen? ⟨D, 3, none⟩ = false := by
  have hb := below_box w1 (.cells #[t.mv] 72)
  have hA := h.below hb
  have tA := row_kept4 ht fun k e => hb.block k (h.lt' k (f1 k e))
  generalize w1.alloc (.cells #[t.mv] 72) = wA at *
  have hD5 : w5.heap[D]? = some (.cells #[.pointer (some ⟨b, 0, none⟩), .pointer (some ⟨m, 0, none⟩), tv, mv] 28 (0, 0)) := (ap.grown.block D (hA.lt' D hA.fD.1) (fun e => absurd ((hA.tys.2.2.2.2.2.2.1 D e.symm).symm.trans hA.tys.1) (by decide))).trans hA.bx
  have hk : Mv wA D mv (w5.setCell ⟨D, 3, none⟩ mv') mv' := (Mv.ap (b := D) ap).trans (Mv.set 3 mv')
  have hr : (w5.setCell ⟨D, 3, none⟩ mv').ownsRow 0 72 1 mv' (Tm.length + 1) (Tm.map Te.mv ++ [t.mv]) := row_kept4 own5 fun k e => (grown_set w5 ⟨D, 3, none⟩ mv').block k (World.ownsRow.lt own5 k e).2 (by intro q; injection q with q; subst q; exact absurd ((tyB_row own5 e).symm.trans (tyB_cells hD5)) (by decide))
  have hs := hA.movedStep t (set_heap4 hD5 3 mv') hr hk tA hl f1
  exact ⟨hs.1, (Ps4.of_below hb).trans hs.2, by simp [World.cell?, hD5], by simp [World.frozen?, hD5]⟩
theorem tells_lt {W : World} {m mb : Nat} {l : LvL} (h : TellsAt W m mb l) : m < W.heap.size ∧ mb < W.heap.size := by
  obtain ⟨n, Dm, ⟨es, clock, e1, e2⟩, hT⟩ := h.map
  exact ⟨(Array.getElem?_eq_some_iff.1 h.box).1, (Array.getElem?_eq_some_iff.1 e1).1⟩
end
end Go.Proofs.Ytnglgcipjbpgoaa
