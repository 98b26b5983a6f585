/-
  heat: the document's New.
  KEEP: set on app at below new trans refl start kept mono lt add none own nil put len pos other cell ty blt fz box k p r pr a0 a1 a2 c0 c1 c2 hb setK setP setR unique grown step fin bij up q1 q2 pl held mk v1 v2 t1 t2 hs few cut root z kl nl sl d1 d2 row down has holds stp bel heat cells sc wi mem srt inn inj out lays ap kind rd rds bump cool weak types foreign rows cong form heat nodup s w ord rest apS apV
-/
import Derived.Test.YtbfjhgiifmhccaaHrO
set_option linter.unusedSimpArgs false
set_option linter.unusedVariables false
namespace Go.Proofs.Ytbfjhgiifmhccaa
open Go Go.RowKit
attribute [local go_sem] run_store_float

structure Rq (w wx : World) (b : Nat) (S V : Value) (k l d : Nat) : Prop where
  box : wx.heap[b]? = some (.cells #[S, V, .float .f64 4607182418800017408, .float .f64 d] 73 (0, 0))
  hb : w.heap.size ≤ b
  sc : wx.ownsRow w.heap.size 23 1 S k (f64s (List.replicate k 0))
  wi : wx.ownsRow w.heap.size 4 1 V l (hrow l (fun _ => true))
  bel : Below w.heap.size w wx
theorem int_swapR (a b : Int) : compare a b = (compare b a).swap := Std.OrientedCmp.eq_swap
theorem ord_swapR : ∀ x y : Ieee.Datum, x.order y = (y.order x).map Ordering.swap
  | .nan .., y => by cases y <;> rfl
  | .infinity s, .nan .. => rfl
  | .infinity s, .infinity t => by cases s <;> cases t <;> rfl
  | .infinity s, .number .. => by cases s <;> rfl
  | .number .., .nan .. => rfl
  | .number .., .infinity t => by cases t <;> rfl
  | .number s m i, .number t n j => by
    simp only [Ieee.Datum.order, Option.map_some]
    rw [Int.min_comm j i, int_swapR]
theorem ge_swapR (a b : Nat) : (FloatKind.f64.format.order a b == some .gt || FloatKind.f64.format.order a b == some .eq) = leF b a := by
  unfold leF Ieee.Format.order
  rw [ord_swapR]
  cases (Ieee.Datum.order (FloatKind.f64.format.read b) (FloatKind.f64.format.read a)) with
  | none => rfl
  | some o => cases o <;> rfl
section
variable {w W W' : World} {b k l d : Nat} {S V : Value}
theorem Rq.below (h : Rq w W b S V k l d) (hb : Below W.heap.size W W') : Rq w W' b S V k l d :=
  ⟨(hb.block b (Array.getElem?_eq_some_iff.1 h.box).1).trans h.box, h.hb, row_kept h.sc fun j e => hb.block j (h.sc.lt j e.symm).2, row_kept h.wi fun j e => hb.block j (h.wi.lt j e.symm).2, Below.step h.bel hb⟩
theorem Rq.cells (h : Rq w W b S V k l d) : W.cell? ⟨b, 0, none⟩ = some S ∧ W.cell? ⟨b, 1, none⟩ = some V ∧ ∀ j, W.frozen? ⟨b, j, none⟩ = false := by
  have hb := h.box
  exact ⟨by simp [World.cell?, hb], by simp [World.cell?, hb], fun j => by simp [World.frozen?, hb]⟩
theorem Rq.apS (h : Rq w W b S V k l d) {S8 : Value} (ho : W'.ownsRow w.heap.size 23 1 S8 (k + 1) (f64s (List.replicate k 0) ++ [.float .f64 0])) (hg : W.grownBy W' S.ownBlock) : Rq w (W'.setCell ⟨b, 0, none⟩ S8) b S8 V (k + 1) l d := by
  have ht : ∀ y, S.ownBlock = some y → Tf W y 23 := fun y e => row_tf h.sc e.symm
  have hb := box_oth h.box hg ht (by decide)
  refine ⟨set_heap hb 0 _, h.hb, ?_, set_oth hb (row_oth h.wi hg ht (by decide)) (by decide), bel_grown (bel_grown h.bel hg fun y e => (h.sc.lt y e).1) (grown_set W' ⟨b, 0, none⟩ S8) fun y e => ?_⟩
  · have e : f64s (List.replicate (k + 1) 0) = f64s (List.replicate k 0) ++ [.float .f64 0] := by unfold f64s; rw [List.replicate_succ', List.map_append]; rfl
    rw [e]; exact set_oth hb ho (by decide)
  · have : b = y := by simpa using e
    rw [← this]; exact h.hb
theorem Rq.apV (h : Rq w W b S V k l d) {V8 : Value} (ho : W'.ownsRow w.heap.size 4 1 V8 (l + 1) (hrow l (fun _ => true) ++ [.bool true])) (hg : W.grownBy W' V.ownBlock) : Rq w (W'.setCell ⟨b, 1, none⟩ V8) b S V8 k (l + 1) d := by
  have ht : ∀ y, V.ownBlock = some y → Tf W y 4 := fun y e => row_tf h.wi e.symm
  have hb := box_oth h.box hg ht (by decide)
  refine ⟨set_heap hb 1 _, h.hb, set_oth hb (row_oth h.sc hg ht (by decide)) (by decide), ?_, bel_grown (bel_grown h.bel hg fun y e => (h.wi.lt y e).1) (grown_set W' ⟨b, 1, none⟩ V8) fun y e => ?_⟩
  · rw [hrow_app]; exact set_oth hb ho (by decide)
  · have : b = y := by simpa using e
    rw [← this]; exact h.hb
theorem Rq.heat {n : Nat} (h : Rq w W b S V n n d) (hn : n ≤ 1048576) (h1 : 4602678819172646912 ≤ d) (h2 : d ≤ 4607182418800017408) : Rz w.heap.size W b ⟨S, V⟩ n d 4607182418800017408 (List.replicate (n + 1) 0) (fun _ => true) :=
  ⟨h.box, h.hb, by rw [List.drop_replicate, Nat.add_sub_cancel]; exact h.sc, h.wi, by simp, hn, fun k => by rw [gt_repl]; exact Nat.zero_le _, by decide, h1, h2⟩
def NewRS (w : World) (n d : Nat) (e : Ending) (w' : World) : Prop := ∃ b v, e = .returned (.tuple #[.pointer (some ⟨b, 0, none⟩), .int .i64 0]) ∧ Rz w.heap.size w' b v n d 4607182418800017408 (List.replicate (n + 1) 0) (fun _ => true) ∧ Below w.heap.size w w'
theorem rnew_bad (n : Nat) (d : Nat) (w : World) (hn : n ≤ 1048576) (hd : d < 18446744073709551616) (h : dcB d = false) :
    Calls Try.prog 11 #[.int .i64 (n : Int), .float .f64 d] w fun e w' => e = .returned (.tuple #[.pointer none, .int .i64 2]) ∧ w' = w := by
  unfold dcB at h
  have e1 : (FloatKind.f64.format.order d 4602678819172646912 == some .gt || FloatKind.f64.format.order d 4602678819172646912 == some .eq) = leF 4602678819172646912 d := ge_swapR d 4602678819172646912
  have e2 : (FloatKind.f64.format.order d 4607182418800017408 == some .lt || FloatKind.f64.format.order d 4607182418800017408 == some .eq) = leF d 4607182418800017408 := rfl
  cases h1 : leF 4602678819172646912 d
  · rw [h1] at e1
    clear h e2 h1
    go_enter Try.func11, Try.ntmps11
    go_wp2
    go_returns
    exact ⟨rfl, rfl⟩
  · rw [h1] at e1 h
    rw [Bool.true_and] at h
    rw [h] at e2
    clear h h1
    go_enter Try.func11, Try.ntmps11
    go_wp2
    go_returns
    exact ⟨rfl, rfl⟩
set_option maxHeartbeats 2000000 in
theorem rnew_yes (n : Nat) (d : Nat) (w : World) (hn : n ≤ 1048576) (hd : d < 18446744073709551616) (h : dcB d = true) :
    Calls Try.prog 11 #[.int .i64 (n : Int), .float .f64 d] w fun e w' => NewRS w n d e w' := by
  obtain ⟨r1, r2⟩ := dc_range hd h
  unfold dcB at h
  rw [Bool.and_eq_true] at h
  have e1 : (FloatKind.f64.format.order d 4602678819172646912 == some .gt || FloatKind.f64.format.order d 4602678819172646912 == some .eq) = true := (ge_swapR d 4602678819172646912).trans h.1
  have e2 : (FloatKind.f64.format.order d 4607182418800017408 == some .lt || FloatKind.f64.format.order d 4607182418800017408 == some .eq) = true := h.2
  have HR : Hid (4602678819172646912 ≤ d ∧ d ≤ 4607182418800017408) := ⟨r1, r2⟩
  obtain ⟨i0, hi0, hy0, hy1, hy2⟩ := info_parts infoF14
  have HI : Hid (Try.prog.info? 23 = some i0 ∧ i0.zero = some (.float .f64 0) ∧ i0.size = 1 ∧ i0.bytes = 8) := ⟨hi0, hy0, hy1, hy2⟩
  obtain ⟨j0, gj0, gy0, gy1, gy2⟩ := info_parts infoB14
  have HJ : Hid (Try.prog.info? 4 = some j0 ∧ j0.zero = some (.bool false) ∧ j0.size = 1 ∧ j0.bytes = 1) := ⟨gj0, gy0, gy1, gy2⟩
  have HQ0 : Hid (Rq w (w.alloc (.cells #[.slice none 0 0, .slice none 0 0, .float .f64 4607182418800017408, .float .f64 d] 73)) w.heap.size (.slice none 0 0) (.slice none 0 0) 0 0 d) := ⟨World.alloc_heap_new w _, Nat.le_refl _, World.ownsRow_nil _ _ _ _, World.ownsRow_nil _ _ _ _, below_box _ _⟩
  clear h r1 r2 hd hi0 hy0 hy1 hy2 gj0 gy0 gy1 gy2
  go_enter Try.func11, Try.ntmps11
  go_wp2
  generalize w.alloc (.cells #[.slice none 0 0, .slice none 0 0, .float .f64 4607182418800017408, .float .f64 d] 73) = w0 at *
  generalize hbb : w.heap.size = b at *
  go_loopg [7] n (fun g x wx => ∃ (k : Nat) (S V : Value), k + g = n ∧ x = .int .i64 (k : Int) ∧ Hid (Rq w wx b S V k k d))
  case atStart => exact ⟨0, _, _, by omega, rfl, HQ0⟩
  case round =>
    obtain ⟨k, S, V, hk, rfl, H1⟩ := hrel
    clear HQ0
    by_cases hlt : k < n
    · obtain ⟨c0, _, fz⟩ := H1.out.cells
      obtain ⟨a, c, eS⟩ := row_form' H1.out.sc
      obtain ⟨a', c', eV⟩ := row_form' H1.out.wi
      subst eS
      subst eV
      have HRow : Hid ((wr.alloc (.cells #[.float .f64 0] 23)).ownsRow w.heap.size 23 1 (.slice a k c) k (f64s (List.replicate k 0))) := World.ownsRow.alloc H1.out.sc _
      have HNew : Hid (∀ j u, [(Value.float .f64 0)][j]? = some u → (wr.alloc (.cells #[.float .f64 0] 23)).cell? ((⟨wr.heap.size, 0, none⟩ : Addr).add j) = some u) := cell_one_new _ _ _
      have HBs : Hid (w.heap.size ≤ (wr.alloc (.cells #[.float .f64 0] 23)).heap.size) := by
        show _ ≤ _
        rw [World.size_alloc]; have := H1.out.bel.size; omega
      have HApp : Hid (∀ v8 w8, w8.ownsRow w.heap.size 23 1 v8 (k + 1) (f64s (List.replicate k 0) ++ [.float .f64 0]) → Ap (wr.alloc (.cells #[.float .f64 0] 23)) (.slice a k c) w8 v8 → (∃ a8 c8, v8 = .slice a8 (k + 1) c8) ∧ (w8.cell? ⟨b, 0, none⟩ = some (.slice a k c) ∧ w8.frozen? ⟨b, 0, none⟩ = false) ∧ Rq w (w8.setCell ⟨b, 0, none⟩ v8) b v8 (.slice a' k c') (k + 1) k d) := fun v8 w8 own8 ap8 => by
        have hq := H1.out.below (below_box wr (.cells #[.float .f64 0] 23))
        have hb := box_oth hq.box ap8.grown (fun y e => row_tf hq.sc e.symm) (by decide)
        exact ⟨row_form' own8, ⟨by simp [World.cell?, hb], by simp [World.frozen?, hb]⟩, hq.apS own8 ap8.grown⟩
      have hl63 : k + 1 ≤ maxLen := by unfold maxLen; omega
      have hl48 : (k + 1) * 8 ≤ 140737488355328 := by omega
      have hl49 : (k + 1) * 1 ≤ 140737488355328 := by omega
      have hgk : n - (k + 1) < gk := by omega
      have HKN : Hid (k + 1 + (n - (k + 1)) = n) := by show _ = _; omega
      clear H1 hk fz
      generalize f64s (List.replicate k 0) = xs at *
      go_upto_region 8 with (at_builtin; refine wpList_append_apk rfl _ _ 64 rfl w.heap.size 23 i0 (.float .f64 0) 1 8 Try.underlying64 HI.out.1 HI.out.2.1 HI.out.2.2.1 HI.out.2.2.2 rfl (by decide) (.slice a k c) k xs rfl HRow.out ⟨wr.heap.size, 0, none⟩ 1 1 [.float .f64 0] rfl rfl HNew.out (by simp [Value.oneCell']) hl63 hl48 HBs.out ?_; intro v8 w8 own8 ap8; obtain ⟨⟨a8, c8, hv8⟩, ⟨c8', f8⟩, q1⟩ := HApp.out v8 w8 own8 ap8; subst hv8; have HQ1 : Hid _ := q1; clear own8 ap8 q1)
      clear HRow HNew HBs HApp c8' f8 c0
      generalize w8.setCell ⟨b, 0, none⟩ (.slice a8 (k + 1) c8) = w9 at *
      obtain ⟨_, c1, _⟩ := HQ1.out.cells
      have HRow : Hid ((w9.alloc (.cells #[.bool true] 4)).ownsRow w.heap.size 4 1 (.slice a' k c') k (hrow k (fun _ => true))) := World.ownsRow.alloc HQ1.out.wi _
      have HNew : Hid (∀ j u, [(Value.bool true)][j]? = some u → (w9.alloc (.cells #[.bool true] 4)).cell? ((⟨w9.heap.size, 0, none⟩ : Addr).add j) = some u) := cell_one_new _ _ _
      have HBs : Hid (w.heap.size ≤ (w9.alloc (.cells #[.bool true] 4)).heap.size) := by
        show _ ≤ _
        rw [World.size_alloc]; have := HQ1.out.bel.size; omega
      have HApp : Hid (∀ v8 w8, w8.ownsRow w.heap.size 4 1 v8 (k + 1) (hrow k (fun _ => true) ++ [.bool true]) → Ap (w9.alloc (.cells #[.bool true] 4)) (.slice a' k c') w8 v8 → (∃ a8 c8, v8 = .slice a8 (k + 1) c8) ∧ (w8.cell? ⟨b, 1, none⟩ = some (.slice a' k c') ∧ w8.frozen? ⟨b, 1, none⟩ = false) ∧ Rq w (w8.setCell ⟨b, 1, none⟩ v8) b (.slice a8 (k + 1) c8) v8 (k + 1) (k + 1) d) := fun v8 w8 own8 ap8 => by
        have hq := HQ1.out.below (below_box w9 (.cells #[.bool true] 4))
        have hb := box_oth hq.box ap8.grown (fun y e => row_tf hq.wi e.symm) (by decide)
        exact ⟨row_form' own8, ⟨by simp [World.cell?, hb], by simp [World.frozen?, hb]⟩, hq.apV own8 ap8.grown⟩
      clear HQ1
      generalize hrow k (fun _ => true) = ys at *
      go_wp2_with (at_builtin; refine wpList_append_apk rfl _ _ 71 rfl w.heap.size 4 j0 (.bool false) 1 1 Try.underlying71 HJ.out.1 HJ.out.2.1 HJ.out.2.2.1 HJ.out.2.2.2 rfl (by decide) (.slice a' k c') k ys rfl HRow.out ⟨w9.heap.size, 0, none⟩ 1 1 [.bool true] rfl rfl HNew.out (by simp [Value.oneCell']) hl63 hl49 HBs.out ?_; intro v8 w8 own8 ap8; obtain ⟨⟨a7, c7, hv8⟩, ⟨c8', f8⟩, q1⟩ := HApp.out v8 w8 own8 ap8; subst hv8; have HQ1 : Hid _ := q1; clear own8 ap8 q1)
      go_roundg (n - (k + 1))
      case rel => exact ⟨k + 1, _, _, HKN.out, by simp, HQ1.out⟩
      case measure => exact hgk
    · have hke : k = n := by omega
      subst hke
      have HF : Hid (NewRS w k d (.returned (.tuple #[.pointer (some ⟨b, 0, none⟩), .int .i64 0])) wr) := ⟨b, _, rfl, H1.out.heat hn HR.out.1 HR.out.2, H1.out.bel⟩
      go_wp2
      go_returns
      exact HF.out
end
end Go.Proofs.Ytbfjhgiifmhccaa
