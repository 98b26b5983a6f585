/-
  dimacs.WriteAnswer, walked.
  KEEP: grown below mono set on app nil text own rd rds new kept form lt trans refl rdb tens rdz len cut push whole start row
-/
import Derived.Test.YtlkbbbbclmffjaaGreatDoorJRWr
import Derived.Test.YtlkbbbbclmffjaaGreatDoorJTruth
import Derived.Laws.EntriesVeiled
set_option linter.unusedSimpArgs false
set_option linter.unusedVariables false
namespace Go.Proofs.YtlkbbbbclmffjaaGreatDoor
open Go Go.RowKit Go.Lib Go.Sort

theorem Sb.rdb {lo B O P : Nat} {W0 W : World} {v : Value} {T : List UInt8} {b : Int} (h : Sb lo B O P W0 W v T b) (hl : lo = W0.heap.size) {u : Value} {m : List Bool} (hm : RdB W0 u m) : RdB W u m := by subst hl; exact hm.below h.bel
theorem Sb.tens {lo B O P : Nat} {W0 W : World} {v : Value} {T : List UInt8} {b : Int} (h : Sb lo B O P W0 W v T b) (hl : lo = W0.heap.size) (ht : TensY W0) : TensY W := by subst hl; exact ht.below h.bel

set_option maxHeartbeats 3200000 in
set_option maxRecDepth 100000 in
theorem writeAnswer_any (sat : Bool) (vm : Value) (m : List Bool) (w : World) (hm : RdB w vm m) (hl : m.length ≤ 1048576) (ht : TensY w) :
    Calls Tryz.prog 11 #[.bool sat, vm] w fun e w' => e = .returned (.string ⟨(ansF sat m).toArray⟩) ∧ RowKit.Below w.heap.size w w' := by
  have HM : Hid (RdB w vm m) := hm
  have HT : Hid (TensY w) := ht
  obtain ⟨am, cm, rfl, -⟩ := hm.form
  clear hm ht
  cases sat
  · go_enter Tryz.func11, Tryz.ntmps11
    go_wp2
    go_ret
    exact ⟨rfl, RowKit.Below.refl _ _⟩
  obtain ⟨i0, hi, hz0, hz1, hz2⟩ := info_parts infoY
  have hcv := Lib.run_convert_bytes_const (P := Tryz.prog) w 47 5 #[.int .u8 115, .int .u8 32, .int .u8 83, .int .u8 65, .int .u8 84, .int .u8 73, .int .u8 83, .int .u8 70, .int .u8 73, .int .u8 65, .int .u8 66, .int .u8 76, .int .u8 69, .int .u8 10] 14 14 Tryz.underlying47 Tryz.underlying5
  have F1 : Full (w.alloc (.cells #[.int .u8 115, .int .u8 32, .int .u8 83, .int .u8 65, .int .u8 84, .int .u8 73, .int .u8 83, .int .u8 70, .int .u8 73, .int .u8 65, .int .u8 66, .int .u8 76, .int .u8 69, .int .u8 10] 5 (14, 15))) (.slice (some ⟨w.heap.size, 0, none⟩) 14 14) satL := Full.new w satL (by decide) (14, 15)
  have HFu : Hid (Full (((w.alloc (.cells #[.int .u8 115, .int .u8 32, .int .u8 83, .int .u8 65, .int .u8 84, .int .u8 73, .int .u8 83, .int .u8 70, .int .u8 73, .int .u8 65, .int .u8 66, .int .u8 76, .int .u8 69, .int .u8 10] 5 (14, 15))).alloc (.cells #[.slice (some ⟨w.heap.size, 0, none⟩) 14 14] 47)).alloc (.cells #[.int .i64 14] 3)) (.slice (some ⟨w.heap.size, 0, none⟩) 14 14) satL) := (F1.grown (below_box _ _)).grown (below_box _ _)
  have HO3 : Hid (B1 (((w.alloc (.cells #[.int .u8 115, .int .u8 32, .int .u8 83, .int .u8 65, .int .u8 84, .int .u8 73, .int .u8 83, .int .u8 70, .int .u8 73, .int .u8 65, .int .u8 66, .int .u8 76, .int .u8 69, .int .u8 10] 5 (14, 15))).alloc (.cells #[.slice (some ⟨w.heap.size, 0, none⟩) 14 14] 47)).alloc (.cells #[.int .i64 14] 3)) (w.heap.size + 1) (.slice (some ⟨w.heap.size, 0, none⟩) 14 14)) := by
    have := (B1.new (w.alloc (.cells #[.int .u8 115, .int .u8 32, .int .u8 83, .int .u8 65, .int .u8 84, .int .u8 73, .int .u8 83, .int .u8 70, .int .u8 73, .int .u8 65, .int .u8 66, .int .u8 76, .int .u8 69, .int .u8 10] 5 (14, 15))) 47 (.slice (some ⟨w.heap.size, 0, none⟩) 14 14)).below (below_box _ (.cells #[.int .i64 14] 3))
    rwa [World.size_alloc] at this
  have HP3 : Hid (B1 (((w.alloc (.cells #[.int .u8 115, .int .u8 32, .int .u8 83, .int .u8 65, .int .u8 84, .int .u8 73, .int .u8 83, .int .u8 70, .int .u8 73, .int .u8 65, .int .u8 66, .int .u8 76, .int .u8 69, .int .u8 10] 5 (14, 15))).alloc (.cells #[.slice (some ⟨w.heap.size, 0, none⟩) 14 14] 47)).alloc (.cells #[.int .i64 14] 3)) (w.heap.size + 1 + 1) (.int .i64 14)) := by
    have := B1.new ((w.alloc (.cells #[.int .u8 115, .int .u8 32, .int .u8 83, .int .u8 65, .int .u8 84, .int .u8 73, .int .u8 83, .int .u8 70, .int .u8 73, .int .u8 65, .int .u8 66, .int .u8 76, .int .u8 69, .int .u8 10] 5 (14, 15))).alloc (.cells #[.slice (some ⟨w.heap.size, 0, none⟩) 14 14] 47)) 3 (.int .i64 14)
    rwa [World.size_alloc, World.size_alloc] at this
  have HB3 : Hid (RowKit.Below w.heap.size w (((w.alloc (.cells #[.int .u8 115, .int .u8 32, .int .u8 83, .int .u8 65, .int .u8 84, .int .u8 73, .int .u8 83, .int .u8 70, .int .u8 73, .int .u8 65, .int .u8 66, .int .u8 76, .int .u8 69, .int .u8 10] 5 (14, 15))).alloc (.cells #[.slice (some ⟨w.heap.size, 0, none⟩) 14 14] 47)).alloc (.cells #[.int .i64 14] 3))) := Below.step (Below.step (below_box _ _) (below_box _ _)) (below_box _ _)
  have HZ3 : Hid (((((w.alloc (.cells #[.int .u8 115, .int .u8 32, .int .u8 83, .int .u8 65, .int .u8 84, .int .u8 73, .int .u8 83, .int .u8 70, .int .u8 73, .int .u8 65, .int .u8 66, .int .u8 76, .int .u8 69, .int .u8 10] 5 (14, 15))).alloc (.cells #[.slice (some ⟨w.heap.size, 0, none⟩) 14 14] 47)).alloc (.cells #[.int .i64 14] 3))).heap.size = w.heap.size + 1 + 1 + 1) := by show _ = _; simp
  clear F1
  go_enter Tryz.func11, Tryz.ntmps11
  go_wp2_with (at_builtin; refine wpList_append_full_string rfl _ _ rfl (w.heap.size + 1 + 1 + 1) _ satL rfl HFu.out [118] rfl (by simp) (by decide) (by rw [HZ3.out]; exact Nat.le_refl _) ?_; intro v4 w4 own4 gr4; obtain ⟨a4, c4, hv4⟩ := ownt_form own4; subst hv4; have o4 := HO3.out.kept gr4 (by simp); have p4 := HP3.out.kept gr4 (by simp); have x4 := o4.c; have y4 := o4.f; have S4 : Hid (Sb w.heap.size (w.heap.size + 1 + 1 + 1) (w.heap.size + 1) (w.heap.size + 1 + 1) w (w4.setCell ⟨w.heap.size + 1, 0, none⟩ (.slice a4 (satL ++ [118]).length c4)) (.slice a4 (satL ++ [118]).length c4) (satL ++ [118]) 14) := ⟨o4.set _, p4.kept (grown_set w4 ⟨w.heap.size + 1, 0, none⟩ _) (by simp), ownsRow_setCell_below own4 (a := ⟨w.heap.size + 1, 0, none⟩) (by show w.heap.size + 1 < _; omega) _, (by omega), (by omega), (by omega), (by omega), (by omega), (by rw [World.size_setCell]; have := gr4.size; rw [HZ3.out] at this; exact this), ((HB3.out.grown gr4 (by rw [HZ3.out]; omega) (fun k hk => by cases hk)).setCell (p := ⟨w.heap.size + 1, 0, none⟩) (by show w.heap.size ≤ w.heap.size + 1; omega) _)⟩; clear own4 gr4 o4 p4)
  have HPut : Hid (∀ (k : Nat) (v : Value) (wr : World) (z : Int) (j : Nat), j ≤ 1048576 → -1048577 ≤ z → z ≤ 1048577 → Sb w.heap.size (w.heap.size + 1 + 1 + 1) (w.heap.size + 1) (w.heap.size + 1 + 1) w wr v ((putTo m j).1 ++ (putTo m j).2) (putTo m j).1.length →
      Calls Tryz.prog 26 #[.int .i64 z, .pointer (some ⟨w.heap.size + 1, 0, none⟩), .pointer (some ⟨w.heap.size + 1 + 1, 0, none⟩)] wr fun e W' => (∃ x, e = .returned x) ∧ ∃ v', Sb w.heap.size (w.heap.size + 1 + 1 + 1) (w.heap.size + 1) (w.heap.size + 1 + 1) w W' v' ((putN (putTo m j) z).1 ++ (putN (putTo m j) z).2) (putN (putTo m j) z).1.length) := fun k v wr z j hj h0 h1 hS =>
    put_any _ _ _ _ w wr v (putTo m j) z (by omega) (by omega) hS (by have := putTo_len m j (by omega); omega) (hS.tens rfl HT.out)
  go_loopg [21] m.length (fun g i wr => ∃ (k : Nat) (v : Value), k + g = m.length ∧ i = .int .i64 k ∧ Hid (Sb w.heap.size (w.heap.size + 1 + 1 + 1) (w.heap.size + 1) (w.heap.size + 1 + 1) w wr v ((putTo m k).1 ++ (putTo m k).2) (putTo m k).1.length))
  case atStart => exact ⟨0, _, by omega, rfl, S4.out⟩
  case round =>
    clear S4 x4 y4 HFu HO3 HP3 HB3 HZ3 hcv
    obtain ⟨k, v, hk, rfl, HS⟩ := hrel
    have HK : Hid (k + gk = m.length) := hk
    by_cases hlt : k < m.length
    · obtain ⟨a', c', e', hcell⟩ := (HS.out.rdb rfl HM.out).form
      have e3 : a' = am ∧ c' = cm := by injection e' with q1 q2 q3; exact ⟨q1.symm, q3.symm⟩
      obtain ⟨rfl, rfl⟩ := e3
      obtain ⟨b, off, rfl, hck⟩ := hcell k hlt
      have HN : Hid (putTo m (k + 1) = putN (putTo m k) (numAt m k)) := putTo_succ m k
      have hkb : k ≤ 1048576 := by omega
      cases hb : m.getD k false
      · have HZ : Hid (numAt m k = -((k : Int) + 1)) := by show _ = _; unfold numAt; rw [hb]; rfl
        rw [hb] at hck
        clear hk hcell e' hb
        go_wp2_with (go_at_call 26; refine (HPut.out k _ _ (-((k : Int) + 1)) k hkb (by omega) (by omega) HS.out).mono ?_; rintro e w5 ⟨⟨x5, rfl⟩, v5, S5⟩)
        go_roundg (gk - 1)
        case measure => have := HK.out; omega
        case rel => exact ⟨k + 1, v5, by have := HK.out; omega, by go_num, by unfold Hid; rw [HN.out, HZ.out]; exact S5⟩
      · have HZ : Hid (numAt m k = (k : Int) + 1) := by show _ = _; unfold numAt; rw [hb]; rfl
        rw [hb] at hck
        clear hk hcell e' hb
        go_wp2_with (go_at_call 26; refine (HPut.out k _ _ ((k : Int) + 1) k hkb (by omega) (by omega) HS.out).mono ?_; rintro e w5 ⟨⟨x5, rfl⟩, v5, S5⟩)
        go_roundg (gk - 1)
        case measure => have := HK.out; omega
        case rel => exact ⟨k + 1, v5, by have := HK.out; omega, by go_num, by unfold Hid; rw [HN.out, HZ.out]; exact S5⟩
    · obtain rfl : k = m.length := by omega
      clear hk
      go_wp2_with (go_at_call 26; refine (HPut.out 0 _ _ 0 m.length hl (by omega) (by omega) HS.out).mono ?_; rintro e w5 ⟨⟨x5, rfl⟩, v5, S5⟩; obtain ⟨a5, c5, hv5⟩ := ownt_form S5.t; subst hv5; have x5 := S5.o.c; have s5 := S5.bs; have H5 : Hid (Sb w.heap.size (w.heap.size + 1 + 1 + 1) (w.heap.size + 1) (w.heap.size + 1 + 1) w w5 (.slice a5 ((putN (putTo m m.length) 0).1 ++ (putN (putTo m m.length) 0).2).length c5) ((putN (putTo m m.length) 0).1 ++ (putN (putTo m m.length) 0).2) (putN (putTo m m.length) 0).1.length) := S5; refine Hid.out ?_)
      refine Lib.hid ?_
      have hln : ((putN (putTo m m.length) 0).1 ++ (putN (putTo m m.length) 0).2).length ≤ 100000000 := by
        have h1 := putTo_len m m.length (by omega)
        have h2 := putN_len (putTo m m.length) 0 (by omega) (by omega)
        rw [List.length_append]; omega
      have HA : Hid (ansF true m = ((putN (putTo m m.length) 0).1 ++ (putN (putTo m m.length) 0).2) ++ [10]) := rfl
      clear S5
      generalize (putN (putTo m m.length) 0).1 ++ (putN (putTo m m.length) 0).2 = T at *
      go_wp2_with (at_builtin; refine wpList_append_own _ rfl _ _ 47 rfl (w.heap.size + 1 + 1 + 1) 5 i0 (.int .u8 0) 1 1 Tryz.underlying47 hi hz0 hz1 hz2 rfl (by decide) _ _ _ rfl (World.ownsRow.alloc H5.out.t _) _ 1 1 [.int .u8 10] rfl rfl (cell_one_new _ _ _) (by simp [Value.oneCell']) (by unfold maxLen; omega) (by omega) (by simp; omega) ?_; intro v6 w6 own6 gr6 hn6; refine Hid.out ?_)
      refine Lib.hid ?_
      have own6' : OwnT (w.heap.size + 1 + 1 + 1) w6 v6 (T ++ [10]) := OwnT.one own6
      have HB6 : Hid (RowKit.Below w.heap.size w w6) := (H5.out.bel.alloc (by have := H5.out.bs; omega) _).grown gr6 (by simp; omega) (fun q hq => by have := (World.ownsRow.lt H5.out.t q hq).1; omega)
      obtain ⟨T6, hT6⟩ : ∃ X, X = T ++ [10] := ⟨_, rfl⟩
      rw [← hT6] at own6'
      have hp : 0 < T6.length := by rw [hT6]; simp
      have HA6 : Hid (ansF true m = T6) := by show _ = _; rw [hT6]; exact HA.out
      clear own6 gr6 hn6 hT6 H5 HA
      rcases own6'.2 with ⟨-, h0⟩ | ⟨g, cap, cur, rfl, -, -, -, -, -, -⟩
      · omega
      · have hcv := run_convert_bytes_back (P := Tryz.prog) w6 47 9 5 ⟨g, 0, none⟩ cap T6 Tryz.underlying47 Tryz.underlying5 Tryz.underlying9 (fun j hj => World.ownsRow.cells own6' (g := g) rfl j _ (by simp [Lib.byteCells, hj]))
        go_wp2
        go_ret
        rw [HA6.out]
        exact ⟨rfl, HB6.out⟩

end Go.Proofs.YtlkbbbbclmffjaaGreatDoor
