/-
  depotkit's Lent, Kept and Over, walked.
  KEEP: set on app at below new trans refl start ap kept rd rds mono row push put step side drew drewN mark weaken less store slice place cell lt prefix setOther
-/
import Derived.Test.YtnglgcipjbpgoaaAparA
set_option linter.unusedSimpArgs false
set_option linter.unusedVariables false
namespace Go.Proofs.Ytnglgcipjbpgoaa
open Go Go.RowKit Go.Shelf

attribute [local go_sem] Oper.semAt_some

/-- the marks behind a list that is lent -/
noncomputable def m64 : List Int := (List.range 64).map (mrk 0)
theorem m64_len : m64.length = 64 := by simp [m64]
theorem take_snoc {zs : List Int} {k : Nat} (hk : k < zs.length) : zs.take (k + 1) = zs.take k ++ [zs.getD k 0] := by
  rw [List.take_add_one, List.getD_eq_getElem?_getD]
  simp [hk]
theorem grow_one {B : Nat} {w wr w' : World} {u : Value} {n : Nat} {xs : List Value} {o : Obj} (bel : Below B w wr) (hB : B ≤ w.heap.size) (own : wr.ownsRow B 3 1 u n xs) (hg : (wr.alloc o).grownBy w' u.ownBlock) : Below B w w' :=
  (bel.alloc (Nat.le_trans hB bel.size) o).grown hg (Nat.le_trans hB (bel.alloc (Nat.le_trans hB bel.size) o).size) (fun b e => (World.ownsRow.lt own b e).1)
theorem row_slice1 {B K : Nat} {e : TypeId} {w : World} {x : Value} {xs : List Value} (h : w.ownsRow B e 1 x K xs) : ∃ a c, x = .slice a K c := by
  rcases h.2 with ⟨hv, hn⟩ | ⟨g, cap, cur, hv, _⟩
  · exact ⟨none, 0, by rw [hv, hn]⟩
  · exact ⟨_, _, hv⟩
theorem m64_take {k : Nat} (hk : k < 64) : (List.range (k + 1)).map (mrk 0) = (List.range k).map (mrk 0) ++ [mrk 0 k] := by
  rw [List.range_succ, List.map_append]; rfl

set_option maxRecDepth 100000 in
set_option maxHeartbeats 2000000 in
theorem lent_any (v : Value) (zs : List Int) (w : World) (hr : Rd w v zs) :
    Calls Try.prog 14 #[v] w fun e w' => ∃ v', e = .returned v' ∧ Own w.heap.size w' v' (zs ++ m64) ∧ Below w.heap.size w w' := by
  have hl := hr.len
  obtain ⟨i0, hi, hz0, hz1, hz2⟩ := info_parts Try.info3
  have HR : Hid (∀ W, Below w.heap.size w W → Rd W v zs) := fun W h => hr.below h
  obtain ⟨_, av, cv, rfl, -⟩ := id hr
  clear hr
  go_enter Try.func14, Try.ntmps14
  go_wp2
  go_loopg [3, 4] zs.length (fun g o i wr => ∃ (k : Nat) (ao : Option Addr) (co : Nat), k + g = zs.length ∧ o = .slice ao k co ∧ i = .int .i64 k ∧ wr.ownsRow w.heap.size 3 1 (.slice ao k co) k ((zs.take k).map (Value.int .i64)) ∧ Below w.heap.size w wr)
  case atStart => exact ⟨0, none, 0, by omega, rfl, rfl, World.ownsRow_nil _ _ _ _, Below.refl _ _⟩
  case round =>
  obtain ⟨k, ao, co, hk, rfl, rfl, own, bel⟩ := hrel
  have HK : Hid (k + gk = zs.length) := hk
  by_cases hlt : k < zs.length
  · obtain ⟨_, _, _, e, _, _, _, h2⟩ := HR.out wr bel
    cases e
    obtain ⟨b, off, e, hb, hcell⟩ := h2 (by intro h; rw [h] at hlt; simp at hlt)
    have hck := hcell k hlt
    subst e
    have HT : Hid (zs.take (k + 1) = zs.take k ++ [zs.getD k 0]) := take_snoc hlt
    have HOW : Hid (wr.ownsRow w.heap.size 3 1 (.slice ao k co) k ((zs.take k).map (Value.int .i64))) := own
    clear hcell h2 hk own
    generalize zs.getD k 0 = z at *
    obtain ⟨tk, htk⟩ : ∃ tk, (zs.take k).map (Value.int .i64) = tk := ⟨_, rfl⟩
    have HTK : Hid ((zs.take k).map (Value.int .i64) = tk) := htk
    rw [htk] at HOW
    clear htk
    have sw : w.heap.size ≤ wr.heap.size := bel.size
    go_wp2_with (at_builtin; refine wpList_append_own _ rfl _ _ 32 rfl w.heap.size 3 i0 (.int .i64 0) 1 8 Try.underlying32 hi hz0 hz1 hz2 rfl (by decide) _ k tk rfl (World.ownsRow.alloc HOW.out _) ⟨wr.heap.size, 0, none⟩ 1 1 [.int .i64 z] rfl rfl (cell_one_new _ _ _) (by simp [Value.oneCell']) (by unfold maxLen; omega) (by omega) (by simp; omega) ?_; intro x' w' own' gr2 hn')
    obtain ⟨ao', co', e'⟩ := row_slice1 own'
    subst e'
    have b' := grow_one bel (Nat.le_refl _) HOW.out gr2
    go_roundg (gk - 1)
    case measure => have := HK.out; omega
    case rel => exact ⟨k + 1, ao', co', by have := HK.out; omega, rfl, by go_num, by rw [HT.out, List.map_append, HTK.out]; exact own', b'⟩
  have e : k = zs.length := by omega
  subst e
  clear hk hlt HK
  rw [List.take_length] at own
  have OWN : Hid (wr.ownsRow w.heap.size 3 1 (.slice ao zs.length co) zs.length (zs.map (Value.int .i64))) := own
  have BEL : Hid (Below w.heap.size w wr) := bel
  clear own bel
  generalize wr = w2 at *
  go_wp2
  go_loopg [3, 5] 64 (fun g o i wr => ∃ (k : Nat) (ao : Option Addr) (co : Nat), k + g = 64 ∧ o = .slice ao (zs.length + k) co ∧ i = .int .i64 k ∧ wr.ownsRow w.heap.size 3 1 (.slice ao (zs.length + k) co) (zs.length + k) (zs.map (Value.int .i64) ++ ((List.range k).map (mrk 0)).map (Value.int .i64)) ∧ Below w.heap.size w wr)
  case atStart => exact ⟨0, ao, co, by omega, rfl, rfl, by simpa using OWN.out, BEL.out⟩
  case round =>
  clear OWN BEL
  obtain ⟨k, ao, co, hk, rfl, rfl, own, bel⟩ := hrel
  have HK : Hid (k + gk = 64) := hk
  by_cases hlt : k < 64
  · have HM : Hid (∀ W, Calls Try.prog 37 #[.int .i64 0, .int .i64 k] W fun e w' => e = .returned (.int .i64 (mrk 0 k)) ∧ w' = W) := fun W => mark_any 0 k W (by omega) (by omega)
    have HT : Hid ((List.range (k + 1)).map (mrk 0) = (List.range k).map (mrk 0) ++ [mrk 0 k]) := m64_take hlt
    have HOW : Hid (wr.ownsRow w.heap.size 3 1 (.slice ao (zs.length + k) co) (zs.length + k) (zs.map (Value.int .i64) ++ ((List.range k).map (mrk 0)).map (Value.int .i64))) := own
    clear hk own
    generalize mrk 0 k = z at *
    obtain ⟨tk, htk⟩ : ∃ tk, zs.map (Value.int .i64) ++ ((List.range k).map (mrk 0)).map (Value.int .i64) = tk := ⟨_, rfl⟩
    have HTK : Hid (zs.map (Value.int .i64) ++ ((List.range k).map (mrk 0)).map (Value.int .i64) = tk) := htk
    rw [htk] at HOW
    clear htk
    have sw : w.heap.size ≤ wr.heap.size := bel.size
    go_wp2_with fail
    refine (HM.out _).mono ?_
    rintro e wv ⟨rfl, hwv⟩
    rw [hwv]
    clear hwv wv
    go_wp2_with (at_builtin; refine wpList_append_own _ rfl _ _ 32 rfl w.heap.size 3 i0 (.int .i64 0) 1 8 Try.underlying32 hi hz0 hz1 hz2 rfl (by decide) _ (zs.length + k) tk rfl (World.ownsRow.alloc HOW.out _) ⟨wr.heap.size, 0, none⟩ 1 1 [.int .i64 z] rfl rfl (cell_one_new _ _ _) (by simp [Value.oneCell']) (by unfold maxLen; omega) (by omega) (by simp; omega) ?_; intro x' w' own' gr2 hn')
    obtain ⟨ao', co', e'⟩ := row_slice1 own'
    subst e'
    have b' := grow_one bel (Nat.le_refl _) HOW.out gr2
    go_roundg (gk - 1)
    case measure => have := HK.out; omega
    case rel => exact ⟨k + 1, ao', co', by have := HK.out; omega, rfl, by go_num, by rw [HT.out, List.map_append, ← List.append_assoc, HTK.out]; exact own', b'⟩
  have e : k = 64 := by omega
  subst e
  clear hk hlt HK
  have OWN : Hid (Own w.heap.size wr (.slice ao (zs.length + 64) co) (zs ++ m64)) := by
    show Own _ _ _ _
    unfold Own
    rw [List.length_append, m64_len, List.map_append]
    exact own
  clear own
  go_wp2
  go_ret
  exact ⟨_, rfl, OWN.out, bel⟩

theorem own_at {B : Nat} {w : World} {x : Value} {T : List Int} (h : Own B w x T) {i : Nat} (hi : i < T.length) : ∃ g cap, x = .slice (some ⟨g, 0, none⟩) T.length cap ∧ T.length ≤ cap ∧ w.cell? ⟨g, i, none⟩ = some (.int .i64 (T.getD i 0)) := by
  obtain ⟨g, cap, e, hH, hg, hbase, hncap, hmm⟩ := trown_holds h (by intro h; rw [h] at hi; simp at hi)
  refine ⟨g, cap, e, hncap, ?_⟩
  have := (hH i (by simpa using hi)).1
  simpa [List.getD_eq_getElem?_getD, getElem!_def, Array.getElem?_eq_getElem, hi] using this
theorem cell_app_left {B : Nat} {w : World} {x : Value} {zs ms : List Int} (h : Own B w x (zs ++ ms)) {i : Nat} (hi : i < zs.length) : ∃ g cap, x = .slice (some ⟨g, 0, none⟩) (zs.length + ms.length) cap ∧ zs.length + ms.length ≤ cap ∧ w.cell? ⟨g, i, none⟩ = some (.int .i64 (zs.getD i 0)) := by
  have hl : i < (zs ++ ms).length := by rw [List.length_append]; omega
  have e2 : (zs ++ ms).getD i 0 = zs.getD i 0 := by rw [List.getD_eq_getElem?_getD, List.getD_eq_getElem?_getD, List.getElem?_append_left hi]
  have := own_at h hl
  rwa [e2, List.length_append] at this
theorem cell_app_right {B : Nat} {w : World} {x : Value} {zs ms : List Int} (h : Own B w x (zs ++ ms)) {i : Nat} (hi : i < ms.length) : ∃ g cap, x = .slice (some ⟨g, 0, none⟩) (zs.length + ms.length) cap ∧ zs.length + ms.length ≤ cap ∧ w.cell? ⟨g, zs.length + i, none⟩ = some (.int .i64 (ms.getD i 0)) := by
  have hl : zs.length + i < (zs ++ ms).length := by rw [List.length_append]; omega
  have e2 : (zs ++ ms).getD (zs.length + i) 0 = ms.getD i 0 := by rw [List.getD_eq_getElem?_getD, List.getD_eq_getElem?_getD, List.getElem?_append_right (by omega), Nat.add_sub_cancel_left]
  have := own_at h hl
  rwa [e2, List.length_append] at this
theorem grown_setCell (w : World) (a : Addr) (u : Value) : w.grownBy (w.setCell a u) (some a.block) :=
  ⟨rfl, rfl, rfl, by simp, fun k _ hk => heap_setCell_other w a k u (fun e => hk (by simp [e]))⟩
theorem m64_at {i : Nat} (hi : i < 64) : m64.getD i 0 = mrk 0 i := by
  unfold m64
  rw [List.getD_eq_getElem?_getD, List.getElem?_map, List.getElem?_range hi]
  rfl

set_option maxRecDepth 100000 in
set_option maxHeartbeats 2000000 in
theorem kept_any (B : Nat) (x v : Value) (zs : List Int) (w : World) (ho : Own B w x (zs ++ m64)) (hr : Rd w v zs) :
    Calls Try.prog 16 #[x, v] w fun e w' => e = .returned (.bool true) ∧ Below w.heap.size w w' := by
  have hl := hr.len
  have HR : Hid (∀ W, Below w.heap.size w W → Rd W v zs) := fun W h => hr.below h
  have HO : Hid (∀ W, Below w.heap.size w W → Own B W x (zs ++ m64)) := fun W h => ho.below h
  obtain ⟨_, av, cv, rfl, -⟩ := id hr
  obtain ⟨ax, cx, e⟩ := row_slice1 ho
  rw [List.length_append, m64_len] at e
  subst e
  clear hr ho
  go_enter Try.func16, Try.ntmps16
  go_wp2
  go_loopg [5] zs.length (fun g i wr => ∃ k : Nat, k + g = zs.length ∧ i = .int .i64 k ∧ Below w.heap.size w wr)
  case atStart => exact ⟨0, by omega, rfl, Below.refl _ _⟩
  case round =>
  obtain ⟨k, hk, rfl, bel⟩ := hrel
  have HK : Hid (k + gk = zs.length) := hk
  by_cases hlt : k < zs.length
  · obtain ⟨_, _, _, e, _, _, _, h2⟩ := HR.out wr bel
    cases e
    obtain ⟨b, off, e, hb, hcell⟩ := h2 (by intro h; rw [h] at hlt; simp at hlt)
    have hck := hcell k hlt
    subst e
    obtain ⟨g, cap, e, hcap, hcg⟩ := cell_app_left (HO.out wr bel) hlt
    rw [m64_len] at e hcap
    cases e
    have BE : Hid (Below w.heap.size w wr) := bel
    clear hcell h2 hk bel
    generalize zs.getD k 0 = z at *
    go_wp2
    go_quiet (fail)
    go_wp2
    go_roundg (gk - 1)
    case measure => have := HK.out; omega
    case rel => exact ⟨k + 1, by have := HK.out; omega, by go_num, BE.out.trans ((below_drewN _ _).mono BE.out.size)⟩
  have e : k = zs.length := by omega
  subst e
  clear hk hlt HK
  have BEL : Hid (Below w.heap.size w wr) := bel
  clear bel
  generalize wr = w2 at *
  go_wp2
  go_loopg [6] 64 (fun g i wr => ∃ k : Nat, k + g = 64 ∧ i = .int .i64 k ∧ Below w.heap.size w wr)
  case atStart => exact ⟨0, by omega, rfl, BEL.out⟩
  case round =>
  obtain ⟨k, hk, rfl, bel⟩ := hrel
  have HK : Hid (k + gk = 64) := hk
  by_cases hlt : k < 64
  · obtain ⟨g, cap, e, hcap, hcg⟩ := cell_app_right (HO.out wr bel) (i := k) (by rw [m64_len]; exact hlt)
    rw [m64_len] at e hcap
    cases e
    rw [m64_at hlt] at hcg
    have HM : Hid (∀ W, Calls Try.prog 37 #[.int .i64 0, .int .i64 k] W fun e w' => e = .returned (.int .i64 (mrk 0 k)) ∧ w' = W) := fun W => mark_any 0 k W (by omega) (by omega)
    have BE : Hid (Below w.heap.size w wr) := bel
    clear hk bel
    generalize mrk 0 k = z at *
    go_wp2
    go_quiet ((go_at_call 37; exact Calls.quiet_of_same (HM.out _)))
    go_wp2
    go_roundg (gk - 1)
    case measure => have := HK.out; omega
    case rel => exact ⟨k + 1, by have := HK.out; omega, by go_num, BE.out.trans ((below_drewN _ _).mono BE.out.size)⟩
  have e : k = 64 := by omega
  subst e
  clear hk hlt HK
  go_wp2
  go_ret
  exact ⟨rfl, bel⟩

set_option maxRecDepth 100000 in
set_option maxHeartbeats 2000000 in
theorem over_any (B : Nat) (x : Value) (X : List Int) (w : World) (ho : Own B w x X) (hl : X.length ≤ 35184372088832) :
    Calls Try.prog 18 #[x] w fun e w' => (∃ v, e = .returned v) ∧ (∃ Z, Z.length = X.length ∧ Own B w' x Z) ∧ w.grownBy w' x.ownBlock := by
  obtain ⟨ax, cx, e⟩ := row_slice1 ho
  subst e
  have HO : Hid (Own B w (.slice ax X.length cx) X) := ho
  clear ho
  go_enter Try.func18, Try.ntmps18
  go_wp2
  go_loopg [2] X.length (fun g i wr => ∃ (k : Nat) (Y : List Int), k + g = X.length ∧ i = .int .i64 k ∧ Y.length = X.length ∧ Own B wr (.slice ax X.length cx) Y ∧ w.grownBy wr (Value.slice ax X.length cx).ownBlock)
  case atStart => exact ⟨0, X, by omega, rfl, rfl, HO.out, ⟨rfl, rfl, rfl, Nat.le_refl _, fun _ _ _ => rfl⟩⟩
  case round =>
  obtain ⟨k, Y, hk, rfl, hY, ho, hg⟩ := hrel
  have HK : Hid (k + gk = X.length) := hk
  by_cases hlt : k < X.length
  · obtain ⟨g, cap, y, e, hbg, hcap, hc1, hc2⟩ := Pm.place (k := 0) (c := 0) ⟨Y, ho, hY, fun t ht => by omega⟩ hlt
    simp only [Value.slice.injEq, true_and] at e
    obtain ⟨rfl, rfl⟩ := e
    have SX : Hid (∀ z, Own B (wr.setCell ⟨g, k, none⟩ (.int .i64 z)) (.slice (some ⟨g, 0, none⟩) X.length cx) (Y.set k z)) := fun z => own_store ho hY
    have SG : Hid (∀ z, w.grownBy (wr.setCell ⟨g, k, none⟩ z) (some g)) := fun z => hg.trans (grown_setCell wr ⟨g, k, none⟩ z)
    clear hk ho hg
    go_wp2
    go_roundg (gk - 1)
    case measure => have := HK.out; omega
    case rel => exact ⟨k + 1, _, by have := HK.out; omega, by go_num, by rw [List.length_set]; exact hY, SX.out _, SG.out _⟩
  have e : k = X.length := by omega
  subst e
  clear hk hlt HK
  go_wp2
  go_end0
  exact ⟨⟨_, rfl⟩, ⟨Y, hY, ho⟩, hg⟩

end Go.Proofs.Ytnglgcipjbpgoaa
