/-
  depotkit's LentBytes, KeptBytes and OverBytes, walked.
  KEEP: set on app at below new trans refl start ap kept rd rds mono row push put step side drew drewN mark weaken less store slice place cell lt prefix setOther
-/
import Derived.Test.YtilcokpaeapmeaaDoorKAparYW
import Derived.Test.YtilcokpaeapmeaaDoorKByT
import Derived.Deep.QuietTactic
set_option linter.unusedSimpArgs false
set_option linter.unusedVariables false
namespace Go.Proofs.YtilcokpaeapmeaaDoor
open Go Go.RowKit Go.Shelf

attribute [local go_sem] Oper.semAt_some

/-- the slice reads the bytes zs, as numbers -/
def RdI8 (w : World) (v : Value) (ms : List Int) : Prop :=
  ms.length ≤ 140737488351232 ∧ ∃ a c, v = .slice a ms.length c ∧ (ms ≠ [] → ∃ b off, a = some ⟨b, off, none⟩ ∧ b < w.heap.size ∧ ∀ j, j < ms.length → w.cell? ⟨b, off + j, none⟩ = some (.int .u8 (ms.getD j 0)))
theorem RdI8.len {w : World} {v : Value} {ms : List Int} (h : RdI8 w v ms) : ms.length ≤ 140737488351232 := h.1
theorem RdI8.below {w w' : World} {v : Value} {ms : List Int} (h : RdI8 w v ms) (hb : Below w.heap.size w w') : RdI8 w' v ms := by
  obtain ⟨h1, a, c, rfl, h2⟩ := h
  refine ⟨h1, a, c, rfl, fun hne => ?_⟩
  obtain ⟨b, off, e, hlt, hcell⟩ := h2 hne
  exact ⟨b, off, e, Nat.lt_of_lt_of_le hlt hb.size, fun j hj => (hb.cell (p := ⟨b, off + j, none⟩) hlt).trans (hcell j hj)⟩
/-- bytes as numbers -/
def nuY (T : List UInt8) : List Int := T.map fun b => (b.toNat : Int)
theorem nuY_len (T : List UInt8) : (nuY T).length = T.length := by simp [nuY]
theorem nuY_at (T : List UInt8) {j : Nat} (h : j < T.length) : (nuY T).getD j 0 = (((T.getD j 0).toNat : Nat) : Int) := by
  unfold nuY
  rw [List.getD_eq_getElem?_getD, List.getElem?_map, List.getD_eq_getElem?_getD, List.getElem?_eq_getElem h]
  rfl
theorem RdI8.of {w : World} {v : Value} {T : List UInt8} (h : RdY w v T) (hl : T.length ≤ 140737488351232) : RdI8 w v (nuY T) := by
  obtain ⟨_, a, c, rfl, _, _, _, h2⟩ := h
  refine ⟨by rw [nuY_len]; exact hl, a, c, by rw [nuY_len], fun hne => ?_⟩
  obtain ⟨b, off, e, hlt, hcell⟩ := h2 (by intro e; subst e; exact hne rfl)
  refine ⟨b, off, e, hlt, fun j hj => ?_⟩
  rw [nuY_len] at hj
  rw [nuY_at T hj]
  exact hcell j hj
/-- the marks behind a list that is lent -/
def my1 (k : Nat) : Int := (200 + (k : Int)) % 256
def y64 : List Int := (List.range 64).map my1
theorem y64_len : y64.length = 64 := by simp [y64]
theorem take_snocY {zs : List Int} {k : Nat} (hk : k < zs.length) : zs.take (k + 1) = zs.take k ++ [zs.getD k 0] := by
  rw [List.take_add_one, List.getD_eq_getElem?_getD]
  simp [hk]
theorem grow_oneY {B : Nat} {w wr w' : World} {u : Value} {n : Nat} {xs : List Value} {o : Obj} (bel : Below B w wr) (hB : B ≤ w.heap.size) (own : wr.ownsRow B 5 1 u n xs) (hg : (wr.alloc o).grownBy w' u.ownBlock) : Below B w w' :=
  (bel.alloc (Nat.le_trans hB bel.size) o).grown hg (Nat.le_trans hB (bel.alloc (Nat.le_trans hB bel.size) o).size) (fun b e => (World.ownsRow.lt own b e).1)
theorem y64_take {k : Nat} (hk : k < 64) : (List.range (k + 1)).map my1 = (List.range k).map my1 ++ [my1 k] := by
  rw [List.range_succ, List.map_append]; rfl
theorem Onb.below {B : Nat} {w w' : World} {v : Value} {Y : List Int} (h : Onb B w v Y) (hb : Below w.heap.size w w') : Onb B w' v Y := World.ownsRow.kept h (grown_below hb) (none_or _)
theorem Onb.obw {B : Nat} {w : World} {v : Value} {Y : List Int} (h : Onb B w v Y) : Oby B w v Y := Ory.of h (by decide)
theorem Onb.store {base : Nat} {w : World} {g cap n m : Nat} {Y : List Int} {z : Int} (h : Onb base w (.slice (some ⟨g, 0, none⟩) n cap) Y) (hl : Y.length = n) (hm : m < n) :
    Onb base (w.setCell ⟨g, m, none⟩ (.int .u8 z)) (.slice (some ⟨g, 0, none⟩) n cap) (Y.set m z) := by
  subst hl
  have h1 := World.ownsRow.stored h m (.int .u8 z)
  unfold Onb
  rw [List.length_set, List.map_set]
  exact h1.1

set_option maxRecDepth 100000 in
set_option maxHeartbeats 2000000 in
theorem lentY_any (v : Value) (zs : List Int) (w : World) (hr : RdI8 w v zs) :
    Calls Tryd.prog 18 #[v] w fun e w' => ∃ v', e = .returned v' ∧ Onb w.heap.size w' v' (zs ++ y64) ∧ Below w.heap.size w w' := by
  have hl := hr.len
  obtain ⟨i0, hi, hz0, hz1, hz2⟩ := info_parts infoYt
  have HR : Hid (∀ W, Below w.heap.size w W → RdI8 W v zs) := fun W h => hr.below h
  obtain ⟨_, av, cv, rfl, -⟩ := id hr
  clear hr
  go_enter Tryd.func18, Tryd.ntmps18
  go_wp2
  go_loopg [3, 4] zs.length (fun g o i wr => ∃ (k : Nat) (ao : Option Addr) (co : Nat), k + g = zs.length ∧ o = .slice ao k co ∧ i = .int .i64 k ∧ wr.ownsRow w.heap.size 5 1 (.slice ao k co) k ((zs.take k).map (Value.int .u8)) ∧ Below w.heap.size w wr)
  case atStart => exact ⟨0, none, 0, by omega, rfl, rfl, World.ownsRow_nil _ _ _ _, Below.refl _ _⟩
  case round =>
  obtain ⟨k, ao, co, hk, rfl, rfl, own, bel⟩ := hrel
  have HK : Hid (k + gk = zs.length) := hk
  by_cases hlt : k < zs.length
  · obtain ⟨_, _, _, e, h2⟩ := HR.out wr bel
    cases e
    obtain ⟨b, off, e, hb, hcell⟩ := h2 (by intro h; rw [h] at hlt; simp at hlt)
    have hck := hcell k hlt
    subst e
    have HT : Hid (zs.take (k + 1) = zs.take k ++ [zs.getD k 0]) := take_snocY hlt
    have HOW : Hid (wr.ownsRow w.heap.size 5 1 (.slice ao k co) k ((zs.take k).map (Value.int .u8))) := own
    clear hcell h2 hk own
    generalize zs.getD k 0 = z at *
    obtain ⟨tk, htk⟩ : ∃ tk, (zs.take k).map (Value.int .u8) = tk := ⟨_, rfl⟩
    have HTK : Hid ((zs.take k).map (Value.int .u8) = tk) := htk
    rw [htk] at HOW
    clear htk
    have sw : w.heap.size ≤ wr.heap.size := bel.size
    go_wp2_with (at_builtin; refine wpList_append_own _ rfl _ _ 44 rfl w.heap.size 5 i0 (.int .u8 0) 1 1 Tryd.underlying44 hi hz0 hz1 hz2 rfl (by decide) _ k tk rfl (World.ownsRow.alloc HOW.out _) ⟨wr.heap.size, 0, none⟩ 1 1 [.int .u8 z] rfl rfl (cell_one_new _ _ _) (by simp [Value.oneCell']) (by unfold maxLen; omega) (by omega) (by simp; omega) ?_; intro x' w' own' gr2 hn')
    obtain ⟨ao', co', e'⟩ := row_sliceY own'
    subst e'
    have b' := grow_oneY bel (Nat.le_refl _) HOW.out gr2
    go_roundg (gk - 1)
    case measure => have := HK.out; omega
    case rel => exact ⟨k + 1, ao', co', by have := HK.out; omega, rfl, by go_num, by rw [HT.out, List.map_append, HTK.out]; exact own', b'⟩
  have e : k = zs.length := by omega
  subst e
  clear hk hlt HK
  rw [List.take_length] at own
  have OWN : Hid (wr.ownsRow w.heap.size 5 1 (.slice ao zs.length co) zs.length (zs.map (Value.int .u8))) := own
  have BEL : Hid (Below w.heap.size w wr) := bel
  clear own bel
  generalize wr = w2 at *
  go_wp2
  go_loopg [3, 5] 64 (fun g o i wr => ∃ (k : Nat) (ao : Option Addr) (co : Nat), k + g = 64 ∧ o = .slice ao (zs.length + k) co ∧ i = .int .i64 k ∧ wr.ownsRow w.heap.size 5 1 (.slice ao (zs.length + k) co) (zs.length + k) (zs.map (Value.int .u8) ++ ((List.range k).map my1).map (Value.int .u8)) ∧ Below w.heap.size w wr)
  case atStart => exact ⟨0, ao, co, by omega, rfl, rfl, by simpa using OWN.out, BEL.out⟩
  case round =>
  clear OWN BEL
  obtain ⟨k, ao, co, hk, rfl, rfl, own, bel⟩ := hrel
  have HK : Hid (k + gk = 64) := hk
  by_cases hlt : k < 64
  · have hme : (200 + (k : Int)) % 256 = my1 k := rfl
    have HT : Hid ((List.range (k + 1)).map my1 = (List.range k).map my1 ++ [my1 k]) := y64_take hlt
    have HOW : Hid (wr.ownsRow w.heap.size 5 1 (.slice ao (zs.length + k) co) (zs.length + k) (zs.map (Value.int .u8) ++ ((List.range k).map my1).map (Value.int .u8))) := own
    clear hk own
    generalize my1 k = z at *
    obtain ⟨tk, htk⟩ : ∃ tk, zs.map (Value.int .u8) ++ ((List.range k).map my1).map (Value.int .u8) = tk := ⟨_, rfl⟩
    have HTK : Hid (zs.map (Value.int .u8) ++ ((List.range k).map my1).map (Value.int .u8) = tk) := htk
    rw [htk] at HOW
    clear htk
    have sw : w.heap.size ≤ wr.heap.size := bel.size
    go_wp2_with (at_builtin; refine wpList_append_own _ rfl _ _ 44 rfl w.heap.size 5 i0 (.int .u8 0) 1 1 Tryd.underlying44 hi hz0 hz1 hz2 rfl (by decide) _ (zs.length + k) tk rfl (World.ownsRow.alloc HOW.out _) ⟨wr.heap.size, 0, none⟩ 1 1 [.int .u8 z] rfl rfl (cell_one_new _ _ _) (by simp [Value.oneCell']) (by unfold maxLen; omega) (by omega) (by simp; omega) ?_; intro x' w' own' gr2 hn')
    obtain ⟨ao', co', e'⟩ := row_sliceY own'
    subst e'
    have b' := grow_oneY bel (Nat.le_refl _) HOW.out gr2
    go_roundg (gk - 1)
    case measure => have := HK.out; omega
    case rel => exact ⟨k + 1, ao', co', by have := HK.out; omega, rfl, by go_num, by rw [HT.out, List.map_append, ← List.append_assoc, HTK.out]; exact own', b'⟩
  have e : k = 64 := by omega
  subst e
  clear hk hlt HK
  have OWN : Hid (Onb w.heap.size wr (.slice ao (zs.length + 64) co) (zs ++ y64)) := by
    show Onb _ _ _ _
    unfold Onb
    rw [List.length_append, y64_len, List.map_append]
    exact own
  clear own
  go_wp2
  go_ret
  exact ⟨_, rfl, OWN.out, bel⟩

theorem own_atY {B : Nat} {w : World} {x : Value} {T : List Int} (h : Onb B w x T) {i : Nat} (hi : i < T.length) : ∃ g cap, x = .slice (some ⟨g, 0, none⟩) T.length cap ∧ T.length ≤ cap ∧ w.cell? ⟨g, i, none⟩ = some (.int .u8 (T.getD i 0)) := by
  obtain ⟨g, cap, e, h1, h2⟩ := Ory.form h.obw (by omega)
  subst e
  refine ⟨g, cap, rfl, h2, ?_⟩
  rw [(Ory.at h.obw hi).1]
  simp [List.getD_eq_getElem?_getD, hi]
theorem cell_app_leftY {B : Nat} {w : World} {x : Value} {zs ms : List Int} (h : Onb B w x (zs ++ ms)) {i : Nat} (hi : i < zs.length) : ∃ g cap, x = .slice (some ⟨g, 0, none⟩) (zs.length + ms.length) cap ∧ zs.length + ms.length ≤ cap ∧ w.cell? ⟨g, i, none⟩ = some (.int .u8 (zs.getD i 0)) := by
  have hl : i < (zs ++ ms).length := by rw [List.length_append]; omega
  have e2 : (zs ++ ms).getD i 0 = zs.getD i 0 := by rw [List.getD_eq_getElem?_getD, List.getD_eq_getElem?_getD, List.getElem?_append_left hi]
  have := own_atY h hl
  rwa [e2, List.length_append] at this
theorem cell_app_rightY {B : Nat} {w : World} {x : Value} {zs ms : List Int} (h : Onb B w x (zs ++ ms)) {i : Nat} (hi : i < ms.length) : ∃ g cap, x = .slice (some ⟨g, 0, none⟩) (zs.length + ms.length) cap ∧ zs.length + ms.length ≤ cap ∧ w.cell? ⟨g, zs.length + i, none⟩ = some (.int .u8 (ms.getD i 0)) := by
  have hl : zs.length + i < (zs ++ ms).length := by rw [List.length_append]; omega
  have e2 : (zs ++ ms).getD (zs.length + i) 0 = ms.getD i 0 := by rw [List.getD_eq_getElem?_getD, List.getD_eq_getElem?_getD, List.getElem?_append_right (by omega), Nat.add_sub_cancel_left]
  have := own_atY h hl
  rwa [e2, List.length_append] at this
theorem y64_at {i : Nat} (hi : i < 64) : y64.getD i 0 = my1 i := by
  unfold y64
  rw [List.getD_eq_getElem?_getD, List.getElem?_map, List.getElem?_range hi]
  rfl

set_option maxRecDepth 100000 in
set_option maxHeartbeats 2000000 in
theorem keptY_any (B : Nat) (x v : Value) (zs : List Int) (w : World) (ho : Onb B w x (zs ++ y64)) (hr : RdI8 w v zs) :
    Calls Tryd.prog 24 #[x, v] w fun e w' => e = .returned (.bool true) ∧ Below w.heap.size w w' := by
  have hl := hr.len
  have HR : Hid (∀ W, Below w.heap.size w W → RdI8 W v zs) := fun W h => hr.below h
  have HO : Hid (∀ W, Below w.heap.size w W → Onb B W x (zs ++ y64)) := fun W h => ho.below h
  obtain ⟨_, av, cv, rfl, -⟩ := id hr
  obtain ⟨ax, cx, e⟩ := row_sliceY ho
  rw [List.length_append, y64_len] at e
  subst e
  clear hr ho
  go_enter Tryd.func24, Tryd.ntmps24
  go_wp2
  go_loopg [5] zs.length (fun g i wr => ∃ k : Nat, k + g = zs.length ∧ i = .int .i64 k ∧ Below w.heap.size w wr)
  case atStart => exact ⟨0, by omega, rfl, Below.refl _ _⟩
  case round =>
  obtain ⟨k, hk, rfl, bel⟩ := hrel
  have HK : Hid (k + gk = zs.length) := hk
  by_cases hlt : k < zs.length
  · obtain ⟨_, _, _, e, h2⟩ := HR.out wr bel
    cases e
    obtain ⟨b, off, e, hb, hcell⟩ := h2 (by intro h; rw [h] at hlt; simp at hlt)
    have hck := hcell k hlt
    subst e
    obtain ⟨g, cap, e, hcap, hcg⟩ := cell_app_leftY (HO.out wr bel) hlt
    rw [y64_len] at e hcap
    cases e
    have BE : Hid (Below w.heap.size w wr) := bel
    clear hcell h2 hk bel
    generalize zs.getD k 0 = z at *
    go_wp2
    go_quiet (fail)
    go_wp2
    go_roundg (gk - 1)
    case measure => have := HK.out; omega
    case rel => exact ⟨k + 1, by have := HK.out; omega, by go_num, BE.out.trans ((below_drewN _ _).mono BE.out.size)⟩
  have e : k = zs.length := by omega
  subst e
  clear hk hlt HK
  have BEL : Hid (Below w.heap.size w wr) := bel
  clear bel
  generalize wr = w2 at *
  go_wp2
  go_loopg [6] 64 (fun g i wr => ∃ k : Nat, k + g = 64 ∧ i = .int .i64 k ∧ Below w.heap.size w wr)
  case atStart => exact ⟨0, by omega, rfl, BEL.out⟩
  case round =>
  obtain ⟨k, hk, rfl, bel⟩ := hrel
  have HK : Hid (k + gk = 64) := hk
  by_cases hlt : k < 64
  · obtain ⟨g, cap, e, hcap, hcg⟩ := cell_app_rightY (HO.out wr bel) (i := k) (by rw [y64_len]; exact hlt)
    rw [y64_len] at e hcap
    cases e
    rw [y64_at hlt] at hcg
    have hme : (200 + (k : Int)) % 256 = my1 k := rfl
    have BE : Hid (Below w.heap.size w wr) := bel
    clear hk bel
    generalize my1 k = z at *
    go_wp2
    go_roundg (gk - 1)
    case measure => have := HK.out; omega
    case rel => exact ⟨k + 1, by have := HK.out; omega, by go_num, BE.out⟩
  have e : k = 64 := by omega
  subst e
  clear hk hlt HK
  go_wp2
  go_ret
  exact ⟨rfl, bel⟩

/-- the bytes that are written -/
def oy8 (k : Nat) : UInt8 := UInt8.ofNat (7 * k)
theorem oy8_nat (k : Nat) : (((oy8 k).toNat : Nat) : Int) = (7 * (k : Int)) % 256 := by
  unfold oy8
  rw [UInt8.toNat_ofNat']
  omega
def ovY (n : Nat) : List UInt8 := (List.range n).map oy8
theorem ovY_len (n : Nat) : (ovY n).length = n := by simp [ovY]
theorem ovY_at {n k : Nat} (h : k < n) : (ovY n).getD k 0 = oy8 k := by
  unfold ovY
  rw [List.getD_eq_getElem?_getD, List.getElem?_map, List.getElem?_range h]; rfl
/-- what was written over reads so -/
theorem ov_rdy {B : Nat} {w : World} {g n N c : Nat} {Y : List Int} (h : Onb B w (.slice (some ⟨g, 0, none⟩) N c) Y) (hN : Y.length = N) (hy : ∀ t, t < N → Y.getD t 0 = (7 * (t : Int)) % 256) (hn : n ≤ N) (hb : N ≤ 1099511627776) : RdY w (.slice (some ⟨g, 0, none⟩) n c) (ovY n) := by
  have h' := h
  unfold Onb at h'
  rw [hN] at h'
  obtain ⟨h1, h2⟩ : N ≤ c ∧ c ≤ maxLen := by
    rcases h'.2 with ⟨e1, _⟩ | ⟨g', cap', cur, hv, hb', hg', r1, r2, r3, r4⟩
    · simp at e1
    · injection hv with _ _ e3; subst e3; exact ⟨r1, r2⟩
  refine ⟨by rw [ovY_len]; omega, _, c, by rw [ovY_len], by rw [ovY_len]; omega, h2, fun e => (by cases e), fun _ => ⟨g, 0, rfl, (h'.lt g rfl).2, fun j hj => ?_⟩⟩
  rw [ovY_len] at hj
  rw [ovY_at hj, Nat.zero_add, oy8_nat, ← hy j (by omega)]
  rw [(Ory.at (show Ory w B (.slice (some ⟨g, 0, none⟩) N c) N (Y.map (Value.int .u8)) from by have h7 := h.obw; unfold Oby at h7; rw [hN] at h7; exact h7) (show j < N by omega)).1]
  rw [List.getElem?_map, List.getD_eq_getElem?_getD, List.getElem?_eq_getElem (by omega)]; rfl
set_option maxRecDepth 100000 in
set_option maxHeartbeats 2000000 in
theorem overY_any (B : Nat) (x : Value) (X : List Int) (w : World) (ho : Onb B w x X) (hl : X.length ≤ 1099511627776) :
    Calls Tryd.prog 25 #[x] w fun e w' => e = .returned (.tuple #[]) ∧ (∃ Z, Z.length = X.length ∧ Onb B w' x Z ∧ ∀ t, t < X.length → Z.getD t 0 = (7 * (t : Int)) % 256) ∧ w.grownBy w' x.ownBlock := by
  obtain ⟨ax, cx, e⟩ := row_sliceY ho
  subst e
  have HO : Hid (Onb B w (.slice ax X.length cx) X) := ho
  clear ho
  go_enter Tryd.func25, Tryd.ntmps25
  go_wp2
  go_loopg [2] X.length (fun g i wr => ∃ (k : Nat) (Y : List Int), k + g = X.length ∧ i = .int .i64 k ∧ Y.length = X.length ∧ Onb B wr (.slice ax X.length cx) Y ∧ w.grownBy wr (Value.slice ax X.length cx).ownBlock ∧ ∀ t, t < k → Y.getD t 0 = (7 * (t : Int)) % 256)
  case atStart => exact ⟨0, X, by omega, rfl, rfl, HO.out, ⟨rfl, rfl, rfl, Nat.le_refl _, fun _ _ _ => rfl⟩, fun t ht => by omega⟩
  case round =>
  obtain ⟨k, Y, hk, rfl, hY, ho, hg, hm⟩ := hrel
  have HK : Hid (k + gk = X.length) := hk
  by_cases hlt : k < X.length
  · obtain ⟨g, cap, y, e, hbg, hcap, hc1, hc2⟩ := Pby.place (k := 0) (c := 0) ⟨Y, ho.obw, hY, fun t ht => by omega⟩ hlt
    simp only [Value.slice.injEq, true_and] at e
    obtain ⟨rfl, rfl⟩ := e
    have SX : Hid (Onb B (wr.setCell ⟨g, k, none⟩ (.int .u8 ((7 * (k : Int)) % 256))) (.slice (some ⟨g, 0, none⟩) X.length cx) (Y.set k ((7 * (k : Int)) % 256))) := Onb.store ho hY hlt
    have SG : Hid (∀ z, w.grownBy (wr.setCell ⟨g, k, none⟩ z) (some g)) := fun z => hg.trans (grown_set wr ⟨g, k, none⟩ z)
    have SM : Hid (∀ t, t < k + 1 → (Y.set k ((7 * (k : Int)) % 256)).getD t 0 = (7 * (t : Int)) % 256) := fun t ht => by
      by_cases e : t = k
      · subst e
        rw [List.getD_eq_getElem?_getD, List.getElem?_set_self (by omega)]; rfl
      · rw [List.getD_eq_getElem?_getD, List.getElem?_set_ne (fun h => e h.symm), ← List.getD_eq_getElem?_getD]
        exact hm t (by omega)
    clear hk ho hg hm
    go_wp2
    go_roundg (gk - 1)
    case measure => have := HK.out; omega
    case rel => exact ⟨k + 1, _, by have := HK.out; omega, by go_num, by rw [List.length_set]; exact hY, SX.out, SG.out _, SM.out⟩
  have e : k = X.length := by omega
  subst e
  clear hk hlt HK
  go_wp2
  go_end0
  exact ⟨rfl, ⟨Y, hY, ho, hm⟩, hg⟩

end Go.Proofs.YtilcokpaeapmeaaDoor
