/-
  trail, the statements' helpers: begun, sayings.
  KEEP: set on app at below new trans refl start ap kept rd rds mono
-/
import Derived.Test.YtjcgfigbbbefcaaTrL
import Derived.Test.YtjcgfigbbbefcaaSames
set_option linter.unusedSimpArgs false
set_option linter.unusedVariables false
namespace Go.Proofs.Ytjcgfigbbbefcaa
open Go Go.RowKit

def nOf (vars : Int) : Nat := (pkZ vars 41).toNat
theorem nOf_le (vars : Int) : nOf vars ≤ 40 := by have := pkZ_range vars (show (0 : Int) < 41 by decide); unfold nOf; omega
theorem begun_any (vars : Int) (v : Value) (ops : List TOp) (w : World) (hr : RdT w v ops) :
    Calls Try.prog 21 #[.int .i64 vars, v] w fun e w' => ∃ b s, e = .returned (.pointer (some ⟨b, 0, none⟩)) ∧ Ls w w' b s (nOf vars) (actF (nOf vars) 0 [] ops) := by
  have HR : Hid (RdT w v ops) := hr
  have hp := pkZ_range vars (show (0 : Int) < 41 by decide)
  have HN : Hid ((pkZ vars 41).toNat = nOf vars) := rfl
  obtain ⟨a, c, rfl, _⟩ := hr
  go_enter Try.func21, Try.ntmps21
  go_wp2_with fail
  refine (pick_any _ 41 w (by decide) (by decide)).mono ?_
  rintro e w1 ⟨rfl, rfl⟩
  go_wp2_with fail
  refine (trNew_any _ w1 (by omega)).mono ?_
  rw [HN.out]
  rintro e w2 ⟨b, s, rfl, ht, bel2, hnw⟩
  have L2 : Hid (Ls w1 w2 b s (nOf vars) []) := ⟨bel2, ht, hnw⟩
  clear ht bel2 hnw
  go_wp2_with fail
  refine (act_any b s _ [] _ ops 0 w1 w2 L2.out HR.out).mono ?_
  rintro e w3 ⟨rfl, s3, hl3, hm3⟩
  have L3 : Hid (Ls w1 w3 b s3 (nOf vars) (actF (nOf vars) 0 [] ops)) := hl3
  clear hl3 hm3 L2
  go_wp2
  go_ret
  exact ⟨b, s3, rfl, L3.out⟩

theorem rd_new (w : World) (c : Array Value) (zs : List Int) (hc : c.toList = zs.map (Value.int .i64)) (hz : zs.length ≤ 1000) : Rd (w.alloc (.cells c 3)) (.slice (some ⟨w.heap.size, 0, none⟩) zs.length zs.length) zs := by
  have hh := World.alloc_heap_new w (.cells c 3)
  refine ⟨by omega, some ⟨w.heap.size, 0, none⟩, zs.length, rfl, Nat.le_refl _, by unfold maxLen; omega, by simp, fun _ => ⟨w.heap.size, 0, rfl, by rw [World.size_alloc]; omega, fun j hj => ?_⟩⟩
  show (match (w.alloc (.cells c 3)).heap[w.heap.size]? with | some (Obj.cells c elem frozen) => c[0 + j]? | x => none) = _
  rw [hh]
  show c[0 + j]? = _
  rw [Nat.zero_add, ← Array.getElem?_toList, hc, List.getElem?_map, List.getElem?_eq_getElem hj]
  simp [List.getD_eq_getElem?_getD, hj]
def tri (n : Nat) (R : List Pl) (i : Nat) : List Int := [valL n R ((i : Int) - 43), levL n R ((i : Int) - 43), reaL n R ((i : Int) - 43)]
def tris (n : Nat) (R : List Pl) (k : Nat) : List Int := (List.range k).flatMap (tri n R)
theorem tris_succ (n : Nat) (R : List Pl) (k : Nat) : tris n R (k + 1) = tris n R k ++ tri n R k := by
  unfold tris; rw [List.range_succ, List.flatMap_append]; simp
theorem tris_len (n : Nat) (R : List Pl) (k : Nat) : (tris n R k).length = 3 * k := by
  induction k with
  | zero => rfl
  | succ k ih => rw [tris_succ, List.length_append, ih]; show _ + 3 = _; omega
def sayF (n : Nat) (R : List Pl) : List Int := [(now R : Int), (R.length : Int), (now R : Int)] ++ R.map Pl.lit ++ mks R ++ tris n R 87
theorem valL_cases (n : Nat) (R : List Pl) (l : Int) : -1 ≤ valL n R l ∧ valL n R l ≤ 1 := by
  unfold valL
  have := valV_cases R l.natAbs
  split
  · split <;> omega
  · omega
theorem take_more (M : List Int) (k : Nat) (h : k < M.length) : M.take (k + 1) = M.take k ++ [M.getD k 0] := by
  rw [List.take_succ_eq_append_getElem h]
  simp [List.getD_eq_getElem?_getD, h]
theorem rd_cell {w : World} {B : Nat} {a : Option Addr} {c : Nat} {zs : List Int} (h : Own B w (.slice a zs.length c) zs) {j : Nat} (hj : j < zs.length) : ∃ g, a = some ⟨g, 0, none⟩ ∧ w.cell? ⟨g, j, none⟩ = some (.int .i64 (zs.getD j 0)) := by
  obtain ⟨g, c', e, _⟩ := row_some h (by omega)
  injection e with e1 _ _
  subst e1
  refine ⟨g, rfl, row_cell h ?_⟩
  rw [List.getElem?_map, List.getElem?_eq_getElem hj]
  simp [List.getD_eq_getElem?_getD, hj]

set_option maxHeartbeats 3200000 in
theorem sayings_any (b : Nat) (s : Sl) (n : Nat) (R : List Pl) (w : World) (h : Tr w b s n R) :
    Calls Try.prog 24 #[.pointer (some ⟨b, 0, none⟩)] w fun e w' => ∃ u, e = .returned u ∧ Own w.heap.size w' u (sayF n R) ∧ Below w.heap.size w w' := by
  have HT : Hid (Tr w b s n R) := h
  have hlen := h.ok.len
  have hN := h.n
  have hnow := now_le R
  clear h
  go_enter Try.func24, Try.ntmps24
  go_wp2_with fail
  refine (trLits_any b s n R w HT.out).mono ?_
  rintro e w1 ⟨u1, rfl, own1, bel1⟩
  have HT1 : Hid (Tr w1 b s n R) := HT.out.below bel1
  have HO1 : Hid (Own w.heap.size w1 u1 (R.map Pl.lit)) := own1
  have HB1 : Hid (Below w.heap.size w w1) := bel1
  obtain ⟨a1, c1, rfl⟩ := own_form own1
  clear own1 bel1
  go_wp2_with fail
  refine (trMarks_any b s n R w1 HT1.out).mono ?_
  rintro e w2 ⟨u2, rfl, own2, bel2⟩
  have HT2 : Hid (Tr w2 b s n R) := HT1.out.below bel2
  have HO12 : Hid (Own w.heap.size w2 (.slice a1 (R.map Pl.lit).length c1) (R.map Pl.lit)) := HO1.out.below bel2
  have HO2 : Hid (Own w.heap.size w2 u2 (mks R)) := own2.mono HB1.out.size
  have HB2 : Hid (Below w.heap.size w w2) := Below.step HB1.out bel2
  obtain ⟨a2, c2, rfl⟩ := own_form own2
  clear own2 bel2 HT1 HO1 HB1
  simp only [List.length_map, mks_len]
  simp only [List.length_map] at HO12
  rw [mks_len] at HO2
  go_wp2_with fail
  refine (trLevel_tr b s n R w2 HT2.out).mono ?_
  rintro e w3 ⟨rfl, rfl⟩
  have HR3 : Hid (Rd (w3.alloc (.cells #[.int .i64 (now R : Int), .int .i64 (R.length : Int), .int .i64 (now R : Int)] 3)) (.slice (some ⟨w3.heap.size, 0, none⟩) 3 3) [(now R : Int), (R.length : Int), (now R : Int)]) := rd_new w3 _ _ rfl (by simp)
  have HB3 : Hid (Below w3.heap.size w3 (w3.alloc (.cells #[.int .i64 (now R : Int), .int .i64 (R.length : Int), .int .i64 (now R : Int)] 3))) := below_box _ _
  generalize hNR : now R = N at *
  generalize hML : R.length = M at *
  have HNR : Hid (now R = N ∧ R.length = M) := ⟨hNR, hML⟩
  clear hNR hML
  go_wp2_with (at_builtin; refine wpList_app_rd rfl _ _ rfl w3.heap.size (.slice none 0 0) _ [] [(N : Int), (M : Int), (N : Int)] rfl rfl (World.ownsRow_nil _ _ _ _) HR3.out (by simp) (by have := HB3.out.size; omega) ?_; intro v4 w4 own4 ap4; have F4 : Hid (Own w3.heap.size w4 v4 [(N : Int), (M : Int), (N : Int)] ∧ Below w3.heap.size w3 w4) := ⟨own4, HB3.out.grown ap4.grown HB3.out.size (fun j hj => by cases hj)⟩; clear own4 ap4)
  have HLR : Hid ((R.map Pl.lit).length = M ∧ (mks R).length = N) := ⟨by rw [List.length_map]; exact HNR.out.2, by rw [mks_len]; exact HNR.out.1⟩
  have HSay : Hid (sayF n R = [(N : Int), (M : Int), (N : Int)] ++ R.map Pl.lit ++ mks R ++ tris n R 87) := by show _ = _; unfold sayF; rw [HNR.out.1, HNR.out.2]
  clear HR3 HB3 HT
  go_wp2
  go_loopg [5, 6] M (fun g v i' wr => ∃ k : Nat, k + g = M ∧ i' = .int .i64 k ∧ Own w3.heap.size wr v ([(N : Int), (M : Int), (N : Int)] ++ (R.map Pl.lit).take k) ∧ Below w3.heap.size w3 wr)
  case atStart => exact ⟨0, by omega, rfl, by rw [List.take_zero, List.append_nil]; exact F4.out.1, F4.out.2⟩
  case round =>
    obtain ⟨k, hk, rfl, own, bel⟩ := hrel
    have HK : Hid (k + gk = M) := hk
    by_cases hlt : k < M
    · have hla := (HO12.out.below bel)
      obtain ⟨g1, rfl, d0⟩ := rd_cell (zs := R.map Pl.lit) (by rw [HLR.out.1]; exact hla) (j := k) (by rw [HLR.out.1]; exact hlt)
      clear hk hla
      have HZ : Hid ([(N : Int), (M : Int), (N : Int)] ++ (R.map Pl.lit).take (k + 1) = [(N : Int), (M : Int), (N : Int)] ++ (R.map Pl.lit).take k ++ [(R.map Pl.lit).getD k 0]) := by
        show _ = _
        rw [take_more _ k (by rw [HLR.out.1]; exact hlt)]
        simp only [List.append_assoc]
      have HR9 : Hid (Rd (wr.alloc (.cells #[.int .i64 ((R.map Pl.lit).getD k 0)] 3)) (.slice (some ⟨wr.heap.size, 0, none⟩) 1 1) [(R.map Pl.lit).getD k 0]) := rd_one' wr _
      have HB9 : Hid (Below wr.heap.size wr (wr.alloc (.cells #[.int .i64 ((R.map Pl.lit).getD k 0)] 3))) := below_box _ _
      generalize (R.map Pl.lit).getD k 0 = z at *
      go_wp2_with (at_builtin; refine wpList_app_rd rfl _ _ rfl w3.heap.size _ _ ([(N : Int), (M : Int), (N : Int)] ++ (R.map Pl.lit).take k) [z] rfl rfl (own.below HB9.out) HR9.out (by simp only [List.length_append, List.length_cons, List.length_nil, List.length_take, HLR.out.1, HLR.out.2, tris_len]; omega) (by have := bel.size; have := HB9.out.size; omega) ?_; intro v8 w8 own8 ap8; have F8 : Hid (Own w3.heap.size w8 v8 ([(N : Int), (M : Int), (N : Int)] ++ (R.map Pl.lit).take (k + 1)) ∧ Below w3.heap.size w3 w8) := ⟨by rw [HZ.out]; exact own8, (bel.trans (HB9.out.mono bel.size)).grown ap8.grown (by have := bel.size; have := HB9.out.size; omega) (fun j hj => (own.lt j hj).1)⟩; clear own8 ap8)
      go_roundg (gk - 1)
      case measure => have := HK.out; omega
      case rel => exact ⟨k + 1, by have := HK.out; omega, by go_num, F8.out.1, F8.out.2⟩
    · obtain rfl : M = k := by omega
      rw [List.take_of_length_le (by rw [HLR.out.1]; exact Nat.le_refl _)] at own
      clear hk HK
      go_wp2
      go_loopg [5, 7] N (fun g v i' wr => ∃ k : Nat, k + g = N ∧ i' = .int .i64 k ∧ Own w3.heap.size wr v ([(N : Int), (M : Int), (N : Int)] ++ R.map Pl.lit ++ (mks R).take k) ∧ Below w3.heap.size w3 wr)
      case atStart => exact ⟨0, by omega, rfl, by rw [List.take_zero, List.append_nil]; exact own, bel⟩
      case round =>
        obtain ⟨k, hk, rfl, own, bel⟩ := hrel
        have HK : Hid (k + gk = N) := hk
        by_cases hlt : k < N
        · have hla := (HO2.out.below bel)
          obtain ⟨g1, rfl, d0⟩ := rd_cell (zs := mks R) (by rw [HLR.out.2]; exact hla) (j := k) (by rw [HLR.out.2]; exact hlt)
          clear hk hla
          have HZ : Hid ([(N : Int), (M : Int), (N : Int)] ++ R.map Pl.lit ++ (mks R).take (k + 1) = [(N : Int), (M : Int), (N : Int)] ++ R.map Pl.lit ++ (mks R).take k ++ [(mks R).getD k 0]) := by
            show _ = _
            rw [take_more _ k (by rw [HLR.out.2]; exact hlt)]
            simp only [List.append_assoc]
          have HR9 : Hid (Rd (wr.alloc (.cells #[.int .i64 ((mks R).getD k 0)] 3)) (.slice (some ⟨wr.heap.size, 0, none⟩) 1 1) [(mks R).getD k 0]) := rd_one' wr _
          have HB9 : Hid (Below wr.heap.size wr (wr.alloc (.cells #[.int .i64 ((mks R).getD k 0)] 3))) := below_box _ _
          generalize (mks R).getD k 0 = z at *
          go_wp2_with (at_builtin; refine wpList_app_rd rfl _ _ rfl w3.heap.size _ _ ([(N : Int), (M : Int), (N : Int)] ++ R.map Pl.lit ++ (mks R).take k) [z] rfl rfl (own.below HB9.out) HR9.out (by simp only [List.length_append, List.length_cons, List.length_nil, List.length_take, HLR.out.1, HLR.out.2, tris_len]; omega) (by have := bel.size; have := HB9.out.size; omega) ?_; intro v8 w8 own8 ap8; have F8 : Hid (Own w3.heap.size w8 v8 ([(N : Int), (M : Int), (N : Int)] ++ R.map Pl.lit ++ (mks R).take (k + 1)) ∧ Below w3.heap.size w3 w8) := ⟨by rw [HZ.out]; exact own8, (bel.trans (HB9.out.mono bel.size)).grown ap8.grown (by have := bel.size; have := HB9.out.size; omega) (fun j hj => (own.lt j hj).1)⟩; clear own8 ap8)
          go_roundg (gk - 1)
          case measure => have := HK.out; omega
          case rel => exact ⟨k + 1, by have := HK.out; omega, by go_num, F8.out.1, F8.out.2⟩
        · obtain rfl : N = k := by omega
          rw [List.take_of_length_le (by rw [HLR.out.2]; exact Nat.le_refl _)] at own
          clear hk HK
          go_wp2
          go_loopg [5, 8] 87 (fun g v i' wr => ∃ k : Nat, k + g = 87 ∧ i' = .int .i64 ((k : Int) - 43) ∧ Own w3.heap.size wr v ([(N : Int), (M : Int), (N : Int)] ++ R.map Pl.lit ++ mks R ++ tris n R k) ∧ Below w3.heap.size w3 wr)
          case atStart => exact ⟨0, by omega, rfl, by rw [show tris n R 0 = [] from rfl, List.append_nil]; exact own, bel⟩
          case round =>
            clear own bel
            obtain ⟨k, hk, rfl, own, bel⟩ := hrel
            have HK : Hid (k + gk = 87) := hk
            have HTr : Hid (Tr wr b s n R) := HT2.out.below bel
            by_cases hlt : k < 87
            · clear hk
              have HZ : Hid ([(N : Int), (M : Int), (N : Int)] ++ R.map Pl.lit ++ mks R ++ tris n R (k + 1) = [(N : Int), (M : Int), (N : Int)] ++ R.map Pl.lit ++ mks R ++ tris n R k ++ [valL n R ((k : Int) - 43), levL n R ((k : Int) - 43), reaL n R ((k : Int) - 43)]) := by
                show _ = _
                rw [tris_succ]
                simp only [List.append_assoc]; rfl
              have HNx : Hid ((k : Int) - 43 + 1 = ((k + 1 : Nat) : Int) - 43) := by show _ = _; omega
              have hvl := valL_cases n R ((k : Int) - 43)
              have hl1 : -43 ≤ (k : Int) - 43 := by omega
              have hl2 : (k : Int) - 43 ≤ 43 := by omega
              generalize (k : Int) - 43 = l at *
              go_wp2_with fail
              refine (trValue_any b s n R l wr HTr.out).mono ?_
              rintro e w5 ⟨rfl, rfl⟩
              go_wp2_with fail
              refine (trLevelOf_any b s n R l w5 HTr.out).mono ?_
              rintro e w6 ⟨rfl, rfl⟩
              go_wp2_with fail
              refine (trReason_any b s n R l w6 HTr.out).mono ?_
              rintro e w7 ⟨rfl, bel7⟩
              have HR9 : Hid (Rd (w7.alloc (.cells #[.int .i64 (valL n R l), .int .i64 (levL n R l), .int .i64 (reaL n R l)] 3)) (.slice (some ⟨w7.heap.size, 0, none⟩) 3 3) [valL n R l, levL n R l, reaL n R l]) := rd_new w7 _ _ rfl (by simp)
              have HB9 : Hid (Below w6.heap.size w6 (w7.alloc (.cells #[.int .i64 (valL n R l), .int .i64 (levL n R l), .int .i64 (reaL n R l)] 3))) := Below.step bel7 (below_box _ _)
              clear bel7
              generalize valL n R l = y1 at *
              generalize levL n R l = y2 at *
              generalize reaL n R l = y3 at *
              go_wp2_with (at_builtin; refine wpList_app_rd rfl _ _ rfl w3.heap.size _ _ ([(N : Int), (M : Int), (N : Int)] ++ R.map Pl.lit ++ mks R ++ tris n R k) [y1, y2, y3] rfl rfl (own.below HB9.out) HR9.out (by simp only [List.length_append, List.length_cons, List.length_nil, List.length_take, HLR.out.1, HLR.out.2, tris_len]; omega) (by have := bel.size; have := HB9.out.size; omega) ?_; intro v8 w8 own8 ap8; have F8 : Hid (Own w3.heap.size w8 v8 ([(N : Int), (M : Int), (N : Int)] ++ R.map Pl.lit ++ mks R ++ tris n R (k + 1)) ∧ Below w3.heap.size w3 w8) := ⟨by rw [HZ.out]; exact own8, (bel.trans (HB9.out.mono bel.size)).grown ap8.grown (by have := bel.size; have := HB9.out.size; omega) (fun j hj => (own.lt j hj).1)⟩; clear own8 ap8)
              go_roundg (gk - 1)
              case measure => have := HK.out; omega
              case rel => exact ⟨k + 1, by have := HK.out; omega, by rw [← HNx.out], F8.out.1, F8.out.2⟩
            · obtain rfl : k = 87 := by omega
              rw [← HSay.out] at own
              clear hk HK
              go_wp2
              go_ret
              exact ⟨_, rfl, own.mono HB2.out.size, Below.step HB2.out bel⟩
end Go.Proofs.Ytjcgfigbbbefcaa
