/-
  lits.Join: the places of both lists' literals, gathered, sorted, made one of each, and turned back.
-/
import Derived.Test.YtfklgfdkpmfdnaaDoorLists
import Derived.Sort.OwnSortedInts
import Derived.Lib.RowBridge
import Derived.WalkSpells
import Derived.Deep.LoopGhost
set_option linter.unusedSimpArgs false
set_option linter.unusedVariables false
namespace Go.Proofs.YtfklgfdkpmfdnaaDoor
open Go.RowKit Go.Sort

/-- what is asked of slices.Sort -/
def SortSaid : Prop := ∀ (blk off cap : Nat) (zs : List Int) (w : World), Holds (Value.int .i64) w blk off zs.toArray → blk < w.heap.size → zs.length < 4611686018427387904 →
    Calls Tryd.prog 55 #[.slice (some ⟨blk, off, none⟩) zs.length cap] w fun e w' =>
      e = .returned (.tuple #[]) ∧ ∃ n os, w' = grow (putRow (Value.int .i64) (Sort.ahead w n) blk off (zs.mergeSort fun x y => decide (x ≤ y)).toArray) os
/-- what is asked of slices.Compact -/
def CompactSaid : Prop := ∀ (blk off cap : Nat) (zs : List Int) (w : World), Holds (Value.int .i64) w blk off zs.toArray → zs.length ≤ 9223372036854775807 → zs.length ≤ cap →
    Calls Tryd.prog 56 #[.slice (some ⟨blk, off, none⟩) zs.length cap] w fun e w' => e = .returned (.slice (some ⟨blk, off, none⟩) (Lib.compact zs).length cap) ∧ ∃ q, w' = putRow (Value.int .i64) (Sort.ahead w q) blk off (Lib.compact zs ++ List.replicate (zs.length - (Lib.compact zs).length) 0).toArray

/-- what is gathered behind k of z, p gathered before -/
def gath (p z : List Int) (k : Nat) : List Int := idxs (p ++ z.take k)
theorem gath_zero (p z : List Int) : gath p z 0 = idxs p := by simp [gath]
theorem gath_end (p z : List Int) : gath p z z.length = idxs (p ++ z) := by simp [gath]
theorem gath_len (p z : List Int) (k : Nat) (h : k ≤ z.length) : (gath p z k).length ≤ p.length + k := by
  have := idxs_len (p ++ z.take k)
  simp only [List.length_append, List.length_take] at this
  unfold gath; omega
theorem gath_no {p z : List Int} {k : Nat} (h : k < z.length) (hf : fmd (z.getD k 0) = false) : gath p z (k + 1) = gath p z k := by
  unfold gath; rw [idxs_append, idxs_append, idxs_snoc z k h, hf]; simp
theorem gath_yes {p z : List Int} {k : Nat} (h : k < z.length) (hf : fmd (z.getD k 0) = true) : gath p z (k + 1) = gath p z k ++ [idx (z.getD k 0)] := by
  unfold gath; rw [idxs_append, idxs_append, idxs_snoc z k h, hf]; simp
/-- what is gathered behind k of the two lists -/
def gat (a b : List Int) : Nat → List Int
  | 0 => []
  | 1 => idxs a
  | _ => idxs (a ++ b)

theorem own_snoc {base g cap : Nat} {w : World} {ys : List Int} {x : Int} {n : Nat} (h : w.ownsRow base 3 1 (.slice (some ⟨g, 0, none⟩) (ys.length + 1) cap) (ys.length + 1) (ys.map (Value.int .i64) ++ [.int .i64 x])) :
    Own base w (.slice (some ⟨g, 0, none⟩) (ys ++ [x]).length cap) (ys ++ [x]) := by
  simpa [Own] using h

theorem take_compacted (cur : Array Value) (cs : List Int) (m : Nat) (h : cs.length + m ≤ cur.size) : (putCells (Value.int .i64) 0 (cs ++ List.replicate m 0).toArray cur).toList.take cs.length = cs.map (Value.int .i64) := by
  have h1 := take_putCellsI cur (cs ++ List.replicate m 0) (by simpa using h)
  have h2 : ((putCells (Value.int .i64) 0 (cs ++ List.replicate m 0).toArray cur).toList.take (cs ++ List.replicate m 0).length).take cs.length = ((cs ++ List.replicate m 0).map (Value.int .i64)).take cs.length := by rw [h1]
  rw [List.take_take, Nat.min_eq_left (by simp), ← List.map_take, List.take_left] at h2
  exact h2
/-- behind Compact the same row owns what is left -/
theorem own_compacted {w : World} {base g cap q : Nat} {ts : List Int} (h : w.ownsRow base 3 1 (.slice (some ⟨g, 0, none⟩) ts.length cap) ts.length (ts.map (Value.int .i64))) :
    Own base (putRow (Value.int .i64) (Sort.ahead w q) g 0 (Lib.compact ts ++ List.replicate (ts.length - (Lib.compact ts).length) 0).toArray) (.slice (some ⟨g, 0, none⟩) (Lib.compact ts).length cap) (Lib.compact ts) ∧
      w.grownBy (putRow (Value.int .i64) (Sort.ahead w q) g 0 (Lib.compact ts ++ List.replicate (ts.length - (Lib.compact ts).length) 0).toArray) (some g) := by
  have hcl := Lib.compact_length_le ts
  have hgr := grownBy_sortedI (w := w) (g := g) (n := q) (os := #[]) (Lib.compact ts ++ List.replicate (ts.length - (Lib.compact ts).length) 0).toArray
  rw [grow_empty] at hgr
  refine ⟨?_, hgr⟩
  rcases h.2 with ⟨h', _⟩ | ⟨g', cap', cur, h', hb, hg, hnc, hcm, hcs, htake⟩
  · simp at h'
  · simp only [Value.slice.injEq, Option.some.injEq, Addr.mk.injEq, and_true, true_and] at h'
    obtain ⟨rfl, rfl⟩ := h'
    have hh := heap_sortedI (n := q) (os := #[]) (Lib.compact ts ++ List.replicate (ts.length - (Lib.compact ts).length) 0).toArray hg
    rw [grow_empty] at hh
    refine ⟨by simp, .inr ⟨g, cap, _, rfl, hb, hh, by omega, hcm, by simp [putCells, hcs], ?_⟩⟩
    rw [Nat.mul_one]
    exact take_compacted cur _ _ (by omega)

/-- the first k turned back -/
def part (cs : List Int) (k : Nat) : List Int := (cs.take k).map litAt ++ cs.drop k
theorem part_zero (cs : List Int) : part cs 0 = cs := by simp [part]
theorem part_end (cs : List Int) : part cs cs.length = cs.map litAt := by simp [part]
theorem part_get (cs : List Int) (k : Nat) (h : k < cs.length) : (part cs k)[k]? = some (cs.getD k 0) := by
  unfold part
  rw [List.getElem?_append_right (by simp; omega)]
  simp [List.getD_eq_getElem?_getD, List.getElem?_eq_getElem h, Nat.min_eq_left (Nat.le_of_lt h)]
theorem part_set (cs : List Int) (k : Nat) (h : k < cs.length) : (part cs k).set k (litAt (cs.getD k 0)) = part cs (k + 1) := by
  unfold part
  have hk : (List.map litAt (List.take k cs)).length = k := by simp; omega
  rw [List.set_append_right _ _ (by omega), List.take_succ_eq_append_getElem h, List.drop_eq_getElem_cons h, hk, Nat.sub_self, List.set_cons_zero, List.map_append, List.append_assoc]
  congr 1
  simp only [List.map_cons, List.map_nil, List.singleton_append, List.getD_eq_getElem?_getD, List.getElem?_eq_getElem h, Option.getD_some]

set_option maxHeartbeats 1600000 in
set_option maxRecDepth 100000 in
theorem join_any (hS : SortSaid) (hC : CompactSaid) (va vb : Value) (a b : List Int) (w : World) (ha : Rd w va a) (hb : Rd w vb b) :
    Calls Tryd.prog 51 #[va, vb] w fun e w' => ∃ v', e = .returned v' ∧ Own w.heap.size w' v' (tid (a ++ b)) ∧ Below w.heap.size w w' := by
  obtain ⟨hla, aa, ca, rfl, hca, hma, hna, h2a⟩ := ha
  obtain ⟨hlb, ab, cb, rfl, hcb, hmb, hnb, h2b⟩ := hb
  obtain ⟨i0, hi, hz0, hz1, hz2⟩ := info_parts Tryd.info3
  have ix0 : ∀ w, (Instr.index 83 (.agg #[.slice aa a.length ca, .slice ab b.length cb]) (.int .i64 0)).run Tryd.prog w = .ok (.slice aa a.length ca) w := fun _ => by kernel_rfl
  have ix1 : ∀ w, (Instr.index 83 (.agg #[.slice aa a.length ca, .slice ab b.length cb]) (.int .i64 1)).run Tryd.prog w = .ok (.slice ab b.length cb) w := fun _ => by kernel_rfl
  go_enter Tryd.func51, Tryd.ntmps51
  go_wp2_with (refine wpList_make_own _ rfl _ _ 31 rfl w.heap.size 3 i0 (.int .i64 0) 1 Tryd.underlying31 hi hz0 hz1 .i64 .i64 _ (a.length + b.length) rfl rfl (by omega) (by rw [hz2]; omega) (by unfold maxLen; omega) (Nat.le_refl _) ?_; intro w1 hown1 hgrow1)
  have hb1 : Below w.heap.size w w1 := (Below.refl _ _).grown hgrow1 (Nat.le_refl _) (fun j hj => by cases hj)
  have H2a : Hid (a ≠ [] → ∃ b off, aa = some ⟨b, off, none⟩ ∧ b < w.heap.size ∧ ∀ j, j < a.length → w.cell? ⟨b, off + j, none⟩ = some (.int .i64 (a.getD j 0))) := h2a
  have H2b : Hid (b ≠ [] → ∃ b' off, ab = some ⟨b', off, none⟩ ∧ b' < w.heap.size ∧ ∀ j, j < b.length → w.cell? ⟨b', off + j, none⟩ = some (.int .i64 (b.getD j 0))) := h2b
  clear h2a h2b hgrow1
  go_loopg [5, 21] 2 (fun g v i wr => ∃ k : Nat, k + g = 2 ∧ i = .int .i64 k ∧ v = .slice (some ⟨w.heap.size, 0, none⟩) (gat a b k).length (a.length + b.length) ∧ Own w.heap.size wr (.slice (some ⟨w.heap.size, 0, none⟩) (gat a b k).length (a.length + b.length)) (gat a b k) ∧ Below w.heap.size w wr)
  case atStart => exact ⟨0, by omega, rfl, rfl, hown1, hb1⟩
  case round =>
    clear hown1 hb1
    obtain ⟨k, hk, rfl, rfl, hown, hbel⟩ := hrel
    rcases (by omega : k = 0 ∧ gk = 2 ∨ k = 1 ∧ gk = 1 ∨ k = 2 ∧ gk = 0) with ⟨rfl, rfl⟩ | ⟨rfl, rfl⟩ | ⟨rfl, rfl⟩
    · clear hk
      go_wp2
      go_loopg [5, 26] a.length (fun g v i wr => ∃ k : Nat, k + g = a.length ∧ i = .int .i64 k ∧ v = .slice (some ⟨w.heap.size, 0, none⟩) (gath [] a k).length (a.length + b.length) ∧ Own w.heap.size wr (.slice (some ⟨w.heap.size, 0, none⟩) (gath [] a k).length (a.length + b.length)) (gath [] a k) ∧ Below w.heap.size w wr)
      case atStart => exact ⟨0, by omega, rfl, by rw [gath_zero]; rfl, by rw [gath_zero]; exact hown, hbel⟩
      case round =>
        clear hown hbel
        obtain ⟨k, hk, rfl, rfl, hown, hbel⟩ := hrel
        by_cases hlt : k < a.length
        · obtain ⟨bb, oo, e, hbb, hcell⟩ := H2a.out (by intro h; rw [h] at hlt; simp at hlt)
          have hck : wr.cell? ⟨bb, oo + k, none⟩ = some (.int .i64 (a.getD k 0)) := (hbel.cell (p := ⟨bb, oo + k, none⟩) hbb).trans (hcell k hlt)
          clear hcell
          subst e
          have HK : Hid (k + gk = a.length) := hk
          clear hk
          have hcap : (gath [] a k).length + 1 ≤ a.length + b.length := by
            have := gath_len [] a k (by omega)
            try simp only [List.length_nil] at this
            omega
          cases hf : fmd (a.getD k 0)
          · have HG : Hid (gath [] a (k + 1) = gath [] a k) := gath_no hlt hf
            generalize a.getD k 0 = z at *
            go_wp2_with (go_at_call 48; refine (formed_any _ _).mono ?_; rintro e w' ⟨rfl, rfl⟩)
            go_roundg (gk - 1)
            case measure => have := HK.out; omega
            case rel => exact ⟨k + 1, by have := HK.out; omega, by go_num, by rw [HG.out], by rw [HG.out]; exact hown, hbel⟩
          · have HG : Hid (gath [] a (k + 1) = gath [] a k ++ [idx (a.getD k 0)]) := gath_yes hlt hf
            generalize a.getD k 0 = z at *
            go_wp2_with (first | (go_at_call 48; refine (formed_any _ _).mono ?_; rintro e w' ⟨rfl, rfl⟩) | (go_at_call 54; refine (index_any _ _).mono ?_; rintro e w' ⟨rfl, rfl⟩) | (at_builtin; refine wpList_append_fits _ rfl _ _ 31 rfl w.heap.size 3 i0 1 Tryd.underlying31 hi hz1 w.heap.size (gath [] a k).length (a.length + b.length) _ rfl (World.ownsRow.alloc hown _) _ 1 1 [.int .i64 (idx z)] rfl rfl (cell_one_new _ _ _) (by simp [Value.oneCell']) hcap ?_; intro w2 hown2 hgrow2))
            go_roundg (gk - 1)
            case measure => have := HK.out; omega
            case rel =>
              refine ⟨k + 1, by have := HK.out; omega, by go_num, by rw [HG.out]; simp, by rw [HG.out]; exact own_snoc (n := 0) hown2, ?_⟩
              exact (hbel.alloc hbel.size _).grown hgrow2 (by have := hbel.size; simp; omega) (fun j hj => by cases hj; exact Nat.le_refl _)
        · obtain rfl : k = a.length := by omega
          rw [gath_end] at hown
          go_wp2
          go_roundg 1
          case measure => omega
          case rel => exact ⟨1, by omega, by go_num, by rw [gath_end]; rfl, hown, hbel⟩
    · clear hk
      go_wp2
      go_loopg [5, 26] b.length (fun g v i wr => ∃ k : Nat, k + g = b.length ∧ i = .int .i64 k ∧ v = .slice (some ⟨w.heap.size, 0, none⟩) (gath a b k).length (a.length + b.length) ∧ Own w.heap.size wr (.slice (some ⟨w.heap.size, 0, none⟩) (gath a b k).length (a.length + b.length)) (gath a b k) ∧ Below w.heap.size w wr)
      case atStart => exact ⟨0, by omega, rfl, by rw [gath_zero]; rfl, by rw [gath_zero]; exact hown, hbel⟩
      case round =>
        clear hown hbel
        obtain ⟨k, hk, rfl, rfl, hown, hbel⟩ := hrel
        by_cases hlt : k < b.length
        · obtain ⟨bb, oo, e, hbb, hcell⟩ := H2b.out (by intro h; rw [h] at hlt; simp at hlt)
          have hck : wr.cell? ⟨bb, oo + k, none⟩ = some (.int .i64 (b.getD k 0)) := (hbel.cell (p := ⟨bb, oo + k, none⟩) hbb).trans (hcell k hlt)
          clear hcell
          subst e
          have HK : Hid (k + gk = b.length) := hk
          clear hk
          have hcap : (gath a b k).length + 1 ≤ a.length + b.length := by
            have := gath_len a b k (by omega)
            try simp only [List.length_nil] at this
            omega
          cases hf : fmd (b.getD k 0)
          · have HG : Hid (gath a b (k + 1) = gath a b k) := gath_no hlt hf
            generalize b.getD k 0 = z at *
            go_wp2_with (go_at_call 48; refine (formed_any _ _).mono ?_; rintro e w' ⟨rfl, rfl⟩)
            go_roundg (gk - 1)
            case measure => have := HK.out; omega
            case rel => exact ⟨k + 1, by have := HK.out; omega, by go_num, by rw [HG.out], by rw [HG.out]; exact hown, hbel⟩
          · have HG : Hid (gath a b (k + 1) = gath a b k ++ [idx (b.getD k 0)]) := gath_yes hlt hf
            generalize b.getD k 0 = z at *
            go_wp2_with (first | (go_at_call 48; refine (formed_any _ _).mono ?_; rintro e w' ⟨rfl, rfl⟩) | (go_at_call 54; refine (index_any _ _).mono ?_; rintro e w' ⟨rfl, rfl⟩) | (at_builtin; refine wpList_append_fits _ rfl _ _ 31 rfl w.heap.size 3 i0 1 Tryd.underlying31 hi hz1 w.heap.size (gath a b k).length (a.length + b.length) _ rfl (World.ownsRow.alloc hown _) _ 1 1 [.int .i64 (idx z)] rfl rfl (cell_one_new _ _ _) (by simp [Value.oneCell']) hcap ?_; intro w2 hown2 hgrow2))
            go_roundg (gk - 1)
            case measure => have := HK.out; omega
            case rel =>
              refine ⟨k + 1, by have := HK.out; omega, by go_num, by rw [HG.out]; simp, by rw [HG.out]; exact own_snoc (n := 0) hown2, ?_⟩
              exact (hbel.alloc hbel.size _).grown hgrow2 (by have := hbel.size; simp; omega) (fun j hj => by cases hj; exact Nat.le_refl _)
        · obtain rfl : k = b.length := by omega
          rw [gath_end] at hown
          go_wp2
          go_roundg 0
          case measure => omega
          case rel => exact ⟨2, by omega, by go_num, by rw [gath_end]; rfl, hown, hbel⟩
    · clear hk
      go_wp2_with fail
      generalize hys : gat a b 2 = ys at *
      have HY : Hid (idxs (a ++ b) = ys) := hys
      have hyl : ys.length ≤ a.length + b.length := by
        have := idxs_len (a ++ b)
        rw [HY.out] at this
        simpa using this
      clear hys
      have hown' := hown
      rcases hown'.2 with ⟨h', _⟩ | ⟨g', cap', cur, h', hbase, hblk, h1, h2, h3, h4⟩
      · simp at h'
      simp only [Value.slice.injEq, Option.some.injEq, Addr.mk.injEq, and_true, true_and] at h'
      obtain ⟨rfl, rfl⟩ := h'
      have hH : Holds (Value.int .i64) wr w.heap.size 0 ys.toArray := holds_of_blockI hblk (by simpa using h4)
      have hlw : w.heap.size < wr.heap.size := (Array.getElem?_eq_some_iff.1 hblk).1
      refine (hS w.heap.size 0 (a.length + b.length) ys wr hH hlw (by omega)).mono ?_
      rintro e w2 ⟨rfl, nn, os, hw2⟩
      have hown2 := ownsRow_sortedI (n := nn) (os := os) (ts := ys.mergeSort fun x y => decide (x ≤ y)) (by simp) hbase hblk h1 h2 h3
      have hbel2 := hbel.grown (grownBy_sortedI (w := wr) (g := w.heap.size) (n := nn) (os := os) (ys.mergeSort fun x y => decide (x ≤ y)).toArray) hbel.size (fun j hj => by cases hj; exact Nat.le_refl _)
      rw [← hw2] at hown2 hbel2
      have hT : Hid ((Lib.compact (ys.mergeSort fun x y => decide (x ≤ y))).map litAt = tid (a ++ b)) := by have := join_tid (a ++ b); rw [HY.out] at this; exact this
      have hl2 : (ys.mergeSort fun x y => decide (x ≤ y)).length = ys.length := by simp
      generalize (ys.mergeSort fun x y => decide (x ≤ y)) = ts at *
      clear hw2 hH hlw hbase hblk h1 h2 h3 h4 hown hbel hown' HY H2a H2b ix0 ix1 hna hnb
      have hH2 : Holds (Value.int .i64) w2 w.heap.size 0 ts.toArray := by
        rcases hown2.2 with ⟨h', _⟩ | ⟨g', cap', cur', h', _, hblk', _, _, _, h4'⟩
        · simp at h'
        simp only [Value.slice.injEq, Option.some.injEq, Addr.mk.injEq, and_true, true_and] at h'
        obtain ⟨rfl, rfl⟩ := h'
        exact holds_of_blockI hblk' (by rw [hl2]; simpa using h4')
      have hcc := hC w.heap.size 0 (a.length + b.length) ts w2 hH2 (by omega) (by omega)
      rw [← hl2] at hown2
      obtain ⟨own3, gr3⟩ := own_compacted (q := 0) hown2
      have OWN3 : Hid (∀ q, Own w.heap.size (putRow (Value.int .i64) (Sort.ahead w2 q) w.heap.size 0 (Lib.compact ts ++ List.replicate (ts.length - (Lib.compact ts).length) 0).toArray) (.slice (some ⟨w.heap.size, 0, none⟩) (Lib.compact ts).length (a.length + b.length)) (Lib.compact ts) ∧ w2.grownBy (putRow (Value.int .i64) (Sort.ahead w2 q) w.heap.size 0 (Lib.compact ts ++ List.replicate (ts.length - (Lib.compact ts).length) 0).toArray) (some w.heap.size)) := fun q => own_compacted hown2
      have hcl := Lib.compact_length_le ts
      have HCC : Hid (Calls Tryd.prog 56 #[.slice (some ⟨w.heap.size, 0, none⟩) ys.length (a.length + b.length)] w2 fun e w' => e = .returned (.slice (some ⟨w.heap.size, 0, none⟩) (Lib.compact ts).length (a.length + b.length)) ∧ ∃ q, w' = putRow (Value.int .i64) (Sort.ahead w2 q) w.heap.size 0 (Lib.compact ts ++ List.replicate (ts.length - (Lib.compact ts).length) 0).toArray) := by rw [← hl2]; exact hcc
      clear hcc own3 gr3 hH2 hown2
      have HL2 : Hid (ts.length = ys.length) := hl2
      clear hl2
      go_wp2_with fail
      refine HCC.out.mono ?_
      rintro e w3 ⟨rfl, q, hw3⟩
      obtain ⟨own3, gr3⟩ := OWN3.out q
      rw [← hw3] at own3 gr3
      have hbel3 := hbel2.grown gr3 hbel2.size (fun j hj => by cases hj; exact Nat.le_refl _)
      have hcs : (Lib.compact ts).length ≤ a.length + b.length := by have := HL2.out; omega
      clear hw3 gr3 OWN3 HCC hcl HL2 hbel2
      generalize Lib.compact ts = cs at *
      go_wp2
      go_loopg [45] cs.length (fun g i wr => ∃ k : Nat, k + g = cs.length ∧ i = .int .i64 k ∧ wr.ownsRow w.heap.size 3 1 (.slice (some ⟨w.heap.size, 0, none⟩) cs.length (a.length + b.length)) cs.length ((part cs k).map (Value.int .i64)) ∧ Below w.heap.size w wr)
      case atStart => exact ⟨0, by omega, rfl, by rw [part_zero]; exact own3, hbel3⟩
      case round =>
        clear own3 hbel3
        obtain ⟨k, hk, rfl, own, bel⟩ := hrel
        by_cases hlt : k < cs.length
        · have hck : wr.cell? ⟨w.heap.size, k, none⟩ = some (.int .i64 (cs.getD k 0)) := by
            rw [own.cellAt k (by omega), List.getElem?_map, part_get cs k hlt]; rfl
          have hfr : wr.frozen? ⟨w.heap.size, k, none⟩ = false := own.frozenAt k
          obtain ⟨st1, st2⟩ := own.stored k (.int .i64 (litAt (cs.getD k 0)))
          have ST1 : Hid ((wr.setCell ⟨w.heap.size, k, none⟩ (.int .i64 (litAt (cs.getD k 0)))).ownsRow w.heap.size 3 1 (.slice (some ⟨w.heap.size, 0, none⟩) cs.length (a.length + b.length)) cs.length ((part cs (k + 1)).map (Value.int .i64))) := by
            rw [← part_set cs k hlt, List.map_set]; exact st1
          have ST2 : Hid (Below w.heap.size w (wr.setCell ⟨w.heap.size, k, none⟩ (.int .i64 (litAt (cs.getD k 0))))) := bel.setCell (Nat.le_refl _) _
          have HK : Hid (k + gk = cs.length) := hk
          clear hk own bel st1 st2
          generalize cs.getD k 0 = z at *
          go_wp2_with (go_at_call 57; refine (at_any _ _).mono ?_; rintro e w' ⟨rfl, rfl⟩)
          go_roundg (gk - 1)
          case measure => have := HK.out; omega
          case rel => exact ⟨k + 1, by have := HK.out; omega, by go_num, ST1.out, ST2.out⟩
        · obtain rfl : k = cs.length := by omega
          rw [part_end, hT.out] at own
          have hlen : cs.length = (tid (a ++ b)).length := by rw [← hT.out]; simp
          rw [hlen] at own
          have HL : Hid (cs.length = (tid (a ++ b)).length) := hlen
          clear hlen hk
          go_wp2
          go_ret
          exact ⟨_, rfl, by rw [HL.out]; exact own, bel⟩

end Go.Proofs.YtfklgfdkpmfdnaaDoor
