/-
  heat: Order.
  KEEP: set on app at below new trans refl start kept mono lt add none own nil put len pos other cell ty blt fz box k p r pr a0 a1 a2 c0 c1 c2 hb setK setP setR unique grown step fin bij up q1 q2 pl held mk v1 v2 t1 t2 hs few cut root z kl nl sl d1 d2 row down has holds stp bel heat mem srt inn inj out lays
-/
import Derived.Test.YtbfjhgiifmhccaaHtQ
import Derived.Test.YtbfjhgiifmhccaaShelfR
import Derived.Deep.OwnRows
set_option linter.unusedSimpArgs false
set_option linter.unusedVariables false
namespace Go.Proofs.Ytbfjhgiifmhccaa
open Go Go.RowKit

section
variable {B b n dec st : Nat} {v : Hv} {K P R : List Nat} {H : Nat → Bool}
def enc32 (n : Nat) (x : _root_.Fin (n + 1)) : Value := .int .i32 (x.val : Int)
theorem fins_size (n : Nat) (R : List Nat) : (fins n R).size = R.length - 1 := by unfold fins; rw [List.size_toArray, List.length_map, hld_len]
theorem fins_at {R P : List Nat} (hb : Bij n R P) {j : Nat} (hj : j + 1 < R.length) : enc32 n (fins n R)[j]! = .int .i32 (gt R (j + 1) : Nat) := by
  have hs : j < (fins n R).size := by rw [fins_size]; omega
  rw [getElem!_pos _ j hs]
  have h1 : (fins n R)[j].val = gt R (j + 1) := by
    have e := fins_vals hb
    have := congrArg (fun l => l[j]?) e
    simp only [hld_at hj, List.getElem?_map] at this
    rw [Array.getElem?_toList, Array.getElem?_eq_getElem hs] at this
    simpa using this
  unfold enc32; rw [h1]
theorem heap_mapBlock (w : World) (g : Nat) (f : Array Value → Array Value) {k : Nat} (h : k ≠ g) : (Sort.mapBlock w g f).heap[k]? = w.heap[k]? := by
  simp only [Sort.mapBlock]
  rw [Array.getElem?_modify, if_neg (fun e => h e.symm)]
theorem sortWorld_block {α : Type} [Inhabited α] (enc : α → Value) (w : World) (g off m : Nat) (dk : Array α) (os : Array Obj) {k : Nat} (hk : k < w.heap.size) (hne : k ≠ g) : (sortWorld enc w g off m dk os).heap[k]? = w.heap[k]? := by
  unfold sortWorld
  rw [Sort.heap_grow_old _ _ (by simp; exact hk)]
  exact heap_mapBlock _ _ _ hne
/-- what sorting leaves -/
structure SrtS (w w' : World) (n : Nat) (κ : Nat → Nat) (H : Nat → Bool) (g L : Nat) (S : List Nat) : Prop where
  ord : IsOrd κ H n S
  len : S.length = L
  cell : ∀ j, j < L → w'.cell? ⟨g, j, none⟩ = some (.int .i32 (gt S j : Nat))
  bel : Below w.heap.size w w'
  glt : g < w'.heap.size
theorem sort_any (w w1 w2 : World) (hh : Hz B w1 b (v.hs dec st) K P R) (hf : Fin K) (hK : K.length = n + 1) (hn : n ≤ 1048576) (hb : Bij n R P) (hheld : ∀ u, 1 ≤ u → u ≤ n → (gt P u ≠ 0 ↔ H u = true)) (hw1 : Below w.heap.size w w1) (hsz : w.heap.size < w1.heap.size) (hbx : w1.cell? ⟨w.heap.size, 0, none⟩ = some (.pointer (some ⟨b, 2, none⟩))) (hbel : Below w1.heap.size w1 w2) (g L c : Nat) (hL : R.length = L + 1) (hrow : w2.ownsRow w1.heap.size 21 1 (.slice (some ⟨g, 0, none⟩) L c) L (i32n (hld R))) :
    Calls Try.prog 47 #[.slice (some ⟨g, 0, none⟩) L c, .func (.func 48) #[] #[.pointer (some ⟨w.heap.size, 0, none⟩)]] w2 fun e w' => e = .returned (.tuple #[]) ∧ ∃ S, SrtS w w' n (gt K) H g L S := by
  have hgl := hrow.lt g rfl
  have hfs : (fins n R).size = L := by rw [fins_size]; omega
  have hH : Sort.Holds (enc32 n) w2 g 0 (fins n R) := fun j hj => by
    rw [fins_at hb (by omega), Nat.zero_add]
    refine ⟨row_cell hrow ?_, row_fz hrow j⟩
    unfold i32n; rw [List.getElem?_map, hld_at (by omega)]; rfl
  have hz2 := hh.below hbel
  have hcmp : CmpReads Try.prog 48 #[.pointer (some ⟨w.heap.size, 0, none⟩)] (enc32 n) (fun x y => cfO (gt K) x.val y.val) g 0 (fins n R).size w2 := fun m os dk hdk x y => by
    have hzS : Hz B (sortWorld (enc32 n) w2 g 0 m dk os) b (v.hs dec st) K P R := hz2.kept fun k hk => sortWorld_block _ _ _ _ _ _ _ (hz2.lt k hk).2 (fun e => by have := (hh.lt k hk).2; omega)
    have hbS : (sortWorld (enc32 n) w2 g 0 m dk os).cell? ⟨w.heap.size, 0, none⟩ = some (.pointer (some ⟨b, 2, none⟩)) := by
      have e1 : (sortWorld (enc32 n) w2 g 0 m dk os).heap[w.heap.size]? = w1.heap[w.heap.size]? := (sortWorld_block _ _ _ _ _ _ _ (Nat.lt_of_lt_of_le hsz hbel.size) (by omega)).trans (hbel.block _ hsz)
      rw [← hbx]
      simp only [World.cell?, e1]
    exact cmp_any x.val y.val w.heap.size _ hzS hf (by rw [hK]; exact x.isLt) (by rw [hK]; exact y.isLt) (by rw [hK]; omega) hbS
  have hlt : (fun x y : _root_.Fin (n + 1) => ahd (gt K) x.val y.val) = ltOf (fun x y => cfO (gt K) x.val y.val) := by
    funext x y; unfold ltOf; exact (cfO_lt _ _ _).symm
  have hO : Sort.SWO (ltOf (fun x y : _root_.Fin (n + 1) => cfO (gt K) x.val y.val)) := by
    rw [← hlt]
    exact ⟨fun x => ahd_irr _ _, fun x y z h1 h2 => ahd_trans h1 h2, fun x y z h1 h2 => ahd_le h1 h2⟩
  have h := Try.slices_SortFunc (enc32 n) (fun _ => rfl) (fun x y => cfO (gt K) x.val y.val) hO 48 #[.pointer (some ⟨w.heap.size, 0, none⟩)] g 0 c (fins n R) w2 (enters_of Try.func48 (by kernel_rfl) rfl) hcmp.lays hH hgl.2 (by have := hb.few; omega)
  rw [hfs] at h
  refine h.mono fun e w' ⟨he, d', m, os, hp, hs, hw⟩ => ⟨he, d'.toList.map (fun x => x.val), ?_⟩
  rw [← hfs] at hp hs
  rw [← hlt] at hs
  have hd' : d'.size = L := hp.1.trans hfs
  have hord := sorted_ord (κ := gt K) hb hheld d' hp hs
  have hHo := Sort.holds_grow (enc32 n) _ os g 0 d' (by simp; exact hgl.2) (Sort.holds_putRow (enc32 n) (Sort.ahead w2 m) g 0 (fins n R) d' hH hp.1)
  refine ⟨hord, by simp [hd'], fun j hj => ?_, ?_, ?_⟩
  · have := (hHo j (by omega)).1
    rw [Nat.zero_add, getElem!_pos d' j (by omega)] at this
    rw [hw]
    refine this.trans ?_
    unfold enc32 gt
    rw [List.getD_eq_getElem?_getD, List.getElem?_map, Array.getElem?_toList, Array.getElem?_eq_getElem (by omega)]
    rfl
  · rw [hw]
    have h12 := Below.step hw1 (hbel)
    refine ⟨h12.os, h12.tape, h12.output, ?_, fun k hk => ?_⟩
    · have := h12.size; unfold sortWorld; simp; omega
    · have := h12.size
      exact (sortWorld_block _ _ _ _ _ _ _ (by omega) (by omega)).trans (h12.block k hk)
  · rw [hw]; unfold sortWorld; simp; have := hgl.2; omega
/-- what Order leaves -/
def OrdS (w : World) (n : Nat) (κ : Nat → Nat) (H : Nat → Bool) (e : Ending) (w' : World) : Prop := ∃ S u, e = .returned u ∧ IsOrd κ H n S ∧ Own w.heap.size w' u (S.map fun (x : Nat) => (x : Int)) ∧ Below w.heap.size w w'
theorem hclone14_any (w1 : World) (hh : Hz B w1 b (v.hs dec st) K P R) (hb : Bij n R P) (hn : n ≤ 1048576) (L gR cR off c : Nat) (hL : R.length = L + 1) (eR : v.R = .slice (some ⟨gR, 0, none⟩) (L + 1) cR) (hoff : off = 1 ∨ L = 0) :
    Calls Try.prog 46 #[.slice (some ⟨gR, off, none⟩) L c] w1 fun e w' => ∃ g c', e = .returned (.slice (some ⟨g, 0, none⟩) L c') ∧ w'.ownsRow w1.heap.size 21 1 (.slice (some ⟨g, 0, none⟩) L c') L (i32n (hld R)) ∧ Below w1.heap.size w1 w' := by
  obtain ⟨i0, hi0, hz0, hz1, hz2⟩ := info_parts Try.info21
  have hfew := hb.few
  have rR := hh.r
  have eR' : (v.hs dec st).R = .slice (some ⟨gR, 0, none⟩) (L + 1) cR := eR
  rw [eR', hL] at rR
  have h := Try.slices_Clone i0 (.int .i32 0) 1 4 hi0 hz0 hz1 hz2 rfl (by omega) Try.sizeOf21 gR off L c (i32n (hld R)) w1 (by simp [i32n, hld_len]; omega) (by unfold maxLen; omega) (by omega) (fun j u hj => by
    have hjl : j < L := by
      have := (List.getElem?_eq_some_iff.1 hj).1
      simp [i32n, hld_len] at this; omega
    rcases hoff with rfl | rfl
    · unfold i32n at hj
      rw [List.getElem?_map, hld_at (by omega)] at hj
      have hj' : u = .int .i32 (gt R (j + 1) : Nat) := by simpa using hj.symm
      rw [hj', Nat.add_comm 1 j]
      exact row_cell rR (i32n_at (by omega))
    · omega) (fun u hu => by obtain ⟨x, _, rfl⟩ := List.mem_map.1 hu; rfl)
  refine h.mono fun e w' ⟨u, he, hrow, hne, hbel⟩ => ?_
  rcases hrow.2 with ⟨hu, _⟩ | ⟨g, cap, cur, hu, _⟩
  · exact absurd hu hne
  · subst hu; exact ⟨g, cap, he, hrow, hbel⟩
def ClS (w1 w' : World) (R : List Nat) (g L c : Nat) : Prop := w'.ownsRow w1.heap.size 21 1 (.slice (some ⟨g, 0, none⟩) L c) L (i32n (hld R)) ∧ Below w1.heap.size w1 w'
theorem own_cap14 (w : World) (n : Nat) (hn : n ≤ 1048576) : Own w.heap.size (w.alloc (.cells (madeCells #[.int .i64 0] n) 3)) (.slice (some ⟨w.heap.size, 0, none⟩) 0 n) [] :=
  ⟨by simp, .inr ⟨w.heap.size, n, _, rfl, Nat.le_refl _, World.alloc_heap_new w _, Nat.zero_le _, by unfold maxLen; omega, by simp [size_madeCells], by simp⟩⟩
theorem take_gt {S : List Nat} {k : Nat} (h : k < S.length) : S.take (k + 1) = S.take k ++ [gt S k] := by
  rw [List.take_add_one]; unfold gt; rw [List.getD_eq_getElem?_getD, List.getElem?_eq_getElem h]; rfl
theorem gt_mem {S : List Nat} {k : Nat} (h : k < S.length) : gt S k ∈ S := by
  unfold gt; rw [List.getD_eq_getElem?_getD, List.getElem?_eq_getElem h]; exact List.getElem_mem h
theorem i64_app (S : List Nat) (x : Nat) : ((S ++ [x]).map fun (x : Nat) => (x : Int)).map (Value.int .i64) = ((S.map fun (x : Nat) => (x : Int)).map (Value.int .i64)) ++ [.int .i64 (x : Int)] := by simp
set_option maxHeartbeats 2000000 in
theorem horder_any (w : World) (hh : Ht B w b v n dec st K H) :
    Calls Try.prog 37 #[.pointer (some ⟨b, 2, none⟩)] w fun e w' => OrdS w n (gt K) H e w' := by
  obtain ⟨P, R, hz, hb, hp, hheld⟩ := hh.z
  have hnl := hh.nl
  have hpos := hb.pos
  have hfew := hb.few
  obtain ⟨L, hL⟩ : ∃ L, R.length = L + 1 := ⟨R.length - 1, by omega⟩
  obtain ⟨gR, cR, eR, k1, k2, k3⟩ := row_some hz.r (by omega)
  rw [hL] at eR k1
  have eR' : v.R = .slice (some ⟨gR, 0, none⟩) (L + 1) cR := eR
  have hbel0 : Below w.heap.size w (w.alloc (.cells #[.pointer (some ⟨b, 2, none⟩)] 78)) := below_box _ _
  have hsz0 : w.heap.size < (w.alloc (.cells #[.pointer (some ⟨b, 2, none⟩)] 78)).heap.size := by rw [World.size_alloc]; omega
  have hbx0 : (w.alloc (.cells #[.pointer (some ⟨b, 2, none⟩)] 78)).cell? ⟨w.heap.size, 0, none⟩ = some (.pointer (some ⟨b, 2, none⟩)) := by
    have := World.alloc_heap_new w (.cells #[.pointer (some ⟨b, 2, none⟩)] 78)
    unfold World.cell?
    rw [this]
    rfl
  have hz1 := hz.below hbel0
  have b2 : (w.alloc (.cells #[.pointer (some ⟨b, 2, none⟩)] 78)).cell? ⟨b, 4, none⟩ = some v.R := hz1.c2
  rw [eR'] at b2
  obtain ⟨i0, hi0, hy0, hy1, hy2⟩ := info_parts Try.info3
  have HI : Hid (Try.prog.info? 3 = some i0 ∧ i0.zero = some (.int .i64 0) ∧ i0.size = 1 ∧ i0.bytes = 8) := ⟨hi0, hy0, hy1, hy2⟩
  have HCl : Hid (∀ off c, (off = 1 ∨ L = 0) → Calls Try.prog 46 #[.slice (some ⟨gR, off, none⟩) L c] (w.alloc (.cells #[.pointer (some ⟨b, 2, none⟩)] 78)) fun e w' => ∃ g c', e = .returned (.slice (some ⟨g, 0, none⟩) L c') ∧ ClS (w.alloc (.cells #[.pointer (some ⟨b, 2, none⟩)] 78)) w' R g L c') := fun off c ho => hclone14_any _ hz1 hb hnl L gR cR off c hL eR' ho
  have HSo : Hid (∀ w2 g c, ClS (w.alloc (.cells #[.pointer (some ⟨b, 2, none⟩)] 78)) w2 R g L c → Calls Try.prog 47 #[.slice (some ⟨g, 0, none⟩) L c, .func (.func 48) #[] #[.pointer (some ⟨w.heap.size, 0, none⟩)]] w2 fun e w' => e = .returned (.tuple #[]) ∧ ∃ S, SrtS w w' n (gt K) H g L S) := fun w2 g c h12 => sort_any w _ w2 hz1 hh.fin hh.kl hnl hb hheld hbel0 hsz0 hbx0 h12.2 g L c hL h12.1
  have hmk : ∀ W : World, (Instr.makeSlice 52 (.int .i64 0) (.int .i64 (L : Int))).run Try.prog W = .ok (.slice (some ⟨W.heap.size, 0, none⟩) 0 L) (W.alloc (.cells (madeCells #[.int .i64 0] L) 3)) := fun W => by
    have := run_makeSlice (P := Try.prog) W 52 3 i0 (.int .i64 0) Try.underlying52 hi0 hy0 .i64 .i64 0 (L : Int) (by omega) (by omega) (by rw [hy1]; omega) (by rw [hy2]; omega) (by omega)
    simpa [hy1, Value.cells] using this
  have hfew' : L ≤ 1048576 := by omega
  have HB0 : Hid (Below w.heap.size w (w.alloc (.cells #[.pointer (some ⟨b, 2, none⟩)] 78))) := hbel0
  clear hz hz1 hb hp hheld hh eR eR' hbel0 hsz0 hi0 hy0 hy1 hy2 hL hfew hpos
  by_cases hc1 : cR = 1
  · have hL0 : L = 0 := by omega
    subst hL0
    subst hc1
    have hmk0 : ∀ W : World, (Instr.makeSlice 52 (.int .i64 0) (.int .i64 0)).run Try.prog W = .ok (.slice (some ⟨W.heap.size, 0, none⟩) 0 0) (W.alloc (.cells #[] 3)) := fun W => by
      have := hmk W
      have e : madeCells #[.int .i64 0] 0 = #[] := Array.eq_empty_of_size_eq_zero (by simp [size_madeCells])
      rw [e] at this
      exact this
    clear hmk
    go_enter Try.func37, Try.ntmps37
    go_upto_region 3 with (first | (go_at_call 46; refine Calls.mono (HCl.out _ _ (.inr rfl)) ?_; rintro e w2 ⟨g, c2, rfl, h2⟩; have H2 : Hid (ClS (w.alloc (.cells #[.pointer (some ⟨b, 2, none⟩)] 78)) w2 R g 0 c2) := h2; clear h2) | (go_at_call 47; refine Calls.mono (HSo.out _ _ _ H2.out) ?_; rintro e w3 ⟨rfl, S, hs⟩; have H3 : Hid (SrtS w w3 n (gt K) H g 0 S) := hs; clear hs))
    have HF : Hid (OrdS w n (gt K) H (.returned (.slice (some ⟨w3.heap.size, 0, none⟩) 0 0)) (w3.alloc (.cells #[] 3))) := by
      have hS : S = [] := List.eq_nil_of_length_eq_zero H3.out.len
      refine ⟨S, _, rfl, H3.out.ord, ?_, Below.step H3.out.bel (below_box _ _)⟩
      rw [hS]
      exact ⟨by simp, .inr ⟨w3.heap.size, 0, _, rfl, H3.out.bel.size, World.alloc_heap_new w3 _, Nat.zero_le _, Nat.zero_le _, by simp, by simp⟩⟩
    clear HCl HSo H2 b2 hbx0 H3
    go_wp2
    refine wp_loop_rounds 1 ?_
    rw [rounds_succ]
    go_wp2
    go_ret
    exact HF.out
  · have hc2 : 1 < cR := by omega
    go_enter Try.func37, Try.ntmps37
    go_upto_region 3 with (first | (go_at_call 46; refine Calls.mono (HCl.out _ _ (.inl rfl)) ?_; rintro e w2 ⟨g, c2, rfl, h2⟩; have H2 : Hid (ClS (w.alloc (.cells #[.pointer (some ⟨b, 2, none⟩)] 78)) w2 R g L c2) := h2; clear h2) | (go_at_call 47; refine Calls.mono (HSo.out _ _ _ H2.out) ?_; rintro e w3 ⟨rfl, S, hs⟩; have H3 : Hid (SrtS w w3 n (gt K) H g L S) := hs; clear hs))
    have HO0 : Hid (Own w3.heap.size (w3.alloc (.cells (madeCells #[.int .i64 0] L) 3)) (.slice (some ⟨w3.heap.size, 0, none⟩) 0 L) ((S.take 0).map fun (x : Nat) => (x : Int))) := own_cap14 w3 L (by omega)
    have HBl0 : Hid (Below w3.heap.size w3 (w3.alloc (.cells (madeCells #[.int .i64 0] L) 3))) := below_box _ _
    clear HCl HSo H2 b2 hbx0
    go_wp2
    generalize w3.alloc (.cells (madeCells #[.int .i64 0] L) 3) = w4 at *
    go_loopg [4, 21] L (fun q x y wx => ∃ (k : Nat) (a : Option Addr) (c : Nat), k + q = L ∧ x = .slice a k c ∧ y = .int .i64 (k : Int) ∧ Hid (Own w3.heap.size wx (.slice a k c) ((S.take k).map fun (x : Nat) => (x : Int))) ∧ Hid (Below w3.heap.size w3 wx))
    case atStart => exact ⟨0, _, _, by omega, rfl, rfl, HO0, HBl0⟩
    case round =>
      obtain ⟨k, a, c, hk, rfl, rfl, H4, H5⟩ := hrel
      clear HO0 HBl0
      by_cases hlt : k < L
      · have hSl := H3.out.len
        have xk : wr.cell? ⟨g, k, none⟩ = some (.int .i32 (gt S k : Nat)) := (H5.out.cell (p := ⟨g, k, none⟩) H3.out.glt).trans (H3.out.cell k hlt)
        have hkn := (H3.out.ord.mem (gt S k)).1 (gt_mem (by omega))
        have hwx := wr32 (z := gt S k) (by omega)
        have HRow : Hid ((wr.alloc (.cells #[.int .i64 (gt S k : Nat)] 3)).ownsRow w3.heap.size 3 1 (.slice a k c) k (((S.take k).map fun (x : Nat) => (x : Int)).map (Value.int .i64))) := by
          have := World.ownsRow.alloc H4.out (.cells #[.int .i64 (gt S k : Nat)] 3)
          have e : ((S.take k).map fun (x : Nat) => (x : Int)).length = k := by simp; omega
          rw [e] at this; exact this
        have HNew : Hid (∀ j u, [(Value.int .i64 (gt S k : Nat))][j]? = some u → (wr.alloc (.cells #[.int .i64 (gt S k : Nat)] 3)).cell? ((⟨wr.heap.size, 0, none⟩ : Addr).add j) = some u) := cell_one_new _ _ _
        have HBs : Hid (w3.heap.size ≤ (wr.alloc (.cells #[.int .i64 (gt S k : Nat)] 3)).heap.size) := by
          show _ ≤ _
          rw [World.size_alloc]; have := H5.out.size; omega
        have HApp : Hid (∀ v8 w8, w8.ownsRow w3.heap.size 3 1 v8 (k + 1) ((((S.take k).map fun (x : Nat) => (x : Int)).map (Value.int .i64)) ++ [.int .i64 (gt S k : Nat)]) → Ap (wr.alloc (.cells #[.int .i64 (gt S k : Nat)] 3)) (.slice a k c) w8 v8 →
            (∃ a8 c8, v8 = .slice a8 (k + 1) c8) ∧ Own w3.heap.size w8 v8 ((S.take (k + 1)).map fun (x : Nat) => (x : Int)) ∧ Below w3.heap.size w3 w8) := fun v8 w8 own8 ap8 => by
          refine ⟨row_form' own8, ?_, ?_⟩
          · unfold Own
            rw [take_gt (by omega), i64_app]
            have e : ((S.take k ++ [gt S k]).map fun (x : Nat) => (x : Int)).length = k + 1 := by simp; omega
            rw [e]; exact own8
          · have hb1 : Below w3.heap.size w3 (wr.alloc (.cells #[.int .i64 (gt S k : Nat)] 3)) := Below.step H5.out (below_box _ _)
            have hg := ap8.grown
            refine ⟨hg.os.trans hb1.os, hg.tape.trans hb1.tape, hg.output.trans hb1.output, Nat.le_trans hb1.size hg.size, fun j hj => (hg.block j (Nat.lt_of_lt_of_le hj hb1.size) fun e => ?_).trans (hb1.block j hj)⟩
            have := (H4.out.lt j e.symm).1
            omega
        have hl63 : k + 1 ≤ maxLen := by unfold maxLen; omega
        have hl48 : (k + 1) * 8 ≤ 140737488355328 := by omega
        have hgk : L - (k + 1) < gk := by omega
        have HKN : Hid (k + 1 + (L - (k + 1)) = L) := by show _ = _; omega
        clear H4 H5 hkn hSl hk
        generalize gt S k = x at *
        generalize ((S.take k).map fun (x : Nat) => (x : Int)).map (Value.int .i64) = xs at *
        go_wp2_with (at_builtin; refine wpList_append_apk rfl _ _ 52 rfl w3.heap.size 3 i0 (.int .i64 0) 1 8 Try.underlying52 HI.out.1 HI.out.2.1 HI.out.2.2.1 HI.out.2.2.2 rfl (by decide) (.slice a k c) k xs rfl HRow.out ⟨wr.heap.size, 0, none⟩ 1 1 [.int .i64 (x : Int)] rfl rfl HNew.out (by simp [Value.oneCell']) hl63 hl48 HBs.out ?_; intro v8 w8 own8 ap8; obtain ⟨⟨a8, c8, hv8⟩, q1, q2⟩ := HApp.out v8 w8 own8 ap8; subst hv8; have HQ1 : Hid _ := q1; have HQ2 : Hid _ := q2; clear own8 ap8 q1 q2)
        go_roundg (L - (k + 1))
        case rel => exact ⟨k + 1, _, _, HKN.out, rfl, by simp, HQ1.out, HQ2.out⟩
        case measure => exact hgk
      · have hke : k = L := by omega
        have hSl := H3.out.len
        have HF : Hid (OrdS w n (gt K) H (.returned (.slice a k c)) wr) := by
          have o := H4.out
          rw [hke, List.take_of_length_le (by omega)] at o
          refine ⟨S, _, rfl, H3.out.ord, ?_, Below.step H3.out.bel H5.out⟩
          rw [hke]
          exact o.mono H3.out.bel.size
        clear H4 H5 hSl
        go_wp2
        go_ret
        exact HF.out
theorem order_any (w : World) (hh : Ht B w b v n dec st K H) :
    Calls Try.prog 17 #[.pointer (some ⟨b, 0, none⟩)] w fun e w' => OrdS w n (gt K) H e w' := by
  have H1 : Hid (Calls Try.prog 37 #[.pointer (some ⟨b, 2, none⟩)] w fun e w' => OrdS w n (gt K) H e w') := horder_any w hh
  clear hh
  go_enter Try.func17, Try.ntmps17
  go_wp2_with (go_at_call 37; refine H1.out.mono ?_; rintro e w' ⟨S, u, rfl, h1, h2, h3⟩; have HH : Hid (OrdS w n (gt K) H (.returned u) w') := ⟨S, u, rfl, h1, h2, h3⟩; clear h1 h2 h3)
  go_ret
  exact HH.out
end
end Go.Proofs.Ytbfjhgiifmhccaa
