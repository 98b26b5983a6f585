/-
  watch, at one small formula: New.
  KEEP: set on app at below new trans refl start ap kept rd rds mono lt add none own nil put len pos setF setV putL putR other neV same_any
-/
import Derived.Test.YtljcdlpjnpcdmaaWtk
import Derived.Deep.OwnRows
set_option linter.unusedSimpArgs false
set_option linter.unusedVariables false
namespace Go.Proofs.Ytljcdlpjnpcdmaa
open Go Go.RowKit

set_option maxRecDepth 100000 in
theorem wNewNo_any (w : World) :
    Calls Try.prog 6 #[.agg #[.int .i64 (-1), .slice none 0 0]] w fun e w' => e = .returned (.tuple #[.pointer none, .int .i64 1]) ∧ Below w.heap.size w w' := by
  have HR : Hid (Rds (w.alloc (.cells #[.int .i64 (-1), .slice none 0 0] 28)) (.slice none 0 0) []) := ⟨by simp, none, 0, rfl, Nat.le_refl _, by unfold maxLen; decide, fun _ => rfl, fun h => absurd rfl h⟩
  have HE : Hid (frm (-1) [] = false) := by show _ = _; decide
  have HB1 : Hid (Below w.heap.size w (w.alloc (.cells #[.int .i64 (-1), .slice none 0 0] 28))) := below_box _ _
  go_enter Try.func6, Try.ntmps6
  go_wp2_with fail
  refine (cnfFormed_any (-1) _ [] _ HR.out).mono ?_
  rintro e w1 ⟨rfl, bel1⟩
  have HF : Hid (Below w.heap.size w w1) := Below.step HB1.out bel1
  rw [HE.out]
  clear bel1
  go_wp2
  go_ret2
  exact ⟨rfl, HF.out⟩
/-- what New lays -/
def Nn (B : Nat) (w W : World) (p : Value) : Prop := ∃ b Bl D, p = .pointer (some ⟨b, 0, none⟩) ∧ B ≤ b ∧ Ni B W b Bl D ∧ Below B w W
theorem heap_alW (w : World) (o : Obj) (i : Nat) : (w.alloc o).heap[i]? = if i = w.heap.size then some o else w.heap[i]? := by
  show (w.heap.push o)[i]? = _
  rw [Array.getElem?_push]
theorem nn_one {B : Nat} {w W : World} (hB : B ≤ W.heap.size) (hb : Below B w W) : Nn B w (((W.alloc (.cells (madeCells #[.int .i32 0] 4) 21)).alloc (.cells #[.int .i64 0, .slice none 0 0] 52)).alloc (.cells #[.int .i64 2, .slice none 0 0, .slice none 0 0, .slice none 0 0, .slice (some ⟨W.heap.size, 0, none⟩) 4 4, .slice none 0 0, .int .i64 0, .slice (some ⟨W.heap.size + 1, 0, none⟩) 1 1, .int .i64 0, .bool false] 58)) (.pointer (some ⟨W.heap.size + 2, 0, none⟩)) := by
  refine ⟨W.heap.size + 2, .slice (some ⟨W.heap.size, 0, none⟩) 4 4, .slice (some ⟨W.heap.size + 1, 0, none⟩) 1 1, rfl, by omega, ⟨?_, ?_, ?_⟩, ((hb.alloc hB _).alloc (by rw [World.size_alloc]; omega) _).alloc (by rw [World.size_alloc, World.size_alloc]; omega) _⟩
  · unfold BxW
    rw [heap_alW, if_pos (by rw [World.size_alloc, World.size_alloc])]
  · refine ⟨rfl, .inr ⟨W.heap.size, 4, madeCells #[.int .i32 0] 4, rfl, hB, ?_, Nat.le_refl _, by unfold maxLen; decide, by rw [made_zeroW]; simp, by rw [made_zeroW]; rfl⟩⟩
    rw [heap_alW, if_neg (by rw [World.size_alloc, World.size_alloc]; omega), heap_alW, if_neg (by rw [World.size_alloc]; omega), heap_alW, if_pos rfl]
  · refine ⟨rfl, .inr ⟨W.heap.size + 1, 1, #[.int .i64 0, .slice none 0 0], rfl, by omega, ?_, Nat.le_refl _, by unfold maxLen; decide, rfl, rfl⟩⟩
    rw [heap_alW, if_neg (by rw [World.size_alloc, World.size_alloc]; omega), heap_alW, if_pos (by rw [World.size_alloc])]
theorem nn_two {B : Nat} {w W : World} (hB : B ≤ W.heap.size) (hb : Below B w W) : Nn B w (((W.alloc (.cells #[.int .i64 0, .slice none 0 0] 52)).alloc (.cells (madeCells #[.int .i32 0] 4) 21)).alloc (.cells #[.int .i64 2, .slice none 0 0, .slice none 0 0, .slice none 0 0, .slice (some ⟨W.heap.size + 1, 0, none⟩) 4 4, .slice none 0 0, .int .i64 0, .slice (some ⟨W.heap.size, 0, none⟩) 1 1, .int .i64 0, .bool false] 58)) (.pointer (some ⟨W.heap.size + 2, 0, none⟩)) := by
  refine ⟨W.heap.size + 2, .slice (some ⟨W.heap.size + 1, 0, none⟩) 4 4, .slice (some ⟨W.heap.size, 0, none⟩) 1 1, rfl, by omega, ⟨?_, ?_, ?_⟩, ((hb.alloc hB _).alloc (by rw [World.size_alloc]; omega) _).alloc (by rw [World.size_alloc, World.size_alloc]; omega) _⟩
  · unfold BxW
    rw [heap_alW, if_pos (by rw [World.size_alloc, World.size_alloc])]
  · refine ⟨rfl, .inr ⟨W.heap.size + 1, 4, madeCells #[.int .i32 0] 4, rfl, by omega, ?_, Nat.le_refl _, by unfold maxLen; decide, by rw [made_zeroW]; simp, by rw [made_zeroW]; rfl⟩⟩
    rw [heap_alW, if_neg (by rw [World.size_alloc, World.size_alloc]; omega), heap_alW, if_pos (by rw [World.size_alloc])]
  · refine ⟨rfl, .inr ⟨W.heap.size, 1, #[.int .i64 0, .slice none 0 0], rfl, hB, ?_, Nat.le_refl _, by unfold maxLen; decide, rfl, rfl⟩⟩
    rw [heap_alW, if_neg (by rw [World.size_alloc, World.size_alloc]; omega), heap_alW, if_neg (by rw [World.size_alloc]; omega), heap_alW, if_pos rfl]
/-- what New answers -/
def No (w W : World) (b : Nat) : Prop := ∃ C Wt Bl D lit, BxW W b C Wt Bl (.slice none 0 0) 0 D 0 false ∧ Nr w.heap.size W C Wt Bl (.slice none 0 0) D lit (.slice none 0 0) 0 0 0 [0] [] [] ∧ Below w.heap.size w W
set_option maxRecDepth 100000 in
set_option maxHeartbeats 3200000 in
theorem wNew_any (s : Value) (w : World) (hr : Rds w s [[1]]) :
    Calls Try.prog 6 #[.agg #[.int .i64 2, s]] w fun e w' => ∃ b, e = .returned (.tuple #[.pointer (some ⟨b, 0, none⟩), .int .i64 0]) ∧ w.heap.size ≤ b ∧ No w w' b := by
  have HR : Hid (Rds w s [[1]]) := hr
  have HE : Hid (frm 2 [[1]] = true) := by show _ = _; decide
  have HB1 : Hid (Below w.heap.size w (w.alloc (.cells #[.int .i64 2, s] 28))) := below_box _ _
  have k0 := box0 w (.int .i64 2) s 28
  have k1 := box1 w (.int .i64 2) s 28
  have hbs : w.heap.size < (w.alloc (.cells #[.int .i64 2, s] 28)).heap.size := by rw [World.size_alloc]; exact Nat.lt_succ_self _
  have HX0 : Hid (∀ W, Below (w.alloc (.cells #[.int .i64 2, s] 28)).heap.size (w.alloc (.cells #[.int .i64 2, s] 28)) W → W.cell? ⟨w.heap.size, 0, none⟩ = some (.int .i64 2) ∧ W.cell? ⟨w.heap.size, 1, none⟩ = some s) := fun W hW => ⟨(hW.cell (p := ⟨w.heap.size, 0, none⟩) hbs).trans k0, (hW.cell (p := ⟨w.heap.size, 1, none⟩) hbs).trans k1⟩
  obtain ⟨sa, sc, es, hs1, hs2, hAT⟩ := hr.form
  have es' : s = .slice sa 1 sc := es
  subst es'
  obtain ⟨bb, off, u, e1, kc, hrd⟩ := hAT 0 (by decide)
  subst e1
  obtain ⟨au, cu, eu, -, -, -⟩ := hrd.form
  have eu' : u = .slice au 1 cu := eu
  subst eu'
  have HC : Hid (∀ W, Below w.heap.size w W → W.cell? ⟨bb, off + 0, none⟩ = some (.slice au 1 cu) ∧ Rd W (.slice au 1 cu) [1]) := fun W hW => ⟨(hW.cell (p := ⟨bb, off + 0, none⟩) (World.block_lt_of_cell? w _ kc)).trans kc, hrd.below hW⟩
  clear hr hbs k0 k1 kc hrd eu es hAT
  go_enter Try.func6, Try.ntmps6
  go_wp2_with fail
  refine (cnfFormed_any 2 _ [[1]] _ (HR.out.below (below_box _ _))).mono ?_
  rintro e w1 ⟨rfl, bel1⟩
  generalize w.alloc (.cells #[.int .i64 2, .slice (some ⟨bb, off, none⟩) 1 sc] 28) = W0 at *
  have H1 : Hid (Below W0.heap.size W0 w1 ∧ Below w.heap.size w w1) := ⟨bel1, Below.step HB1.out bel1⟩
  obtain ⟨k0, k1⟩ := HX0.out w1 bel1
  rw [HE.out]
  clear bel1
  have hmk : ∀ W : World, (Instr.makeSlice 50 (.int .i64 4) (.int .i64 4)).run Try.prog W = .ok (.slice (some ⟨W.heap.size, 0, none⟩) 4 4) (W.alloc (.cells (madeCells #[.int .i32 0] 4) 21)) := fun W => run_make_row' (P := Try.prog) 50 21 (.int .i32 0) 4 Try.underlying50 infoI32w rfl .i64 .i64 4 (by omega) (by omega) W
  have hw4 : IntKind.i64.wrap 4 = 4 := by decide
  have HX1 : Hid (Below W0.heap.size W0 w1) := H1.out.1
  have m0 : (w1.alloc (.cells (madeCells #[.int .i32 0] 4) 21)).cell? ⟨w.heap.size, 0, none⟩ = some (.int .i64 2) := (HX0.out _ (Below.step HX1.out (below_box _ _))).1
  have m1 : (w1.alloc (.cells #[.int .i64 0, .slice none 0 0] 52)).cell? ⟨w.heap.size, 0, none⟩ = some (.int .i64 2) := (HX0.out _ (Below.step HX1.out (below_box _ _))).1
  have m2 : ((w1.alloc (.cells (madeCells #[.int .i32 0] 4) 21)).alloc (.cells #[.int .i64 0, .slice none 0 0] 52)).cell? ⟨w.heap.size, 0, none⟩ = some (.int .i64 2) := (HX0.out _ (Below.step HX1.out (Below.step (below_box _ _) (below_box _ _)))).1
  have m3 : ((w1.alloc (.cells #[.int .i64 0, .slice none 0 0] 52)).alloc (.cells (madeCells #[.int .i32 0] 4) 21)).cell? ⟨w.heap.size, 0, none⟩ = some (.int .i64 2) := (HX0.out _ (Below.step HX1.out (Below.step (below_box _ _) (below_box _ _)))).1
  have HN1 : Hid (Nn w.heap.size w (((w1.drew.alloc (.cells (madeCells #[.int .i32 0] 4) 21)).alloc (.cells #[.int .i64 0, .slice none 0 0] 52)).alloc (.cells #[.int .i64 2, .slice none 0 0, .slice none 0 0, .slice none 0 0, .slice (some ⟨w1.heap.size, 0, none⟩) 4 4, .slice none 0 0, .int .i64 0, .slice (some ⟨w1.heap.size + 1, 0, none⟩) 1 1, .int .i64 0, .bool false] 58)) (.pointer (some ⟨w1.heap.size + 2, 0, none⟩)) ∧ Below w1.heap.size w1 (((w1.drew.alloc (.cells (madeCells #[.int .i32 0] 4) 21)).alloc (.cells #[.int .i64 0, .slice none 0 0] 52)).alloc (.cells #[.int .i64 2, .slice none 0 0, .slice none 0 0, .slice none 0 0, .slice (some ⟨w1.heap.size, 0, none⟩) 4 4, .slice none 0 0, .int .i64 0, .slice (some ⟨w1.heap.size + 1, 0, none⟩) 1 1, .int .i64 0, .bool false] 58))) := ⟨nn_one (W := w1.drew) H1.out.2.size H1.out.2.drew, Below.step (Below.step (Below.step (Below.refl _ _).drew (below_box _ _)) (below_box _ _)) (below_box _ _)⟩
  have HN2 : Hid (Nn w.heap.size w (((w1.drew.alloc (.cells #[.int .i64 0, .slice none 0 0] 52)).alloc (.cells (madeCells #[.int .i32 0] 4) 21)).alloc (.cells #[.int .i64 2, .slice none 0 0, .slice none 0 0, .slice none 0 0, .slice (some ⟨w1.heap.size + 1, 0, none⟩) 4 4, .slice none 0 0, .int .i64 0, .slice (some ⟨w1.heap.size, 0, none⟩) 1 1, .int .i64 0, .bool false] 58)) (.pointer (some ⟨w1.heap.size + 2, 0, none⟩)) ∧ Below w1.heap.size w1 (((w1.drew.alloc (.cells #[.int .i64 0, .slice none 0 0] 52)).alloc (.cells (madeCells #[.int .i32 0] 4) 21)).alloc (.cells #[.int .i64 2, .slice none 0 0, .slice none 0 0, .slice none 0 0, .slice (some ⟨w1.heap.size + 1, 0, none⟩) 4 4, .slice none 0 0, .int .i64 0, .slice (some ⟨w1.heap.size, 0, none⟩) 1 1, .int .i64 0, .bool false] 58))) := ⟨nn_two (W := w1.drew) H1.out.2.size H1.out.2.drew, Below.step (Below.step (Below.step (Below.refl _ _).drew (below_box _ _)) (below_box _ _)) (below_box _ _)⟩
  go_upto_region 3 with fail
  go_cut [4] from 10 to 19 (fun p wx => Nn w.heap.size w wx p ∧ Below w1.heap.size w1 wx)
  case first =>
    go_region_law fail
    all_goals
      go_wp2_with fail
      go_meet
      first
      | exact HN1.out
      | exact HN2.out
  case rest =>
  obtain ⟨⟨b, Bl, D, rfl, hbB, hni, hbw⟩, hb1⟩ := hcut
  have HB : Hid (w.heap.size ≤ b) := hbB
  obtain ⟨j0, j1⟩ := HX0.out wc (Below.step HX1.out hb1)
  have H2 : Hid (Below w.heap.size w wc) := hbw
  have HT : Hid (Calls Try.prog 21 #[.pointer (some ⟨b, 0, none⟩), .slice au 1 cu] wc fun e w' => e = .returned (.tuple #[]) ∧ ∃ C Wt lit, BxW w' b C Wt Bl (.slice none 0 0) 0 D 0 false ∧ Nr w.heap.size w' C Wt Bl (.slice none 0 0) D lit (.slice none 0 0) 0 0 0 [0] [] [] ∧ Below w.heap.size wc w') := wTake_any w.heap.size b Bl D _ wc hbB hbw.size hni (HC.out wc hbw).2
  have kc : wc.cell? ⟨bb, off, none⟩ = some (.slice au 1 cu) := (HC.out wc hbw).1
  clear hni hbw hb1 hbB k0 k1 m0 m1 m2 m3 HN1 HN2 hmk hw4
  generalize wc = w2 at *
  go_wp2
  go_loopg [6, 23] 1 (fun q x6 k' wr => ∃ k : Nat, k + q = 1 ∧ k' = .int .i64 k ∧ (k = 0 ∧ wr = w2 ∨ k = 1 ∧ No w wr b))
  case atStart => exact ⟨0, by omega, rfl, .inl ⟨rfl, rfl⟩⟩
  case round =>
    obtain ⟨k, hk, rfl, (⟨rfl, hwr⟩ | ⟨rfl, hno⟩)⟩ := hrel
    · obtain rfl : w2 = wr := hwr.symm
      go_wp2_with fail
      refine Calls.mono HT.out ?_
      rintro e w3 ⟨rfl, C, Wt, lit, h1, h2, h3⟩
      have HN : Hid (No w w3 b) := ⟨C, Wt, Bl, D, lit, h1, h2, H2.out.trans h3⟩
      clear h1 h2 h3
      go_wp2
      go_roundg 0
      case measure => omega
      case rel => exact ⟨1, by omega, by go_num, .inr ⟨rfl, HN.out⟩⟩
    · have HN : Hid (No w wr b) := hno
      clear hno
      go_wp2
      go_ret2
      exact ⟨b, rfl, HB.out, HN.out⟩
end Go.Proofs.Ytljcdlpjnpcdmaa
