/-
  spell, walked: a list's text.
-/
import Derived.Test.YtfklgfdkpmfdnaaDoorTidyP
import Derived.Test.YtfklgfdkpmfdnaaDoorShelf
import Derived.Lib.AppendIntMem
import Derived.Lib.Slices
import Derived.Lib.Hide
import Derived.Laws.IdiomStrings
import Derived.OwnWalk
import Derived.BigCall
import Derived.Maps.AppendAt
set_option linter.unusedSimpArgs false
set_option linter.unusedVariables false
namespace Go.Proofs.YtfklgfdkpmfdnaaDoor
open Go.RowKit

theorem infoUsp : (Tryd.prog.info? 5).map (fun i => (i.zero, i.size, i.bytes)) = some (some (.int .u8 0), 1, 1) := by kernel_rfl
/-- the library's table of tens, as the program's text lays it -/
abbrev Tens (w : World) : Prop := Lib.TabIs Tryd.prog w "internal/strconv.uint64pow10" .u64 Lib.pow10Tab
theorem Tens.below {w w' : World} (h : Tens w) (hb : Below w.heap.size w w') : Tens w' := (Lib.tabBelow_of_tabIs h) w' hb

set_option maxHeartbeats 3200000 in
set_option maxRecDepth 100000 in
theorem spell_any (v : Value) (zs : List Int) (w : World) (hr : Rd w v zs) (hz : ∀ x ∈ zs, fmd x = true) (hl2 : zs.length ≤ 2097152) (htab : Tens w) :
    Calls Tryd.prog 47 #[v] w fun e w' => e = .returned (.string ⟨(textOf zs).toArray⟩) ∧ Below w.heap.size w w' := by
  obtain ⟨a, c, rfl, hc, hm, hcell⟩ := hr.form
  obtain ⟨i0, hi, hz0, hz1, hz2⟩ := info_parts infoUsp
  have HT : Hid (Lib.TabBelow Tryd.prog w.heap.size w "internal/strconv.uint64pow10" .u64 Lib.pow10Tab) := Lib.tabBelow_of_tabIs htab
  have HC : Hid (∀ k, k < zs.length → ∃ b off, a = some ⟨b, off, none⟩ ∧ w.cell? ⟨b, off + k, none⟩ = some (.int .i64 (zs.getD k 0))) := hcell
  have HZ : Hid (∀ k, k < zs.length → fmd (zs.getD k 0) = true) := fun k hk => hz _ (getD_mem' hk)
  have HLn : Hid (∀ k, k ≤ zs.length → (textOf (zs.take k)).length ≤ 22 * k) := fun k hk => Nat.le_trans (textOf_len _ (fun x hx => hz x (List.mem_of_mem_take hx))) (by simp; omega)
  clear hcell hr hz htab
  by_cases hne : zs = []
  · subst hne
    have hcv0 : (convert 81 9 (.slice none 0 0)).run Tryd.prog w = .ok (.string ⟨#[]⟩) w := by
      rw [run_convert_bytes_string w 81 9 5 none 0 0 Tryd.underlying81 Tryd.underlying5 Tryd.underlying9]
      rfl
    go_enter Tryd.func47, Tryd.ntmps47
    go_wp2
    refine wp_loop_rounds 1 ?_
    rw [rounds_succ]
    go_wp2
    go_ret
    exact ⟨rfl, Below.refl _ _⟩
  have hpos : 0 < zs.length := List.length_pos_iff.2 hne
  go_enter Tryd.func47, Tryd.ntmps47
  go_wp2
  go_loopg [3, 8] zs.length (fun g u i wr => ∃ k : Nat, k + g = zs.length ∧ i = .int .i64 k ∧ wr.ownsRow w.heap.size 5 1 u (textOf (zs.take k)).length (Lib.byteCells (textOf (zs.take k))) ∧ Below w.heap.size w wr)
  case atStart => exact ⟨0, by omega, rfl, World.ownsRow_nil _ _ _ _, Below.refl _ _⟩
  case round =>
    obtain ⟨k, hk, rfl, own, bel⟩ := hrel
    have HK : Hid (k + gk = zs.length) := hk
    have hs := bel.size
    have hln := HLn.out k (by omega)
    by_cases hlt : k < zs.length
    · obtain ⟨b, off, rfl, hck0⟩ := HC.out k hlt
      have hck : wr.cell? ⟨b, off + k, none⟩ = some (.int .i64 (zs.getD k 0)) := (bel.cell (p := ⟨b, off + k, none⟩) (World.block_lt_of_cell? w _ hck0)).trans hck0
      have hfm := fmd_range (HZ.out k hlt)
      have HS : Hid (textOf (zs.take (k + 1)) = (textOf (zs.take k) ++ Lib.itoa (zs.getD k 0)) ++ [32]) := textOf_more zs k hlt
      have hil := Lib.itoa_length_le (zs.getD k 0) (by omega) (by omega)
      clear hk hck0
      generalize textOf (zs.take k) = T at *
      generalize zs.getD k 0 = z at *
      have HO : Hid (wr.ownsRow w.heap.size 5 1 _ T.length (Lib.byteCells T)) := own
      go_wp2_with (first | (go_at_call 52; refine (Tryd.strconv_AppendInt_10 w.heap.size T.length z (by omega) (by omega) _ (Lib.byteCells T) wr HO.out hs (by omega) (HT.out.on bel)).mono ?_; rintro e w2 ⟨v2, rfl, own2, bel2, -⟩; have hs2 := bel2.size; refine Hid.out ?_))
      refine Lib.hid ?_
      have hb2 : Below w.heap.size w w2 := bel.trans bel2
      go_wp2_with (at_builtin; refine wpList_append_own _ rfl _ _ 81 rfl w.heap.size 5 i0 (.int .u8 0) 1 1 Tryd.underlying81 hi hz0 hz1 hz2 rfl (by decide) _ _ _ rfl (World.ownsRow.alloc own2 _) _ 1 1 [.int .u8 32] rfl rfl (cell_one_new _ _ _) (by simp [Value.oneCell']) (by unfold maxLen; omega) (by omega) (by simp; omega) ?_; intro v3 w3 own3 gr3 hn3)
      go_roundg (gk - 1)
      case measure => have := HK.out; omega
      case rel =>
        refine ⟨k + 1, by have := HK.out; omega, by go_num, ?_, (hb2.alloc (by omega) _).grown gr3 (by simp; omega) (fun j hj => (World.ownsRow.lt own2 j hj).1)⟩
        rw [HS.out]
        simpa [Lib.byteCells, Nat.add_assoc] using own3
    · obtain rfl : k = zs.length := by omega
      rw [List.take_length] at own
      have hp : 0 < (textOf zs).length := by
        cases zs with
        | nil => exact absurd rfl hne
        | cons x r => simp [textOf]; omega
      clear hk hln
      obtain ⟨l, hl⟩ : ∃ l, l = textOf zs := ⟨_, rfl⟩
      rw [← hl] at own hp
      have HL := Lib.hid hl
      clear hl
      rcases own.2 with ⟨-, h0⟩ | ⟨g, cap, cur, rfl, -, -, -, -, -, -⟩
      · omega
      · have hcv := run_convert_bytes_back (P := Tryd.prog) wr 81 9 5 ⟨g, 0, none⟩ cap l Tryd.underlying81 Tryd.underlying5 Tryd.underlying9 (fun j hj => World.ownsRow.cells own (g := g) rfl j _ (by simp [Lib.byteCells, hj]))
        go_wp2
        go_ret
        have hl := HL.out
        subst hl
        exact ⟨rfl, bel⟩

end Go.Proofs.YtfklgfdkpmfdnaaDoor
