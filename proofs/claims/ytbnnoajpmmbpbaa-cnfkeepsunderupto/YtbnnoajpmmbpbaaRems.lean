/-
  remains and HasInt, walked.
-/
import Derived.Test.YtbnnoajpmmbpbaaRemP
set_option linter.unusedSimpArgs false
set_option linter.unusedVariables false
namespace Go.Proofs.Ytbnnoajpmmbpbaa
open Go.RowKit

theorem own_onemore {base : Nat} {w : World} {v : Value} {out : List Int} {x : Int} (h : w.ownsRow base 3 1 v (out.length + 1) (out.map (Value.int .i64) ++ [.int .i64 x])) : Own base w v (out ++ [x]) := by
  unfold Own; simpa using h
theorem ret_pair {v : Value} {a b : Bool} (h : a = b) : Ending.returned (.tuple #[v, .bool a]) = .returned (.tuple #[v, .bool b]) := by rw [h]

set_option maxHeartbeats 800000 in
theorem remains_any (v vg : Value) (zs part : List Int) (N : Nat) (w : World) (hr : Rd w v zs) (hg : RdB w vg (giv part N)) (hN : N ≤ 1048576) (hfit : fitsP N zs = true) :
    Calls Try.prog 32 #[v, vg] w fun e w' => ∃ u, e = .returned (.tuple #[u, .bool (!remG part zs)]) ∧ (remG part zs = false → Own w.heap.size w' u (remL part zs)) ∧ Below w.heap.size w w' := by
  have hl := hr.len
  obtain ⟨a, c, rfl, hc, hmx, hcell⟩ := hr.form
  obtain ⟨ag, cg, rfl, hcg⟩ := hg.form
  obtain ⟨i0, hi, hz0, hz1, hz2⟩ := info_parts Try.info3
  have HC : Hid (∀ k, k < zs.length → ∃ b off, a = some ⟨b, off, none⟩ ∧ w.cell? ⟨b, off + k, none⟩ = some (.int .i64 (zs.getD k 0))) := hcell
  have HR : Hid (Rd w (.slice a zs.length c) zs) := hr
  have HG : Hid (RdB w (.slice ag (giv part N).length cg) (giv part N)) := hg
  have HF : Hid (fitsP N zs = true) := hfit
  clear hcell hr hcg hg hfit
  rw [giv_len] at HG ⊢
  go_enter Try.func32, Try.ntmps32
  go_wp2
  go_loopg [6, 11] zs.length (fun g u i wr => ∃ k : Nat, k + g = zs.length ∧ i = .int .i64 k ∧ remG part (zs.take k) = false ∧ Own w.heap.size wr u (remL part (zs.take k)) ∧ Below w.heap.size w wr)
  case atStart => exact ⟨0, by omega, rfl, by simp [remG], World.ownsRow_nil _ _ _ _, Below.refl _ _⟩
  case round =>
    obtain ⟨k, hk, rfl, hno, own, bel⟩ := hrel
    have HA : Hid (remG part (zs.take k) = false) := hno
    have HK : Hid (k + gk = zs.length) := hk
    have hs := bel.size
    have hlk : (remL part (zs.take k)).length ≤ zs.length := Nat.le_trans (remL_len _ _) (by simp; omega)
    clear hno
    by_cases hlt : k < zs.length
    · have hlk2 : (remL part (zs.take k)).length ≤ k := Nat.le_trans (remL_len _ _) (by simp; omega)
      obtain ⟨b, off, rfl, hck0⟩ := HC.out k hlt
      have hck : wr.cell? ⟨b, off + k, none⟩ = some (.int .i64 (zs.getD k 0)) := (bel.cell (p := ⟨b, off + k, none⟩) (World.block_lt_of_cell? w _ hck0)).trans hck0
      obtain ⟨hfm, hvn⟩ := fits_at HF.out hlt
      obtain ⟨j0, j1, j2⟩ := idx_lt hfm hvn
      have hfn := fmd_neg hfm
      obtain ⟨n0, n1, n2⟩ := idx_lt hfn (by rw [varOf_neg hfm]; exact hvn)
      obtain ⟨ag', cg', eg, hcg⟩ := (HG.out.below bel).form
      have e3 : ag' = ag ∧ cg' = cg := by rw [giv_len] at eg; injection eg with q1 q2 q3; exact ⟨q1.symm, q3.symm⟩
      obtain ⟨rfl, rfl⟩ := e3
      obtain ⟨bg, og, rfl, hcj⟩ := hcg _ (by rw [giv_len]; exact j1)
      obtain ⟨bg', og', eq', hcn⟩ := hcg _ (by rw [giv_len]; exact n1)
      cases eq'
      rw [giv_at hfm hvn] at hcj
      rw [giv_at hfn (by rw [varOf_neg hfm]; exact hvn)] at hcn
      have HS : Hid (remG part (zs.take (k + 1)) = (remG part (zs.take k) || part.contains (zs.getD k 0))) := any_take_getD _ zs 0 k hlt
      have HE : Hid (part.contains (zs.getD k 0) = true → remG part zs = true) := fun h => any_true_getD (f := fun l => part.contains l) hlt h
      have HL1 : Hid (part.contains (-zs.getD k 0) = false → remL part (zs.take (k + 1)) = remL part (zs.take k) ++ [zs.getD k 0]) := remL_yes hlt
      have HL2 : Hid (part.contains (-zs.getD k 0) = true → remL part (zs.take (k + 1)) = remL part (zs.take k)) := remL_no hlt
      have HJ : Hid (idx (zs.getD k 0) = ((idx (zs.getD k 0)).toNat : Int)) := j2
      have HJn : Hid (idx (-zs.getD k 0) = ((idx (-zs.getD k 0)).toNat : Int)) := n2
      clear hk j2 n2 HF hck0 hcg eg
      generalize (remL part (zs.take k)) = out at *
      generalize zs.getD k 0 = z at *
      have hneg : wrap64 (-z) = -z := by have := fmd_range hfm; unfold wrap64; omega
      obtain ⟨hz0', hz1', hz2'⟩ := fmd_range hfm
      generalize (idx z).toNat = p at *
      generalize (idx (-z)).toNat = q at *
      generalize hcv : part.contains z = g1 at *
      generalize hcw : part.contains (-z) = g2 at *
      clear hcv hcw
      cases g1
      · cases g2
        · go_wp2_with (first | (go_at_call 31; refine (index_any _ _).mono ?_; (first | rw [HJ.out] | rw [HJn.out]); rintro e w' ⟨rfl, hw'⟩; obtain rfl := hw'.symm) | (at_builtin; refine wpList_append_own _ rfl _ _ 39 rfl w.heap.size 3 i0 (.int .i64 0) 1 8 Try.underlying39 hi hz0 hz1 hz2 rfl (by decide) _ out.length (out.map (Value.int .i64)) rfl (World.ownsRow.alloc own _) _ 1 1 [.int .i64 z] rfl rfl (cell_one_new _ _ _) (by simp [Value.oneCell']) (by unfold maxLen; omega) (by omega) (by simp; omega) ?_; intro v2 w2 own2 gr2 hn2))
          go_roundg (gk - 1)
          case measure => have := HK.out; omega
          case rel => exact ⟨k + 1, by have := HK.out; omega, by go_num, by rw [HS.out, HA.out]; rfl, by rw [HL1.out (by simp)]; exact own_onemore own2, (bel.alloc hs _).grown gr2 (by simp; omega) (fun j hj => (own.lt j hj).1)⟩
        · go_wp2_with (first | (go_at_call 31; refine (index_any _ _).mono ?_; (first | rw [HJ.out] | rw [HJn.out]); rintro e w' ⟨rfl, hw'⟩; obtain rfl := hw'.symm))
          go_roundg (gk - 1)
          case measure => have := HK.out; omega
          case rel => exact ⟨k + 1, by have := HK.out; omega, by go_num, by rw [HS.out, HA.out]; rfl, by rw [HL2.out (by simp)]; exact own, bel⟩
      · go_wp2_with (go_at_call 31; refine (index_any _ _).mono ?_; rw [HJ.out]; rintro e w' ⟨rfl, hw'⟩; obtain rfl := hw'.symm)
        go_ret2
        exact ⟨_, ret_pair (by rw [HE.out (by simp)]; rfl), fun h => absurd (HE.out (by simp)) (by rw [h]; simp), bel⟩
    · obtain rfl : k = zs.length := by omega
      have HE : Hid (remG part zs = false) := by have := HA.out; rw [List.take_length] at this; exact this
      rw [List.take_length] at own
      clear hk
      go_wp2
      go_ret2
      exact ⟨_, ret_pair (by rw [HE.out]; rfl), fun _ => own, bel⟩

set_option maxHeartbeats 1600000 in
theorem rHasInt_any (v : Value) (zs : List Int) (l : Int) (w : World) (hr : Rd w v zs) :
    Calls Try.prog 35 #[v, .int .i64 l] w fun e w' => e = .returned (.bool (zs.contains l)) ∧ w' = w := by
  have hl := hr.len
  obtain ⟨a, c, rfl, hc, hm, hcell⟩ := hr.form
  have HC : Hid (∀ k, k < zs.length → ∃ b off, a = some ⟨b, off, none⟩ ∧ w.cell? ⟨b, off + k, none⟩ = some (.int .i64 (zs.getD k 0))) := hcell
  clear hcell hr
  go_enter Try.func35, Try.ntmps35
  go_wp2
  go_loopg [5] zs.length (fun g i wr => ∃ k : Nat, k + g = zs.length ∧ i = .int .i64 k ∧ (zs.take k).contains l = false ∧ wr = w)
  case atStart => exact ⟨0, by omega, rfl, by simp, rfl⟩
  case round =>
    obtain ⟨k, hk, rfl, hall, rfl⟩ := hrel
    have HA : Hid ((zs.take k).contains l = false) := hall
    have HK : Hid (k + gk = zs.length) := hk
    clear hall
    by_cases hlt : k < zs.length
    · obtain ⟨b, off, rfl, hck⟩ := HC.out k hlt
      have HS : Hid ((zs.take (k + 1)).contains l = ((zs.take k).contains l || (l == zs.getD k 0))) := contains_more zs k hlt l
      have HE : Hid (l = zs.getD k 0 → zs.contains l = true) := fun e => by rw [List.contains_iff_mem, e]; exact getD_mem' hlt
      clear hk
      generalize zs.getD k 0 = z at *
      cases hf : (z == l)
      · go_wp2
        go_roundg (gk - 1)
        case measure => have := HK.out; omega
        case rel => exact ⟨k + 1, by have := HK.out; omega, by go_num, by rw [HS.out, HA.out, Bool.false_or]; rw [beq_eq_false_iff_ne] at hf ⊢; exact fun e => hf e.symm, rfl⟩
      · go_wp2
        go_ret
        exact ⟨ret_bool (HE.out (beq_iff_eq.1 hf).symm).symm, rfl⟩
    · obtain rfl : k = zs.length := by omega
      have HE : Hid (zs.contains l = false) := by have := HA.out; rw [List.take_length] at this; exact this
      clear hk
      go_wp2
      go_ret
      exact ⟨ret_bool HE.out.symm, rfl⟩

end Go.Proofs.Ytbnnoajpmmbpbaa
