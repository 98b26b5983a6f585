/-
  From a row's reading of bytes and of a uint64 to what they are.
-/
import Derived.Test.YtilcokpaeapmeaaDoorJOpenU
import Derived.Test.YtilcokpaeapmeaaDoorKByT
set_option linter.unusedVariables false
set_option linter.unusedSimpArgs false
namespace Go.Proofs.YtilcokpaeapmeaaDoor
open Go.RowKit Go.ChangeShapes Go.WideShapes Go.Deep

theorem wf_u8 {n : Int} (h : (Lit.int .u8 n).wf = true) : 0 ≤ n ∧ n < 256 := by
  unfold Lit.wf at h
  simp [IntKind.min, IntKind.max, IntKind.bits, IntKind.signed] at h
  omega
theorem wf_u64 {n : Int} (h : (Lit.int .u64 n).wf = true) : 0 ≤ n ∧ n < 18446744073709551616 := by
  unfold Lit.wf at h
  simp [IntKind.min, IntKind.max, IntKind.bits, IntKind.signed] at h
  omega
set_option maxRecDepth 100000 in
/-- bytes, and how many they are at most -/
theorem bytes_open {H : Type} {enc : TypeId × Value → H} {W : World} {r : Reach} {b0 : Nat} {v : Value} {d : DataW H} {p : List MemPlace} (hv : Value.okWide Tryd.prog W r b0 44 v)
    (h : DataW.Trod enc Tryd.prog W 0 (fun _ => true) true 44 v d p) (hd : Rows.uptoBulk d ≤ 1048576) :
    ∃ T, RdY W v T ∧ T.length ≤ Rows.uptoBulk d := by
  obtain ⟨a, n, c, rfl⟩ := okWide_slice Tryd.underlying44 hv
  obtain ⟨fuel, hf⟩ := h
  rcases open_ints Tryd.underlying44 Tryd.underlying5 (by kernel_rfl) hf with ⟨hcs, _⟩ | ⟨x, l, c', zs, hcs, _, hl, hm, hz, hx, hcell, hwz⟩
  · simp [Value.cells] at hcs
    obtain ⟨rfl, rfl, rfl⟩ := hcs
    exact ⟨[], RdY.nil _, Nat.zero_le _⟩
  · simp [Value.cells] at hcs
    obtain ⟨rfl, rfl, rfl⟩ := hcs
    have hd' := congrArg Prod.fst hx
    simp only at hd'
    subst hd'
    have hzl : zs.length = c := by simpa using hz
    have hlen : ((zs.take n).map (fun z => UInt8.ofNat z.toNat)).length = n := by simp; omega
    have hbk : n ≤ Rows.uptoBulk (DataW.slice (H := H) (lits .u8 (zs.take n)) (lits .u8 (zs.drop n))) := by
      have h1 := bulk_len (lits (H := H) .u8 (zs.take n))
      simp only [Rows.uptoBulk]
      simp only [lits, List.length_map, List.length_take] at h1 ⊢
      omega
    refine ⟨(zs.take n).map (fun z => UInt8.ofNat z.toNat), ⟨by rw [hlen]; omega, some x, c, by rw [hlen], by rw [hlen]; exact hl, hm, fun h => (by cases h), fun hne => ?_⟩, by rw [hlen]; exact hbk⟩
    have hp : 0 < n := by rw [← hlen]; exact List.length_pos_iff.2 hne
    obtain ⟨b, off, spot⟩ := x
    have hspot : spot = none := by simpa [Addr.add] using World.cell?_spot (hcell 0 (by omega))
    subst hspot
    have hc : ∀ j, j < n → W.cell? ⟨b, off + j, none⟩ = some (.int .u8 (zs.getD j 0)) := fun j hj => by have := hcell j (by omega); rwa [Addr.add_lit] at this
    refine ⟨b, off, rfl, World.block_lt_of_cell? W ⟨b, off + 0, none⟩ (hc 0 hp), fun j hj => ?_⟩
    rw [hlen] at hj
    rw [hc j hj]
    have hj2 : j < zs.length := by omega
    have hw := wf_u8 (hwz zs[j] (List.getElem_mem hj2))
    have e : (((zs.take n).map (fun z => UInt8.ofNat z.toNat)).getD j 0) = UInt8.ofNat zs[j].toNat := by simp [List.getD_eq_getElem?_getD, hj, hj2, List.getElem?_take]
    rw [e]
    have e2 : zs.getD j 0 = zs[j] := by simp [List.getD_eq_getElem?_getD, hj2]
    rw [e2]
    congr 2
    simp [UInt8.toNat_ofNat']
    omega

theorem bytesU8 : Tryd.prog.bytesOf 5 = 1 := by kernel_rfl
set_option maxRecDepth 100000 in
/-- bytes within the reach -/
theorem bytes_full {H : Type} {enc : TypeId × Value → H} {W : World} {r : Reach} {b0 : Nat} {v : Value} {d : DataW H} {p : List MemPlace} (hv : Value.okWide Tryd.prog W r b0 44 v)
    (h : DataW.Trod enc Tryd.prog W 0 (fun _ => true) true 44 v d p) (hs : ∀ n ∈ d.weights Tryd.prog 44, n ≤ reachBytes) :
    ∃ T, RdY W v T ∧ T.length ≤ 140737488351232 := by
  obtain ⟨a, n, c, rfl⟩ := okWide_slice Tryd.underlying44 hv
  obtain ⟨fuel, hf⟩ := h
  rcases open_ints Tryd.underlying44 Tryd.underlying5 (by kernel_rfl) hf with ⟨hcs, _⟩ | ⟨x, l, c', zs, hcs, _, hl, hm, hz, hx, hcell, hwz⟩
  · simp [Value.cells] at hcs
    obtain ⟨rfl, rfl, rfl⟩ := hcs
    exact ⟨[], RdY.nil _, Nat.zero_le _⟩
  · simp [Value.cells] at hcs
    obtain ⟨rfl, rfl, rfl⟩ := hcs
    have hd' := congrArg Prod.fst hx
    simp only at hd'
    subst hd'
    have hzl : zs.length = c := by simpa using hz
    have hlen : ((zs.take n).map (fun z => UInt8.ofNat z.toNat)).length = n := by simp; omega
    have hbk : n ≤ 140737488351232 := by
      have := hs (((lits (H := H) .u8 (zs.take n)).length + (lits (H := H) .u8 (zs.drop n)).length) * Tryd.prog.bytesOf 5) (by
        unfold DataW.weights; rw [Tryd.underlying44]; exact List.mem_cons_self ..)
      rw [bytesU8] at this
      simp [lits, reachBytes] at this
      omega
    refine ⟨(zs.take n).map (fun z => UInt8.ofNat z.toNat), ⟨by rw [hlen]; omega, some x, c, by rw [hlen], by rw [hlen]; exact hl, hm, fun h => (by cases h), fun hne => ?_⟩, by rw [hlen]; exact hbk⟩
    have hp : 0 < n := by rw [← hlen]; exact List.length_pos_iff.2 hne
    obtain ⟨b, off, spot⟩ := x
    have hspot : spot = none := by simpa [Addr.add] using World.cell?_spot (hcell 0 (by omega))
    subst hspot
    have hc : ∀ j, j < n → W.cell? ⟨b, off + j, none⟩ = some (.int .u8 (zs.getD j 0)) := fun j hj => by have := hcell j (by omega); rwa [Addr.add_lit] at this
    refine ⟨b, off, rfl, World.block_lt_of_cell? W ⟨b, off + 0, none⟩ (hc 0 hp), fun j hj => ?_⟩
    rw [hlen] at hj
    rw [hc j hj]
    have hj2 : j < zs.length := by omega
    have hw := wf_u8 (hwz zs[j] (List.getElem_mem hj2))
    have e : (((zs.take n).map (fun z => UInt8.ofNat z.toNat)).getD j 0) = UInt8.ofNat zs[j].toNat := by simp [List.getD_eq_getElem?_getD, hj, hj2, List.getElem?_take]
    rw [e]
    have e2 : zs.getD j 0 = zs[j] := by simp [List.getD_eq_getElem?_getD, hj2]
    rw [e2]
    congr 2
    simp [UInt8.toNat_ofNat']
    omega

end Go.Proofs.YtilcokpaeapmeaaDoor
