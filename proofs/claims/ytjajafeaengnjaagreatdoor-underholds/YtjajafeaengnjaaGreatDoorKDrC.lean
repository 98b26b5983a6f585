/-
  CopySteps, SameSteps, walked.
  KEEP: on app start at below new trans refl kept rd mono form rdz row own ap len
-/
import Derived.Test.YtjajafeaengnjaaGreatDoorKDrM
import Derived.Test.YtjajafeaengnjaaGreatDoorKCopy
import Derived.Test.YtjajafeaengnjaaGreatDoorJForms
import Derived.Handy
import Derived.Deep.RegionWith
import Derived.Deep.QuietTactic
import Derived.Deep.RegionHeld
import Derived.Deep.CutRange
import Derived.Sort.AtCall
set_option linter.unusedSimpArgs false
set_option linter.unusedVariables false
namespace Go.Proofs.YtjajafeaengnjaaGreatDoor
open Go Go.RowKit

theorem cell_two_new9 (w : World) (x y : Value) (t : TypeId) : ∀ j u, [x, y][j]? = some u → (w.alloc (.cells #[x, y] t)).cell? ((⟨w.heap.size, 0, none⟩ : Addr).add j) = some u := by
  intro j u hu
  have hadd : (⟨w.heap.size, 0, none⟩ : Addr).add j = ⟨w.heap.size, j, none⟩ := by unfold Addr.add; split <;> simp_all
  rw [hadd, World.cell?_alloc_mark]
  simpa using hu

set_option maxHeartbeats 1600000 in
theorem copySteps_any (s : Value) (l : List Stp) (w : World) (hr : RdZ w s l) :
    Calls Tryz.prog 7 #[s] w fun e w' => ∃ u, e = .returned u ∧ OwnS w.heap.size w' u l ∧ Below w.heap.size w w' := by
  have hl := hr.len
  have HR : Hid (RdZ w s l) := hr
  obtain ⟨a, c, rfl, hc, hm, _⟩ := hr.form
  obtain ⟨il, hil, hzl0, hzl1, hzl2⟩ := info_parts infoZ
  clear hr
  go_enter Tryz.func7, Tryz.ntmps7
  go_wp2
  go_loopg [3, 4] l.length (fun g u i wr => ∃ (k : Nat) (L : List SV), k + g = l.length ∧ i = .int .i64 k ∧ L.length = k ∧ svS L = l.take k ∧ Hid (OwnZ w.heap.size wr u L) ∧ Below w.heap.size w wr)
  case atStart => exact ⟨0, [], by omega, rfl, rfl, by simp [svS], OwnZ.nil _ _, Below.refl _ _⟩
  case round =>
    obtain ⟨k, L, hk, rfl, hLk, hL, HO, bel⟩ := hrel
    have HK : Hid (k + gk = l.length) := hk
    have HLs : Hid (svS L = l.take k) := hL
    have hs := bel.size
    have HLk : Hid (L.length = k) := hLk
    have hLk2 : L.length ≤ k := by omega
    clear hL hLk
    by_cases hlt : k < l.length
    · obtain ⟨a', c', e', _, _, hcell⟩ := HR.out.form
      have e3 : a' = a ∧ c' = c := by injection e' with q1 q2 q3; exact ⟨q1.symm, q3.symm⟩
      obtain ⟨rfl, rfl⟩ := e3
      obtain ⟨b, off, u, rfl, hbl, hd0, hu0, hr0⟩ := hcell k hlt
      have hd := (bel.cell (p := ⟨b, off + k * 2, none⟩) hbl).trans hd0
      have hu1 := (bel.cell (p := ⟨b, off + k * 2 + 1, none⟩) hbl).trans hu0
      have HU : Hid (Rd wr u (l.getD k (false, [])).2) := hr0.below bel
      have HS : Hid (l.take (k + 1) = l.take k ++ [l.getD k (false, [])]) := take_succ_getD l (false, []) k hlt
      obtain ⟨_, ua, uc, hu, _⟩ := hr0
      clear hk hcell e' hd0 hu0
      generalize l.getD k (false, []) = xk at *
      obtain ⟨dd, z⟩ := xk
      dsimp only at *
      subst hu
      go_wp2_with fail
      refine (copyInts_any _ z wr HU.out).mono ?_
      rintro e w2 ⟨u2, rfl, own2, bel2⟩
      obtain ⟨a2, c2, hu2⟩ := own_form own2
      subst hu2
      have O2 : Hid (Own w.heap.size w2 (.slice a2 z.length c2) z) := own2.mono hs
      have HO2 : Hid (OwnZ w.heap.size w2 _ L) := HO.out.below bel2
      have HAP : Hid (ApartC ((L ++ [(dd, Value.slice a2 z.length c2, z)]).map Prod.snd)) := by
        show ApartC _
        rw [List.map_append]
        exact ApartC.snoc (W := wr) HO.out.ap (fun x hx => by obtain ⟨y, hy, rfl⟩ := List.mem_map.1 hx; exact HO.out.own y hy) own2 (Nat.le_refl _)
      have b2 : Below w.heap.size w w2 := bel.trans (bel2.mono hs)
      have s2 := b2.size
      have hd2 := (bel2.cell (p := ⟨b, off + k * 2, none⟩) (by show b < _; omega)).trans hd
      clear own2 bel2 hd hu1
      go_wp2_with (at_builtin; refine wpList_append_own _ rfl _ _ 26 rfl w.heap.size 32 il (.agg #[.bool false, .slice none 0 0]) 2 32 Tryz.underlying26 hil hzl0 hzl1 hzl2 rfl (by decide) _ L.length (svC L) rfl (World.ownsRow.alloc HO2.out.row _) _ 1 1 [.bool dd, .slice a2 z.length c2] rfl rfl (cell_two_new9 _ _ _ _) (by simp [Value.oneCell']) (by unfold maxLen; omega) (by omega) (by simp; omega) ?_; intro v3 w3 own3 gr3 hn3)
      go_roundg (gk - 1)
      case measure => have := HK.out; omega
      case rel => exact ⟨k + 1, L ++ [(dd, Value.slice a2 z.length c2, z)], by have := HK.out; omega, by go_num, by simp; exact HLk.out, by rw [HS.out, svS_snoc, HLs.out], HO2.out.app (World.grownBy_alloc _ _ none) own3 gr3 O2.out HAP.out, (b2.alloc s2 _).grown gr3 (by simp; omega) (fun j hj => (World.ownsRow.lt HO2.out.row j hj).1)⟩
    · obtain rfl : k = l.length := by omega
      have HE : Hid (svS L = l) := by have := HLs.out; rw [List.take_length] at this; exact this
      clear hk
      go_wp2
      go_ret
      exact ⟨_, rfl, ⟨L, HO.out, HE.out⟩, bel⟩

theorem beq_stp (a b : Stp) : (a == b) = (a.1 == b.1 && a.2 == b.2) := rfl

end Go.Proofs.YtjajafeaengnjaaGreatDoor
