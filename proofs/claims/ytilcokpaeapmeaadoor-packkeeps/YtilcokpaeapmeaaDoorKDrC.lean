/-
  CopySteps, SameSteps, walked.
  KEEP: on app start at below new trans refl kept rd mono form rdz row own ap len
-/
import Derived.Test.YtilcokpaeapmeaaDoorJAppK
import Derived.Test.YtilcokpaeapmeaaDoorKCopy
import Derived.Test.YtilcokpaeapmeaaDoorJForms
import Derived.Handy
import Derived.Deep.RegionWith
import Derived.Deep.QuietTactic
import Derived.Deep.RegionHeld
import Derived.Deep.CutRange
import Derived.Sort.AtCall
set_option linter.unusedSimpArgs false
set_option linter.unusedVariables false
namespace Go.Proofs.YtilcokpaeapmeaaDoor
open Go Go.RowKit

theorem cell_two_new9 (w : World) (x y : Value) (t : TypeId) : ∀ j u, [x, y][j]? = some u → (w.alloc (.cells #[x, y] t)).cell? ((⟨w.heap.size, 0, none⟩ : Addr).add j) = some u := by
  intro j u hu
  have hadd : (⟨w.heap.size, 0, none⟩ : Addr).add j = ⟨w.heap.size, j, none⟩ := by unfold Addr.add; split <;> simp_all
  rw [hadd, World.cell?_alloc_mark]
  simpa using hu

set_option maxHeartbeats 1600000 in
theorem copySteps_any (s : Value) (l : List Stp) (w : World) (hr : RdZ w s l) :
    Calls Tryd.prog 9 #[s] w fun e w' => ∃ u, e = .returned u ∧ OwnS w.heap.size w' u l ∧ Below w.heap.size w w' := by
  have hl := hr.len
  have HR : Hid (RdZ w s l) := hr
  obtain ⟨a, c, rfl, hc, hm, _⟩ := hr.form
  obtain ⟨il, hil, hzl0, hzl1, hzl2⟩ := info_parts infoZ
  clear hr
  go_enter Tryd.func9, Tryd.ntmps9
  go_wp2
  go_loopg [3, 4] l.length (fun g u i wr => ∃ (k : Nat) (L : List SV), k + g = l.length ∧ i = .int .i64 k ∧ L.length = k ∧ svS L = l.take k ∧ Hid (OwnZ w.heap.size wr u L) ∧ Below w.heap.size w wr)
  case atStart => exact ⟨0, [], by omega, rfl, rfl, by simp [svS], OwnZ.nil _ _, Below.refl _ _⟩
  case round =>
    obtain ⟨k, L, hk, rfl, hLk, hL, HO, bel⟩ := hrel
    have HK : Hid (k + gk = l.length) := hk
    have HLs : Hid (svS L = l.take k) := hL
    have hs := bel.size
    have HLk : Hid (L.length = k) := hLk
    have hLk2 : L.length ≤ k := by omega
    clear hL hLk
    by_cases hlt : k < l.length
    · obtain ⟨a', c', e', _, _, hcell⟩ := HR.out.form
      have e3 : a' = a ∧ c' = c := by injection e' with q1 q2 q3; exact ⟨q1.symm, q3.symm⟩
      obtain ⟨rfl, rfl⟩ := e3
      obtain ⟨b, off, u, rfl, hbl, hd0, hu0, hr0⟩ := hcell k hlt
      have hd := (bel.cell (p := ⟨b, off + k * 2, none⟩) hbl).trans hd0
      have hu1 := (bel.cell (p := ⟨b, off + k * 2 + 1, none⟩) hbl).trans hu0
      have HU : Hid (Rd wr u (l.getD k (false, [])).2) := hr0.below bel
      have HS : Hid (l.take (k + 1) = l.take k ++ [l.getD k (false, [])]) := take_succ_getD l (false, []) k hlt
      obtain ⟨_, ua, uc, hu, _⟩ := hr0
      clear hk hcell e' hd0 hu0
      generalize l.getD k (false, []) = xk at *
      obtain ⟨dd, z⟩ := xk
      dsimp only at *
      subst hu
      go_wp2_with fail
      refine (copyInts_any _ z wr HU.out).mono ?_
      rintro e w2 ⟨u2, rfl, own2, bel2⟩
      obtain ⟨a2, c2, hu2⟩ := own_form own2
      subst hu2
      have O2 : Hid (Own w.heap.size w2 (.slice a2 z.length c2) z) := own2.mono hs
      have HO2 : Hid (OwnZ w.heap.size w2 _ L) := HO.out.below bel2
      have HAP : Hid (ApartC ((L ++ [(dd, Value.slice a2 z.length c2, z)]).map Prod.snd)) := by
        show ApartC _
        rw [List.map_append]
        exact ApartC.snoc (W := wr) HO.out.ap (fun x hx => by obtain ⟨y, hy, rfl⟩ := List.mem_map.1 hx; exact HO.out.own y hy) own2 (Nat.le_refl _)
      have b2 : Below w.heap.size w w2 := bel.trans (bel2.mono hs)
      have s2 := b2.size
      have hd2 := (bel2.cell (p := ⟨b, off + k * 2, none⟩) (by show b < _; omega)).trans hd
      clear own2 bel2 hd hu1
      go_wp2_with (at_builtin; refine wpList_append_own _ rfl _ _ 22 rfl w.heap.size 61 il (.agg #[.bool false, .slice none 0 0]) 2 32 Tryd.underlying22 hil hzl0 hzl1 hzl2 rfl (by decide) _ L.length (svC L) rfl (World.ownsRow.alloc HO2.out.row _) _ 1 1 [.bool dd, .slice a2 z.length c2] rfl rfl (cell_two_new9 _ _ _ _) (by simp [Value.oneCell']) (by unfold maxLen; omega) (by omega) (by simp; omega) ?_; intro v3 w3 own3 gr3 hn3)
      go_roundg (gk - 1)
      case measure => have := HK.out; omega
      case rel => exact ⟨k + 1, L ++ [(dd, Value.slice a2 z.length c2, z)], by have := HK.out; omega, by go_num, by simp; exact HLk.out, by rw [HS.out, svS_snoc, HLs.out], HO2.out.app (World.grownBy_alloc _ _ none) own3 gr3 O2.out HAP.out, (b2.alloc s2 _).grown gr3 (by simp; omega) (fun j hj => (World.ownsRow.lt HO2.out.row j hj).1)⟩
    · obtain rfl : k = l.length := by omega
      have HE : Hid (svS L = l) := by have := HLs.out; rw [List.take_length] at this; exact this
      clear hk
      go_wp2
      go_ret
      exact ⟨_, rfl, ⟨L, HO.out, HE.out⟩, bel⟩

theorem beq_stp (a b : Stp) : (a == b) = (a.1 == b.1 && a.2 == b.2) := rfl

set_option maxHeartbeats 3200000 in
set_option maxRecDepth 100000 in
theorem sameSteps_any (va vb : Value) (a b : List Stp) (w : World) (ha : RdZ w va a) (hb : RdZ w vb b) :
    Calls Tryd.prog 16 #[va, vb] w fun e w' => e = .returned (.bool (a == b)) ∧ Below w.heap.size w w' := by
  have hla := ha.len
  have hlb := hb.len
  have HA : Hid (RdZ w va a) := ha
  have HB : Hid (RdZ w vb b) := hb
  obtain ⟨aa, ca, rfl, hca, hma, _⟩ := ha.form
  obtain ⟨ab, cb, rfl, hcb, hmb, _⟩ := hb.form
  clear ha hb
  by_cases hne : a.length = b.length
  case neg =>
    have HE : Hid ((a == b) = false) := beq_no_len hne
    have hd : ((a.length : Int) == (b.length : Int)) = false := beq_eq_false_iff_ne.2 (by omega)
    go_enter Tryd.func16, Tryd.ntmps16
    go_wp2
    go_ret
    exact ⟨ret_bool HE.out.symm, Below.refl _ _⟩
  have HN : Hid (a.length = b.length) := hne
  have hd : ((a.length : Int) != (b.length : Int)) = false := by rw [bne, beq_iff_eq.2 (show (a.length : Int) = b.length by omega)]; rfl
  clear hne
  go_enter Tryd.func16, Tryd.ntmps16
  go_wp2
  go_loopg [5] a.length (fun g i wr => ∃ k : Nat, k + g = a.length ∧ i = .int .i64 k ∧ a.take k = b.take k ∧ Below w.heap.size w wr)
  case atStart => exact ⟨0, by omega, rfl, by simp, Below.refl _ _⟩
  case round =>
    obtain ⟨k, hk, rfl, hpre, bel⟩ := hrel
    have HK : Hid (k + gk = a.length) := hk
    have HP : Hid (a.take k = b.take k) := hpre
    clear hpre
    by_cases hlt : k < a.length
    · have hlt2 : k < b.length := by have := HN.out; omega
      obtain ⟨a', c', e', _, _, hcell⟩ := (HA.out.below bel).form
      have e3 : a' = aa ∧ c' = ca := by injection e' with q1 q2 q3; exact ⟨q1.symm, q3.symm⟩
      obtain ⟨rfl, rfl⟩ := e3
      obtain ⟨b1, o1, u1, rfl, hb1, hd1, hu1, hr1⟩ := hcell k hlt
      clear hcell e'
      obtain ⟨a', c', e', _, _, hcell⟩ := (HB.out.below bel).form
      have e3 : a' = ab ∧ c' = cb := by injection e' with q1 q2 q3; exact ⟨q1.symm, q3.symm⟩
      obtain ⟨rfl, rfl⟩ := e3
      obtain ⟨b2, o2, u2, rfl, hb2, hd2, hu2, hr2⟩ := hcell k hlt2
      clear hcell e'
      have HS : Hid (a.getD k (false, []) = b.getD k (false, []) → a.take (k + 1) = b.take (k + 1)) := fun h => take_eq_more hlt hlt2 HP.out h
      have HF : Hid (a.getD k (false, []) ≠ b.getD k (false, []) → (a == b) = false) := fun h => beq_no_at (d := (false, [])) h
      have HQ : Hid (∀ W, Below wr.heap.size wr W → Calls Tryd.prog 42 #[u1, u2] W fun e w' => e = .returned (.bool ((a.getD k (false, [])).2 == (b.getD k (false, [])).2)) ∧ Below W.heap.size W w') := fun W h => sameInts_any u1 u2 _ _ W (hr1.below h) (hr2.below h)
      obtain ⟨_, ua, uc, hua, _⟩ := hr1
      obtain ⟨_, ub, ud, hub, _⟩ := hr2
      subst hua
      subst hub
      have HC : Hid (∀ W, Below wr.heap.size wr W → Below w.heap.size w W ∧ W.cell? ⟨b1, o1 + k * 2, none⟩ = some (.bool (a.getD k (false, [])).1) ∧ W.cell? ⟨b1, o1 + k * 2 + 1, none⟩ = some (.slice ua (a.getD k (false, [])).2.length uc) ∧ W.cell? ⟨b2, o2 + k * 2, none⟩ = some (.bool (b.getD k (false, [])).1) ∧ W.cell? ⟨b2, o2 + k * 2 + 1, none⟩ = some (.slice ub (b.getD k (false, [])).2.length ud)) := fun W h =>
        ⟨bel.trans (h.mono bel.size), (h.cell (p := ⟨b1, o1 + k * 2, none⟩) hb1).trans hd1, (h.cell (p := ⟨b1, o1 + k * 2 + 1, none⟩) hb1).trans hu1, (h.cell (p := ⟨b2, o2 + k * 2, none⟩) hb2).trans hd2, (h.cell (p := ⟨b2, o2 + k * 2 + 1, none⟩) hb2).trans hu2⟩
      clear hk
      generalize a.getD k (false, []) = x at *
      generalize b.getD k (false, []) = y at *
      obtain ⟨dx, zx⟩ := x
      obtain ⟨dy, zy⟩ := y
      dsimp only at *
      cases dx
      · cases dy
        · have HC2 : Hid (∀ W, Below wr.heap.size wr W → (fun W' => Below wr.heap.size wr W' ∧ W'.cell? ⟨b1, o1 + k * 2, none⟩ = some (.bool false) ∧ W'.cell? ⟨b1, o1 + k * 2 + 1, none⟩ = some (.slice ua zx.length uc) ∧ W'.cell? ⟨b2, o2 + k * 2, none⟩ = some (.bool false) ∧ W'.cell? ⟨b2, o2 + k * 2 + 1, none⟩ = some (.slice ub zy.length ud)) W) := fun W h => ⟨h, (HC.out W h).2⟩
          have HB0 : Hid (∀ W, Below wr.heap.size wr W → Below w.heap.size w W) := fun W h => (HC.out W h).1
          clear HC
          cases hzz : (zx == zy)
          · have HF2 : Hid ((a == b) = false) := HF.out (by intro e; injection e with e1 e2; rw [e2] at hzz; simp at hzz)
            rw [hzz] at HQ
            clear HF HS hzz
            go_upto_region 6 with fail
            go_region_held (fun W' => Below wr.heap.size wr W' ∧ W'.cell? ⟨b1, o1 + k * 2, none⟩ = some (.bool false) ∧ W'.cell? ⟨b1, o1 + k * 2 + 1, none⟩ = some (.slice ua zx.length uc) ∧ W'.cell? ⟨b2, o2 + k * 2, none⟩ = some (.bool false) ∧ W'.cell? ⟨b2, o2 + k * 2 + 1, none⟩ = some (.slice ub zy.length ud)) (first | exact HC2.out _ (Below.refl _ _).drew | exact HC2.out _ bE) (first | (go_at_call 42; refine (HQ.out _ (Below.refl _ _).drew).mono ?_; rintro e w2 ⟨rfl, bE0⟩; have bE : Below wr.heap.size wr w2 := Below.step (Below.refl _ _).drew bE0; clear bE0))
            go_wp2_with fail
            go_ret
            exact ⟨ret_bool HF2.out.symm, HB0.out _ bE⟩
          · have HS2 : Hid (a.take (k + 1) = b.take (k + 1)) := HS.out (by rw [eq_of_beq hzz])
            rw [hzz] at HQ
            clear HF HS hzz
            go_upto_region 6 with fail
            go_region_held (fun W' => Below wr.heap.size wr W' ∧ W'.cell? ⟨b1, o1 + k * 2, none⟩ = some (.bool false) ∧ W'.cell? ⟨b1, o1 + k * 2 + 1, none⟩ = some (.slice ua zx.length uc) ∧ W'.cell? ⟨b2, o2 + k * 2, none⟩ = some (.bool false) ∧ W'.cell? ⟨b2, o2 + k * 2 + 1, none⟩ = some (.slice ub zy.length ud)) (first | exact HC2.out _ (Below.refl _ _).drew | exact HC2.out _ bE) (first | (go_at_call 42; refine (HQ.out _ (Below.refl _ _).drew).mono ?_; rintro e w2 ⟨rfl, bE0⟩; have bE : Below wr.heap.size wr w2 := Below.step (Below.refl _ _).drew bE0; clear bE0))
            go_wp2_with fail
            go_roundg (gk - 1)
            case measure => have := HK.out; omega
            case rel => exact ⟨k + 1, by have := HK.out; omega, by go_num, HS2.out, HB0.out _ bE⟩
        · have HF2 : Hid ((a == b) = false) := HF.out (by simp)
          have HC2 : Hid (∀ W, Below wr.heap.size wr W → W.cell? ⟨b1, o1 + k * 2, none⟩ = some (.bool false) ∧ W.cell? ⟨b2, o2 + k * 2, none⟩ = some (.bool true)) := fun W h => ⟨(HC.out W h).2.1, (HC.out W h).2.2.2.1⟩
          clear HF HS HQ HC hu1 hu2
          go_upto_region 6 with fail
          go_quiet (fail)
          go_wp2_with fail
          go_ret
          exact ⟨ret_bool HF2.out.symm, bel.trans ((below_drewN _ _).mono bel.size)⟩
      · cases dy
        · have HF2 : Hid ((a == b) = false) := HF.out (by simp)
          have HC2 : Hid (∀ W, Below wr.heap.size wr W → W.cell? ⟨b1, o1 + k * 2, none⟩ = some (.bool true) ∧ W.cell? ⟨b2, o2 + k * 2, none⟩ = some (.bool false)) := fun W h => ⟨(HC.out W h).2.1, (HC.out W h).2.2.2.1⟩
          clear HF HS HQ HC hu1 hu2
          go_upto_region 6 with fail
          go_quiet (fail)
          go_wp2_with fail
          go_ret
          exact ⟨ret_bool HF2.out.symm, bel.trans ((below_drewN _ _).mono bel.size)⟩
        · have HC2 : Hid (∀ W, Below wr.heap.size wr W → (fun W' => Below wr.heap.size wr W' ∧ W'.cell? ⟨b1, o1 + k * 2, none⟩ = some (.bool true) ∧ W'.cell? ⟨b1, o1 + k * 2 + 1, none⟩ = some (.slice ua zx.length uc) ∧ W'.cell? ⟨b2, o2 + k * 2, none⟩ = some (.bool true) ∧ W'.cell? ⟨b2, o2 + k * 2 + 1, none⟩ = some (.slice ub zy.length ud)) W) := fun W h => ⟨h, (HC.out W h).2⟩
          have HB0 : Hid (∀ W, Below wr.heap.size wr W → Below w.heap.size w W) := fun W h => (HC.out W h).1
          clear HC
          cases hzz : (zx == zy)
          · have HF2 : Hid ((a == b) = false) := HF.out (by intro e; injection e with e1 e2; rw [e2] at hzz; simp at hzz)
            rw [hzz] at HQ
            clear HF HS hzz
            go_upto_region 6 with fail
            go_region_held (fun W' => Below wr.heap.size wr W' ∧ W'.cell? ⟨b1, o1 + k * 2, none⟩ = some (.bool true) ∧ W'.cell? ⟨b1, o1 + k * 2 + 1, none⟩ = some (.slice ua zx.length uc) ∧ W'.cell? ⟨b2, o2 + k * 2, none⟩ = some (.bool true) ∧ W'.cell? ⟨b2, o2 + k * 2 + 1, none⟩ = some (.slice ub zy.length ud)) (first | exact HC2.out _ (Below.refl _ _).drew | exact HC2.out _ bE) (first | (go_at_call 42; refine (HQ.out _ (Below.refl _ _).drew).mono ?_; rintro e w2 ⟨rfl, bE0⟩; have bE : Below wr.heap.size wr w2 := Below.step (Below.refl _ _).drew bE0; clear bE0))
            go_wp2_with fail
            go_ret
            exact ⟨ret_bool HF2.out.symm, HB0.out _ bE⟩
          · have HS2 : Hid (a.take (k + 1) = b.take (k + 1)) := HS.out (by rw [eq_of_beq hzz])
            rw [hzz] at HQ
            clear HF HS hzz
            go_upto_region 6 with fail
            go_region_held (fun W' => Below wr.heap.size wr W' ∧ W'.cell? ⟨b1, o1 + k * 2, none⟩ = some (.bool true) ∧ W'.cell? ⟨b1, o1 + k * 2 + 1, none⟩ = some (.slice ua zx.length uc) ∧ W'.cell? ⟨b2, o2 + k * 2, none⟩ = some (.bool true) ∧ W'.cell? ⟨b2, o2 + k * 2 + 1, none⟩ = some (.slice ub zy.length ud)) (first | exact HC2.out _ (Below.refl _ _).drew | exact HC2.out _ bE) (first | (go_at_call 42; refine (HQ.out _ (Below.refl _ _).drew).mono ?_; rintro e w2 ⟨rfl, bE0⟩; have bE : Below wr.heap.size wr w2 := Below.step (Below.refl _ _).drew bE0; clear bE0))
            go_wp2_with fail
            go_roundg (gk - 1)
            case measure => have := HK.out; omega
            case rel => exact ⟨k + 1, by have := HK.out; omega, by go_num, HS2.out, HB0.out _ bE⟩
    · obtain rfl : k = a.length := by omega
      have HE : Hid ((a == b) = true) := by
        have := HP.out
        rw [List.take_length, HN.out, List.take_length] at this
        show _ = _; rw [this]; simp
      clear hk
      go_wp2
      go_ret
      exact ⟨ret_bool HE.out.symm, bel⟩

end Go.Proofs.YtilcokpaeapmeaaDoor
