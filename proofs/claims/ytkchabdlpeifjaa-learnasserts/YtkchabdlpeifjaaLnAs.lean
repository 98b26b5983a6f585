/-
  learn: where, shaped, index of the statements; what a clause that is learnt is (pure).
  KEEP: len below nil form rd mono one more grown lt size cell some none of ofNat add out step row get at mk new made look put del kept drew alloc has same other map rde take lit lev lstB pre ws cells bnd on start app set box bel rz tidy ms reason c f max lv
-/
import Derived.Test.YtkchabdlpeifjaaLnAw
import Derived.Test.YtkchabdlpeifjaaLnRc
import Derived.Test.YtkchabdlpeifjaaLnX
set_option linter.unusedSimpArgs false
set_option linter.unusedVariables false
namespace Go.Proofs.Ytkchabdlpeifjaa
open Go Go.RowKit
set_option maxHeartbeats 1600000 in
theorem where_any (v : Value) (t : List Ent) (x : Int) (w : World) (hr : RdE w v t) (hw : Ws t) (hx : isF t x = true) :
    Calls Try.prog 23 #[v, .int .i64 x] w fun e w' => e = .returned (.tuple #[.int .i64 (lvl t x), .int .i64 (plN t x : Int)]) ∧ w' = w := by
  have hl := hr.len
  obtain ⟨hfx, hxl, _, hxv, hxp⟩ := hw.isF_at hx
  have hxr := fmd_range hfx
  have hwr : IntKind.i64.wrap (-x) = -x := by rw [IntKind.wrap_i64]; omega
  obtain ⟨a, c, rfl, hc, hm, hcell⟩ := hr.form
  have HC : Hid (∀ k, k < t.length → ∃ b off u, a = some ⟨b, off, none⟩ ∧ b < w.heap.size ∧ w.cell? ⟨b, off + k * 3, none⟩ = some (.int .i64 (t.getD k e0).1) ∧ w.cell? ⟨b, off + k * 3 + 1, none⟩ = some (.int .i64 (t.getD k e0).2.1) ∧ w.cell? ⟨b, off + k * 3 + 2, none⟩ = some u ∧ Rd w u (t.getD k e0).2.2) := hcell
  have HP : Hid (plc t x = some (plN t x)) := hxp
  have HV : Hid (lvl t x = (t.getD (plN t x) e0).2.1) := hxv
  clear hcell hr hxp hxv hx hw
  go_enter Try.func23, Try.ntmps23
  go_wp2
  go_loopg [6] t.length (fun g i wr => ∃ k : Nat, k + g = t.length ∧ i = .int .i64 k ∧ plc (t.take k) x = none ∧ wr = w)
  case atStart => exact ⟨0, by omega, rfl, rfl, rfl⟩
  case round =>
    obtain ⟨k, hk, rfl, hall, rfl⟩ := hrel
    have HA : Hid (plc (t.take k) x = none) := hall
    have HK : Hid (k + gk = t.length) := hk
    clear hall
    by_cases hlt : k < t.length
    · obtain ⟨b, off, u, rfl, hbl, c0, c1, c2, _⟩ := HC.out k hlt
      have HM : Hid (plc (t.take (k + 1)) x = if (t.getD k e0).1 = -x then some k else none) := plc_more hlt HA.out
      by_cases hf : (t.getD k e0).1 = -x
      · have hkp : plN t x = k := by
          have := plc_stays (k := k + 1) (by rw [HM.out, if_pos hf])
          rw [HP.out] at this
          exact Option.some.inj this
        have HE1 : Hid (lvl t x = (t.getD k e0).2.1) := by rw [← hkp]; exact HV.out
        have HE2 : Hid (plN t x = k) := hkp
        rw [hf] at c0
        clear hk c2 HM hf hkp
        generalize (t.getD k e0).2.1 = lv at *
        go_wp2
        go_ret2
        exact ⟨by rw [HE1.out, HE2.out]; rfl, rfl⟩
      · have HN : Hid (plc (t.take (k + 1)) x = none) := by show _ = _; rw [HM.out, if_neg hf]
        have hfb : ((t.getD k e0).1 == -x) = false := by simpa using hf
        clear hk c1 c2 HM hf
        generalize (t.getD k e0).1 = z at *
        go_wp2
        go_roundg (gk - 1)
        case measure => have := HK.out; omega
        case rel => exact ⟨k + 1, by have := HK.out; omega, by go_num, HN.out, rfl⟩
    · obtain rfl : k = t.length := by omega
      have := HA.out
      rw [List.take_length, HP.out] at this
      cases this
theorem fmd_not (x : Int) : fmd x = !(x == 0 || decide (1048576 < x) || decide (x < -1048576)) := by
  rcases fmd_cases x with ⟨h, h0, h1, h2⟩ | ⟨h, h0⟩
  · rw [h, beq_eq_false_iff_ne.2 h0, decide_eq_false (by omega), decide_eq_false (by omega)]; rfl
  · rw [h]
    rcases h0 with h0 | h0 | h0
    · rw [h0]; rfl
    · rw [decide_eq_true h0]; simp
    · rw [decide_eq_true h0]; simp
set_option maxHeartbeats 1600000 in
theorem shaped15_any (v : Value) (zs : List Int) (w : World) (hr : Rd w v zs) :
    Calls Try.prog 21 #[v] w fun e w' => e = .returned (.bool (zs.all fmd)) ∧ w' = w := by
  have hl := hr.len
  obtain ⟨a, c, rfl, hc, hm, hcell⟩ := hr.form
  have HC : Hid (∀ k, k < zs.length → ∃ b off, a = some ⟨b, off, none⟩ ∧ w.cell? ⟨b, off + k, none⟩ = some (.int .i64 (zs.getD k 0))) := hcell
  clear hcell hr
  go_enter Try.func21, Try.ntmps21
  go_wp2
  go_loopg [3] zs.length (fun g i wr => ∃ k : Nat, k + g = zs.length ∧ i = .int .i64 k ∧ (zs.take k).all fmd = true ∧ wr = w)
  case atStart => exact ⟨0, by omega, rfl, rfl, rfl⟩
  case round =>
    obtain ⟨k, hk, rfl, hall, rfl⟩ := hrel
    have HA : Hid ((zs.take k).all fmd = true) := hall
    have HK : Hid (k + gk = zs.length) := hk
    clear hall
    by_cases hlt : k < zs.length
    · obtain ⟨b, off, rfl, hck⟩ := HC.out k hlt
      have HS : Hid ((zs.take (k + 1)).all fmd = ((zs.take k).all fmd && fmd (zs.getD k 0))) := all_take_succ zs k hlt
      rcases fmd_cases (zs.getD k 0) with ⟨hf, h0, h1, h2⟩ | ⟨hf, h0⟩
      · have HT : Hid ((zs.take (k + 1)).all fmd = true) := by show _ = _; rw [HS.out, HA.out, hf]; rfl
        have h0b : (zs.getD k 0 == 0) = false := by simpa using h0
        have h1' : ¬ 1048576 < zs.getD k 0 := by omega
        have h2' : ¬ zs.getD k 0 < -1048576 := by omega
        clear hk hf h0 h1 h2
        generalize zs.getD k 0 = z at *
        go_wp2
        go_roundg (gk - 1)
        case measure => have := HK.out; omega
        case rel => exact ⟨k + 1, by have := HK.out; omega, by go_num, HT.out, rfl⟩
      · have HF : Hid (zs.all fmd = false) := all_false_of hlt hf
        clear hk hf
        generalize zs.getD k 0 = z at *
        rcases h0 with h0 | h0 | h0
        · have h0b : (z == 0) = true := by simpa using h0
          go_wp2
          go_ret
          exact ⟨ret_bool HF.out.symm, rfl⟩
        · have h0b : (z == 0) = false := by simp; omega
          have h1' : ¬ 1048576 < z := by omega
          go_wp2
          go_ret
          exact ⟨ret_bool HF.out.symm, rfl⟩
        · have h0b : (z == 0) = false := by simp; omega
          go_wp2
          go_ret
          exact ⟨ret_bool HF.out.symm, rfl⟩
    · obtain rfl : k = zs.length := by omega
      have HE : Hid (zs.all fmd = true) := by have := HA.out; rw [List.take_length] at this; exact this
      clear hk
      go_wp2
      go_ret
      exact ⟨ret_bool HE.out.symm, rfl⟩
theorem index15_any (x : Int) (w : World) (hx : fmd x = true) : Calls Try.prog 24 #[.int .i64 x] w fun e w' => e = .returned (.int .i64 (idx x)) ∧ w' = w := by
  have hr := fmd_range hx
  have h1 : IntKind.i64.wrap (-2 * x) = -2 * x := by rw [IntKind.wrap_i64]; omega
  have h2 : IntKind.i64.wrap (2 * x) = 2 * x := by rw [IntKind.wrap_i64]; omega
  have h3 : IntKind.i64.wrap (-2 * x - 1) = -2 * x - 1 := by rw [IntKind.wrap_i64]; omega
  have h4 : IntKind.i64.wrap (2 * x - 2) = 2 * x - 2 := by rw [IntKind.wrap_i64]; omega
  by_cases hn : x < 0
  · have HE : Hid (idx x = -2 * x - 1) := (there_neg hx hn).1
    clear hx
    go_enter Try.func24, Try.ntmps24
    go_wp2
    go_ret
    exact ⟨ret_int HE.out.symm, rfl⟩
  · have HE : Hid (idx x = 2 * x - 2) := (there_pos hx (by omega)).1
    clear hx
    go_enter Try.func24, Try.ntmps24
    go_wp2
    go_ret
    exact ⟨ret_int HE.out.symm, rfl⟩
/-- what is learnt: the first literal alone of the greatest level, none of level 0, the others rising -/
theorem lrn_is {t : List Ent} (h : Ws t) {zs : List Int} (hf : falB t zs = true) (hL : topI t zs ≠ 0) :
    (∀ x ∈ lrnC t zs, isF t x = true ∧ 1 ≤ lvl t x) ∧ 0 < (lrnC t zs).length ∧ (∀ i, i < (lrnC t zs).length → (lvl t ((lrnC t zs).getD i 0) = topI t zs ↔ i = 0)) ∧ ((lrnC t zs).drop 1).Pairwise (fun a b => idx a < idx b) ∧ lrnB t zs = topI t ((lrnC t zs).drop 1) ∧ 0 ≤ lrnB t zs ∧ lrnB t zs < topI t zs := by
  obtain ⟨hc, hi⟩ := RS_end h hf hL
  have hLp : 0 < topI t zs := by have := (topI_is t zs).1; omega
  have e1 : lrnC t zs = oneL t (topI t zs) (RS t zs) :: tid (othL t (topI t zs) (RS t zs)) := by unfold lrnC; rw [if_neg hL]
  have e2 : lrnB t zs = topI t (othL t (topI t zs) (RS t zs)) := by unfold lrnB; rw [if_neg hL]
  generalize topI t zs = L at *
  generalize RS t zs = R at *
  obtain ⟨p, h1, h2, h3⟩ := cn_pos t L R t.length (by omega)
  have hone : oneL t L R = opP t p := by
    have hl : opP t p ∈ (ltS t R).filter fun x => lvl t x == L := List.mem_filter.2 ⟨ltS_mem.2 ⟨p, h1, h2, rfl⟩, by rw [h.lvl_opP h1, h3]; simp⟩
    have hall : ∀ x ∈ (ltS t R).filter (fun x => lvl t x == L), x = opP t p := fun x hx => by
      obtain ⟨k1, k2⟩ := List.mem_filter.1 hx
      obtain ⟨q, q1, q2, rfl⟩ := ltS_mem.1 k1
      rw [h.lvl_opP q1] at k2
      rw [cn_one t L R t.length hc q1 h1 q2 h2 (by simpa using k2) h3]
    unfold oneL
    generalize (ltS t R).filter (fun x => lvl t x == L) = l at hl hall
    match l, hl with
    | y :: r, _ => exact hall y (by simp)
  have hoth : ∀ x ∈ tid (othL t L R), isF t x = true ∧ 1 ≤ lvl t x ∧ lvl t x < L := fun x hx => by
    obtain ⟨k1, k2⟩ := List.mem_filter.1 (mem_tid.1 hx).1
    obtain ⟨q, q1, q2, rfl⟩ := ltS_mem.1 k1
    rw [Bool.and_eq_true, bne_iff_ne, bne_iff_ne] at k2
    have hv := h.lvl_opP q1
    have := hi.lev q q2
    have := (h.lev q q1).1
    have e : lvP t q = (t.getD q e0).2.1 := rfl
    exact ⟨(h.opP_at q1).2.1, by omega, by omega⟩
  have hcg : topI t (othL t L R) = topI t (tid (othL t L R)) := topI_congr t fun x => ⟨fun hx => mem_tid.2 ⟨hx, h.ltS_fmd (List.mem_filter.1 hx).1⟩, fun hx => (mem_tid.1 hx).1⟩
  have hlt : topI t (othL t L R) < L := by
    rcases (topI_is t (tid (othL t L R))).2.2 with e | ⟨x, hx, e⟩
    · omega
    · have := (hoth x hx).2.2; omega
  rw [e1, e2, hone]
  refine ⟨fun x hx => ?_, by simp, fun i hi' => ?_, ?_, ?_, ?_, hlt⟩
  · rcases List.mem_cons.1 hx with rfl | hx
    · exact ⟨(h.opP_at h1).2.1, by rw [h.lvl_opP h1]; omega⟩
    · exact ⟨(hoth x hx).1, (hoth x hx).2.1⟩
  · cases i with
    | zero =>
      simp only [List.getD_cons_zero]
      rw [h.lvl_opP h1]; simp [h3]
    | succ i =>
      simp only [List.getD_cons_succ]
      have hm := getD_mem' (l := tid (othL t L R)) (k := i) (d := 0) (by simpa using hi')
      have := (hoth _ hm).2.2
      constructor
      · intro e; omega
      · intro e; cases e
  · exact tid_rising _
  · exact hcg
  · exact (topI_is t _).1
end Go.Proofs.Ytkchabdlpeifjaa
