/-
  control.isValue, walked.
  KEEP: len below nil form rd mono rdz on app start at new trans refl kept own row ap out step each grown block Ap set
-/
import Derived.Test.YtbeaoekbppdlmaaDoorKCvD
set_option linter.unusedSimpArgs false
set_option linter.unusedVariables false
namespace Go.Proofs.YtbeaoekbppdlmaaDoor
open Go Go.RowKit

theorem pcF_mem_len : ∀ (n : Nat) (l : List UInt8), l.length ≤ n → ∀ p ∈ pcF l, p.length ≤ l.length
  | n, l, hn, p, hp => by
    have hg := cut_glue l
    have hl := congrArg List.length hg
    rw [List.length_append] at hl
    rw [pcF_cut] at hp
    rcases List.mem_cons.1 hp with rfl | hp
    · omega
    · cases h : hasN l
      · rw [h] at hp; cases hp
      · rw [h, if_pos rfl] at hp
        have h1 := cut_len l h
        match n, hn with
        | 0, hn => omega
        | n + 1, hn =>
          have := pcF_mem_len n _ (by omega) p hp
          omega
theorem spB_len (s : ByteArray) : (spB s).length = (pcF s.data.toList).length := by rw [← spB_pc, List.length_map]
theorem spB_at (s : ByteArray) (k : Nat) (hk : k < (spB s).length) : ((spB s)[k]).data.toList = (pcF s.data.toList).getD k [] ∧ ((spB s)[k]).size ≤ s.size := by
  have h : (pcF s.data.toList)[k]? = some ((spB s)[k]).data.toList := by rw [← spB_pc]; simp [hk]
  refine ⟨by rw [List.getD_eq_getElem?_getD, h]; rfl, ?_⟩
  have := pcF_mem_len _ _ (Nat.le_refl _) _ (List.mem_of_getElem? h)
  rw [size20, size20] at this
  exact this
/-- the pieces lie in their row -/
theorem spB_cell (w w' : World) (s : ByteArray) (hb : Below (w.heap.size + 1) (w.alloc (.cells ((spB s).map Value.string).toArray 9)) w') (k : Nat) (hk : k < (spB s).length) : w'.cell? ⟨w.heap.size, k, none⟩ = some (.string (spB s)[k]) := by
  have h : w'.heap[w.heap.size]? = some (.cells ((spB s).map Value.string).toArray 9 (0, 0)) := (hb.block w.heap.size (by omega)).trans (World.alloc_heap_new w _)
  simp [World.cell?, h, hk]
theorem pcs_drop {k : Nat} {l : List (List UInt8)} (h : k < l.length) : pcsOk k (l.drop k) = (pcOk k (l.getD k []) && pcsOk (k + 1) (l.drop (k + 1))) := by
  rw [List.drop_eq_getElem_cons h]; simp [pcsOk, List.getD_eq_getElem?_getD, h]
theorem ba_beq (x y : ByteArray) : (x == y) = decide (x = y) := by
  cases x with | mk a =>
  cases y with | mk b =>
  show (a == b) = _
  by_cases h : a = b
  · subst h; simp
  · rw [decide_eq_false (fun e => h (by injection e))]
    exact beq_eq_false_iff_ne.2 h
theorem neq_tr (p : ByteArray) : ((⟨(trF p.data.toList).toArray⟩ : ByteArray) != p) = !decide (trF p.data.toList = p.data.toList) := by
  unfold bne
  rw [ba_beq]
  congr 1
  by_cases h : trF p.data.toList = p.data.toList
  · rw [h, ba_mk]; simp
  · rw [decide_eq_false h]
    exact decide_eq_false fun e => h (by conv => rhs; rw [← e])

set_option maxHeartbeats 3200000 in
theorem isValue21 (s : ByteArray) (w : World) (hs : s.size < 4294967281) :
    Calls Tryd.prog 25 #[.string s] w fun e w' => e = .returned (.bool (valF s.data.toList)) ∧ Below w.heap.size w w' := by
  have HSp : Hid (Calls Tryd.prog 38 #[.string s, .string ⟨#[10]⟩] w fun e w' => e = .returned (.slice (some ⟨w.heap.size, 0, none⟩) (spB s).length (spB s).length) ∧ w' = w.alloc (.cells ((spB s).map Value.string).toArray 9)) := split21 s w hs
  have HV0 : Hid (valF s.data.toList = pcsOk 0 ((pcF s.data.toList).drop 0)) := valF_ok _
  have HAt : Hid (∀ k (hk : k < (spB s).length), ((spB s)[k]).data.toList = (pcF s.data.toList).getD k [] ∧ ((spB s)[k]).size ≤ s.size) := spB_at s
  have HCe : Hid (∀ w', Below (w.heap.size + 1) (w.alloc (.cells ((spB s).map Value.string).toArray 9)) w' → ∀ k (hk : k < (spB s).length), w'.cell? ⟨w.heap.size, k, none⟩ = some (.string (spB s)[k])) := fun w' hb => spB_cell w w' s hb
  have HLn : Hid ((spB s).length = (pcF s.data.toList).length) := spB_len s
  have hPl : (spB s).length ≤ 4294967282 := by
    have := Lib.countB_le ⟨#[10]⟩ (by decide) s.size s (Nat.le_refl _)
    have h2 : (spB s).length = Lib.countB s ⟨#[10]⟩ + 1 := Lib.splitB_all ⟨#[10]⟩ (by decide) 0 _ s rfl
    omega
  generalize valF s.data.toList = V at *
  generalize pcF s.data.toList = PS at *
  generalize spB s = P at *
  go_enter Tryd.func25, Tryd.ntmps25
  go_wp2_with fail
  refine HSp.out.mono ?_
  rintro e w1 ⟨rfl, h1⟩
  clear HSp
  have HB0 : Hid (Below (w.heap.size + 1) (w.alloc (.cells (P.map Value.string).toArray 9)) w1) := by rw [h1]; exact Below.refl _ _
  have HBw : Hid (Below w.heap.size w (w.alloc (.cells (P.map Value.string).toArray 9))) := Below.alloc (Below.refl _ _) (Nat.le_refl _) _
  have HWs : Hid ((w.alloc (.cells (P.map Value.string).toArray 9)).heap.size = w.heap.size + 1) := by show _ = _; simp
  clear h1
  generalize w.alloc (.cells (P.map Value.string).toArray 9) = wa at *
  go_wp2_with fail
  go_loopg [8] P.length (fun g i wr => ∃ k : Nat, k + g = P.length ∧ i = .int .i64 k ∧ Hid (V = pcsOk k (PS.drop k)) ∧ Hid (Below (w.heap.size + 1) wa wr))
  case atStart => exact ⟨0, by omega, rfl, HV0.out, HB0.out⟩
  case round =>
    obtain ⟨k, hk, rfl, HK, HB⟩ := hrel
    have HG : Hid (k + gk = P.length) := hk
    clear HV0 HB0
    by_cases hlt : k < P.length
    · have hcell := HCe.out _ HB.out k hlt
      have hat := HAt.out k hlt
      have HX : Hid (V = (pcOk k (PS.getD k []) && pcsOk (k + 1) (PS.drop (k + 1)))) := by show _ = _; rw [HK.out, pcs_drop (by rw [← HLn.out]; exact hlt)]
      generalize P[k] = p at *
      rw [← hat.1] at HX
      have HFa : Hid (∀ W, Calls Tryd.prog 39 #[.string p] W fun e w' => e = .returned (.bool (fairF false p.data.toList)) ∧ Below W.heap.size W w') := fun W => isFair21 p W (by have := hat.2; omega)
      have HTr : Hid (∀ W, Calls Tryd.prog 40 #[.string p] W fun e w' => e = .returned (.string ⟨(trF p.data.toList).toArray⟩) ∧ Below W.heap.size W w') := fun W => trimmed21 p W (by have := hat.2; omega)
      have HNe : Hid (((⟨(trF p.data.toList).toArray⟩ : ByteArray) != p) = !decide (trF p.data.toList = p.data.toList)) := neq_tr p
      have HPk : Hid (V = ((fairF false p.data.toList && decide (trF p.data.toList = p.data.toList) && !(decide (0 < k) && p.data.toList.isEmpty)) && pcsOk (k + 1) (PS.drop (k + 1)))) := HX.out
      have HBt : Hid (∀ wx, Below wr.heap.size wr wx → Below (w.heap.size + 1) wa wx ∧ Below w.heap.size w wx) := fun wx hb => by
        have hs1 := HB.out.size
        have hs2 := HWs.out
        have h1 : Below (w.heap.size + 1) wa wx := HB.out.trans (hb.mono (by omega))
        exact ⟨h1, HBw.out.trans (h1.mono (Nat.le_succ _))⟩
      clear HX HK HAt HCe hat hk
      cases hfa : fairF false p.data.toList
      · have HE : Hid (V = false) := by show _ = _; rw [HPk.out, hfa]; rfl
        rw [hfa] at HFa
        clear HPk hfa HNe HTr
        go_wp2_with (go_at_call 39; refine (HFa.out _).mono ?_; rintro e w2 ⟨rfl, bel2⟩; have HB2 : Hid (Below w.heap.size w w2) := (HBt.out w2 bel2).2; clear bel2)
        go_returns
        exact ⟨ret_bool HE.out.symm, HB2.out⟩
      rw [hfa] at HFa HPk
      clear hfa
      by_cases htr : trF p.data.toList = p.data.toList
      · rw [decide_eq_true htr] at HPk
        rw [htr, ba_mk] at HTr
        clear HNe htr
        by_cases hkb : 0 < k ∧ p.data.toList = []
        · have HE : Hid (V = false) := by show _ = _; rw [HPk.out, decide_eq_true hkb.1, hkb.2]; rfl
          have hk0 := hkb.1
          obtain rfl : p = ⟨#[]⟩ := ba_eq hkb.2
          clear hkb HPk
          go_wp2_with (first | (go_at_call 39; refine (HFa.out _).mono ?_; rintro e w2 ⟨rfl, bel2⟩; have HBt2 : Hid (∀ wx, Below w2.heap.size w2 wx → Below (w.heap.size + 1) wa wx ∧ Below w.heap.size w wx) := fun wx hb => HBt.out wx (bel2.trans (hb.mono bel2.size)); clear bel2 HBt) | (go_at_call 40; refine (HTr.out _).mono ?_; rintro e w3 ⟨rfl, bel3⟩; have HB3 : Hid (Below (w.heap.size + 1) wa w3 ∧ Below w.heap.size w w3) := HBt2.out w3 bel3; clear bel3))
          all_goals
            go_returns
            exact ⟨ret_bool HE.out.symm, HB3.out.2⟩
        · have HE : Hid (V = pcsOk (k + 1) (PS.drop (k + 1))) := by
            show _ = _
            rw [HPk.out]
            by_cases h0 : 0 < k
            · have : p.data.toList.isEmpty = false := by
                cases h : p.data.toList with
                | nil => exact absurd ⟨h0, h⟩ hkb
                | cons x r => rfl
              rw [this]; simp
            · rw [decide_eq_false h0]; simp
          clear HPk
          by_cases h0 : 0 < k
          · have hp0 : ¬ p.data.toList = [] := fun e => hkb ⟨h0, e⟩
            have hpl : ¬ p.toList = [] := fun e => hp0 (by rw [ByteArray.toList_eq] at e; exact e)
            have hpe : p.toList.isEmpty = false := by simpa using hpl
            have hpd : ¬ p.data = #[] := fun e => hp0 (by rw [e])
            clear hkb hp0
            go_wp2_with (first | (go_at_call 39; refine (HFa.out _).mono ?_; rintro e w2 ⟨rfl, bel2⟩; have HBt2 : Hid (∀ wx, Below w2.heap.size w2 wx → Below (w.heap.size + 1) wa wx ∧ Below w.heap.size w wx) := fun wx hb => HBt.out wx (bel2.trans (hb.mono bel2.size)); clear bel2 HBt) | (go_at_call 40; refine (HTr.out _).mono ?_; rintro e w3 ⟨rfl, bel3⟩; have HB3 : Hid (Below (w.heap.size + 1) wa w3 ∧ Below w.heap.size w w3) := HBt2.out w3 bel3; clear bel3))
            all_goals
              go_roundg (gk - 1)
              case measure => have := HG.out; omega
              case rel => exact ⟨k + 1, by have := HG.out; omega, by go_num, HE.out, HB3.out.1⟩
          · clear hkb
            go_wp2_with (first | (go_at_call 39; refine (HFa.out _).mono ?_; rintro e w2 ⟨rfl, bel2⟩; have HBt2 : Hid (∀ wx, Below w2.heap.size w2 wx → Below (w.heap.size + 1) wa wx ∧ Below w.heap.size w wx) := fun wx hb => HBt.out wx (bel2.trans (hb.mono bel2.size)); clear bel2 HBt) | (go_at_call 40; refine (HTr.out _).mono ?_; rintro e w3 ⟨rfl, bel3⟩; have HB3 : Hid (Below (w.heap.size + 1) wa w3 ∧ Below w.heap.size w w3) := HBt2.out w3 bel3; clear bel3))
            all_goals
              go_roundg (gk - 1)
              case measure => have := HG.out; omega
              case rel => exact ⟨k + 1, by have := HG.out; omega, by go_num, HE.out, HB3.out.1⟩
      · have HE : Hid (V = false) := by show _ = _; rw [HPk.out, decide_eq_false htr]; simp
        have hne : ¬ (⟨(trF p.data.toList).toArray⟩ : ByteArray).toList = p.toList := fun e => htr (by rw [ByteArray.toList_eq, ByteArray.toList_eq] at e; simpa using e)
        have hnb : ((⟨(trF p.data.toList).toArray⟩ : ByteArray).toList == p.toList) = false := beq_eq_false_iff_ne.2 hne
        clear HPk htr HNe
        generalize (⟨(trF p.data.toList).toArray⟩ : ByteArray) = TT at *
        go_wp2_with (first | (go_at_call 39; refine (HFa.out _).mono ?_; rintro e w2 ⟨rfl, bel2⟩; have HBt2 : Hid (∀ wx, Below w2.heap.size w2 wx → Below (w.heap.size + 1) wa wx ∧ Below w.heap.size w wx) := fun wx hb => HBt.out wx (bel2.trans (hb.mono bel2.size)); clear bel2 HBt) | (go_at_call 40; refine (HTr.out _).mono ?_; rintro e w3 ⟨rfl, bel3⟩; have HB3 : Hid (Below (w.heap.size + 1) wa w3 ∧ Below w.heap.size w w3) := HBt2.out w3 bel3; clear bel3))
        all_goals
          go_returns
          exact ⟨ret_bool HE.out.symm, HB3.out.2⟩
    · have HE : Hid (V = true) := by show _ = _; rw [HK.out, List.drop_eq_nil_of_le (by rw [← HLn.out]; omega)]; rfl
      have HBe : Hid (Below w.heap.size w wr) := HBw.out.trans (HB.out.mono (Nat.le_succ _))
      clear HK hk
      go_wp2
      go_ret
      exact ⟨ret_bool HE.out.symm, HBe.out⟩

end Go.Proofs.YtbeaoekbppdlmaaDoor
