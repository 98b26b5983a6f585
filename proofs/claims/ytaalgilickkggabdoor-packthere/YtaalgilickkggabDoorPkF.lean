/-
  pack.Encode and the document's Encode, walked.
  KEEP: len below nil form rd mono rdz on app start at new trans refl kept own row ap out
-/
import Derived.Test.YtaalgilickkggabDoorPkE
set_option linter.unusedSimpArgs false
set_option linter.unusedVariables false
namespace Go.Proofs.YtaalgilickkggabDoor
open Go Go.RowKit

/-- how long the bytes may be -/
def ez (l : List Stp) : Nat := 10 * (l.map (fun x => x.2.length)).sum + 2 * l.length
theorem encB_le : ∀ l : List Stp, sndS l = true → (encB l).length ≤ ez l
  | [], _ => by simp [encB]
  | x :: l, h => by
    simp only [sndS, List.all_cons, Bool.and_eq_true] at h
    have e : encB (x :: l) = stpB x ++ encB l := rfl
    have h1 := litsB_le x.2 h.1
    have h2 := encB_le l h.2
    have h3 : (stpB x).length = (litsB x.2).length + 2 := by simp [stpB]
    rw [e, List.length_append, h3]
    unfold ez at h2 ⊢
    simp only [List.map_cons, List.sum_cons, List.length_cons]
    omega
theorem ez_take (l : List Stp) (k : Nat) : ez (l.take k) ≤ ez l := by
  have e : l = l.take k ++ l.drop k := (List.take_append_drop k l).symm
  have e2 : ez l = ez (l.take k) + ez (l.drop k) := by
    conv => lhs; rw [e]
    simp only [ez, List.map_append, List.sum_append, List.length_append]; omega
  omega
theorem snd_take_more10 (l : List Stp) (k : Nat) (h : k < l.length) : sndS (l.take (k + 1)) = (sndS (l.take k) && (l.getD k (false, [])).2.all fmd) := by
  unfold sndS; rw [all_take_getD _ l (false, []) k h]
theorem ez_pre (l : List Stp) (k : Nat) (h : k < l.length) (hs : sndS (l.take k) = true) : (encB (l.take k)).length + 10 * (l.getD k (false, [])).2.length + 2 ≤ ez l := by
  have h1 := encB_le (l.take k) hs
  have h2 := ez_take l (k + 1)
  rw [take_succ_getD l (false, []) k h] at h2
  unfold ez at h1 h2 ⊢
  simp only [List.map_append, List.sum_append, List.length_append, List.map_cons, List.map_nil, List.sum_cons, List.sum_nil, List.length_cons, List.length_nil] at h2
  omega

set_option maxHeartbeats 3200000 in
set_option maxRecDepth 100000 in
theorem encode_any (s : Value) (l : List Stp) (w : World) (hr : RdZ w s l) (hbig : ez l ≤ 1099511627776) :
    Calls Tryd.prog 5 #[s] w fun e w' => ∃ v, e = .returned (.tuple #[v, .int .i64 (if sndS l then 0 else 1)]) ∧ OwnT w.heap.size w' v (if sndS l then encB l else []) ∧ Below w.heap.size w w' := by
  have hl := hr.len
  have HR : Hid (RdZ w s l) := hr
  obtain ⟨a, c, rfl, hc, hm, _⟩ := hr.form
  have HB : Hid (ez l ≤ 1099511627776) := hbig
  obtain ⟨X, hX⟩ : ∃ X, X = (if sndS l = true then encB l else []) := ⟨_, rfl⟩
  obtain ⟨E, hE⟩ : ∃ E : Int, E = (if sndS l = true then 0 else 1) := ⟨_, rfl⟩
  rw [← hX, ← hE]
  have HX0 : Hid (sndS l = false → X = [] ∧ E = 1) := fun h => by rw [hX, hE, h]; exact ⟨rfl, rfl⟩
  have HX1 : Hid (sndS l = true → X = encB l ∧ E = 0) := fun h => by rw [hX, hE, h]; exact ⟨rfl, rfl⟩
  clear hr hbig hX hE
  go_enter Tryd.func5, Tryd.ntmps5
  go_wp2
  go_loopg [4, 9] l.length (fun g u i wr => ∃ k : Nat, k + g = l.length ∧ i = .int .i64 k ∧ OwnT w.heap.size wr u (encB (l.take k)) ∧ sndS (l.take k) = true ∧ Below w.heap.size w wr)
  case atStart => exact ⟨0, by omega, rfl, OwnT.nil _ _, rfl, Below.refl _ _⟩
  case round =>
    obtain ⟨k, hk, rfl, own, hsn, bel⟩ := hrel
    have HK : Hid (k + gk = l.length) := hk
    have HSN : Hid (sndS (l.take k) = true) := hsn
    have hs := bel.size
    clear hsn
    by_cases hlt : k < l.length
    · obtain ⟨a', c', e', _, _, hcell⟩ := HR.out.form
      have e3 : a' = a ∧ c' = c := by injection e' with q1 q2 q3; exact ⟨q1.symm, q3.symm⟩
      obtain ⟨rfl, rfl⟩ := e3
      obtain ⟨b, off, uc, rfl, hbl, hd0, hu0, hrd⟩ := hcell k hlt
      have hd := (bel.cell (p := ⟨b, off + k * 2, none⟩) hbl).trans hd0
      have hu := (bel.cell (p := ⟨b, off + k * 2 + 1, none⟩) hbl).trans hu0
      clear hd0 hu0
      have HS : Hid (sndS (l.take (k + 1)) = (sndS (l.take k) && (l.getD k (false, [])).2.all fmd)) := snd_take_more10 l k hlt
      have HP0 : Hid ((encB (l.take k)).length + 10 * (l.getD k (false, [])).2.length + 2 ≤ 1099511627776) := Nat.le_trans (ez_pre l k hlt HSN.out) HB.out
      have HM0 : Hid (encB (l.take (k + 1)) = encB (l.take k) ++ stpB (l.getD k (false, []))) := encB_more l k hlt
      obtain ⟨ac, cc, rfl, hcc, hcm, _⟩ := hrd.form
      have HRd : Hid (Rd w (.slice ac (l.getD k (false, [])).2.length cc) (l.getD k (false, [])).2) := hrd
      have HNo : Hid ((l.getD k (false, [])).2.all fmd = false → sndS l = false) := fun h => by unfold sndS; exact all_false_getD (d := (false, [])) hlt h
      clear hk hcell e' hrd
      generalize l.getD k (false, []) = xk at *
      obtain ⟨dd, zs⟩ := xk
      dsimp only at *
      generalize encB (l.take k) = T at *
      have hzl := HRd.out.len
      have HX : Hid (Rd (wr.alloc (.cells #[.bool dd, .slice ac zs.length cc] 32)) (.slice ac zs.length cc) zs) := (HRd.out.below bel).below (below_box _ _)
      have HOA : Hid (OwnT w.heap.size (wr.alloc (.cells #[.bool dd, .slice ac zs.length cc] 32)) _ T) := World.ownsRow.alloc own _
      have HBA : Hid (Below w.heap.size w (wr.alloc (.cells #[.bool dd, .slice ac zs.length cc] 32))) := bel.alloc hs _
      have HBx0 : Hid (Bx2 (wr.alloc (.cells #[.bool dd, .slice ac zs.length cc] 32)) wr.heap.size 32 (.bool dd) (.slice ac zs.length cc)) := Bx2.new _ _ _ _
      cases hf : zs.all fmd
      · go_wp2_with fail
        refine (sound_any _ zs _ HX.out).mono ?_
        rw [hf]
        rintro e w1 ⟨rfl, rfl⟩
        obtain ⟨h1, h2⟩ := HX0.out (HNo.out hf)
        clear hf
        go_wp2
        go_returns
        rw [h1, h2]
        exact ⟨_, rfl, OwnT.nil _ _, HBA.out⟩
      have HSt : Hid (sndS (l.take (k + 1)) = true) := by show _ = _; rw [HS.out, HSN.out, hf]; rfl
      have HFm : Hid (zs.all fmd = true) := hf
      clear HNo own bel hs
      go_wp2_with fail
      refine (sound_any _ zs _ HX.out).mono ?_
      rw [hf]
      rintro e w1 ⟨rfl, rfl⟩
      clear hf hd hu
      generalize wr.alloc (.cells #[.bool dd, .slice ac zs.length cc] 32) = w1 at *
      generalize wr.heap.size = D at *
      have c0 := HBx0.out.c0
      have c1 := HBx0.out.c1
      have HAp : Hid (∀ u, OwnT w.heap.size w1 u T → Calls Tryd.prog 24 #[u, .agg #[.bool dd, .slice ac zs.length cc]] w1 fun e w' => ∃ v', e = .returned v' ∧ OwnT w.heap.size w' v' (T ++ stpB (dd, zs)) ∧ Below w.heap.size w w') := fun u hu => appendStep_any w u _ T dd zs w1 HBA.out hu HRd.out HFm.out (by have := HP0.out; omega)
      go_wp2_with (go_at_call 24; refine (HAp.out _ HOA.out).mono ?_; rintro e w2 ⟨v2, rfl, own2, bel2⟩)
      go_roundg (gk - 1)
      case measure => have := HK.out; omega
      case rel => exact ⟨k + 1, by have := HK.out; omega, by go_num, by rw [HM0.out]; exact own2, HSt.out, bel2⟩
    · obtain rfl : k = l.length := by omega
      have HSN2 := HSN.out
      rw [List.take_length] at own HSN2
      obtain ⟨h1, h2⟩ := HX1.out HSN2
      clear hk
      have own' := own
      clear own
      rw [← h1] at own'
      have HE : Hid (E = 0) := h2
      clear h1 h2
      go_wp2
      go_returns
      rw [HE.out]
      exact ⟨_, rfl, own', bel⟩

end Go.Proofs.YtaalgilickkggabDoor
