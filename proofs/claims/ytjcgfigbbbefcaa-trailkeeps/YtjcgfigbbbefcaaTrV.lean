/-
  trail: Look of lists that are lent, and written over.
  KEEP: set on app at below new trans refl start ap kept rd rds mono row push put step side drew drewN mark weaken less store slice place cell lt prefix setOther
-/
import Derived.Test.YtjcgfigbbbefcaaTrSt
import Derived.Test.YtjcgfigbbbefcaaKitQ
import Derived.Test.YtjcgfigbbbefcaaAparQW
set_option linter.unusedSimpArgs false
set_option linter.unusedVariables false
namespace Go.Proofs.Ytjcgfigbbbefcaa
open Go Go.RowKit

theorem pre_rd {B : Nat} {w : World} {g cap N : Nat} {P M : List Int} (h : Own B w (.slice (some ⟨g, 0, none⟩) N cap) (P ++ M)) (hl : P.length * 8 ≤ 140737488351232) : Rd w (.slice (some ⟨g, 0, none⟩) P.length cap) P := by
  have hN : N = (P ++ M).length := by
    rcases h.2 with ⟨e, _⟩ | ⟨g', c', cur, e, _⟩
    · simp at e
    · injection e with _ e1 _
  subst hN
  have h1 := own_cut h (m := P.length) (by rw [List.length_append]; omega)
  rw [Nat.mul_one, ← List.map_take, List.take_left] at h1
  exact Own.rd (base := B) h1 hl
theorem ng_ex : ∃ f : Int → Int, ∀ z, f z = wrap64 (-z) := ⟨_, fun _ => rfl⟩
noncomputable def ng : Int → Int := Classical.choose ng_ex
theorem ng_eq (z : Int) : ng z = wrap64 (-z) := Classical.choose_spec ng_ex z
noncomputable def ngK (zs : List Int) (k : Nat) : List Int := (zs.take k).map ng ++ zs.drop k
theorem ngK_len (zs : List Int) (k : Nat) : (ngK zs k).length = zs.length := by unfold ngK; rw [List.length_append, List.length_map, ← List.length_append, List.take_append_drop]
theorem ngK_at {zs : List Int} {k : Nat} (h : k < zs.length) : (ngK zs k)[k]? = some (zs.getD k 0) := by
  unfold ngK
  have hl : ((zs.take k).map ng).length = k := by rw [List.length_map, List.length_take]; omega
  rw [List.getElem?_append_right (by omega), hl, Nat.sub_self, List.getElem?_drop]
  simp [List.getD_eq_getElem?_getD, h]
theorem ngK_more {zs : List Int} {k : Nat} (h : k < zs.length) : ngK zs (k + 1) = (ngK zs k).set k (ng (zs.getD k 0)) := by
  unfold ngK
  have hl : ((zs.take k).map ng).length = k := by rw [List.length_map, List.length_take]; omega
  have hd : zs.drop k = zs[k] :: zs.drop (k + 1) := List.drop_eq_getElem_cons h
  have hg : zs.getD k 0 = zs[k] := by simp [List.getD_eq_getElem?_getD, h]
  rw [List.take_succ_eq_append_getElem h, hd, List.set_append_right _ _ (by omega), hl, Nat.sub_self, List.set_cons_zero, List.map_append, hg]
  simp only [List.map_cons, List.map_nil, List.append_assoc, List.cons_append, List.nil_append]

set_option maxRecDepth 100000 in
set_option maxHeartbeats 6400000 in
theorem looks_any (x : Nat) (s : Sl) (y : Nat) (u : Value) (n : Nat) (R : List Pl) (vc : Value) (zs : List Int) (w : World) (h : Pq w x s y u n R R) (hz : Rd w vc zs) :
    Calls Try.prog 35 #[.pointer (some ⟨x, 0, none⟩), .pointer (some ⟨y, 0, none⟩), vc] w fun e w' => e = .returned (.bool true) ∧ Below w.heap.size w w' := by
  have HP : Hid (Pq w x s y u n R R) := h
  have HZ : Hid (Rd w vc zs) := hz
  obtain ⟨az, cz, rfl, hl8, -⟩ := rd_at hz
  clear h hz
  go_enter Try.func35, Try.ntmps35
  go_wp2_with fail
  refine (lent_any _ zs w HZ.out).mono ?_
  rintro e w1 ⟨v1, rfl, own1, bel1⟩
  have P1 : Hid (Pq w1 x s y u n R R) := HP.out.below bel1
  have Z1 : Hid (Rd w1 (.slice az zs.length cz) zs) := HZ.out.below bel1
  have B1 : Hid (Below w.heap.size w w1) := bel1
  obtain ⟨g, cap, e1, hcap, hcm, -⟩ := row_some (show w1.ownsRow w.heap.size 3 1 v1 (zs ++ m64).length ((zs ++ m64).map (Value.int .i64)) from own1) (by rw [List.length_append, m64_len]; omega)
  rw [List.length_append, m64_len] at e1 hcap
  subst e1
  have O1 : Hid (Own w.heap.size w1 (.slice (some ⟨g, 0, none⟩) (zs.length + 64) cap) (zs ++ m64)) := own1
  unfold maxLen at hcm
  clear own1 bel1
  have D1 : Hid (Rd w1 (.slice (some ⟨g, 0, none⟩) zs.length cap) zs) := pre_rd O1.out hl8
  go_wp2_with fail
  refine (trLook_any x s n R _ zs w1 P1.out.tr D1.out).mono ?_
  rintro e w2 ⟨rfl, rfl⟩
  go_wp2_with fail
  refine (trLook_any x s n R _ zs w2 P1.out.tr D1.out).mono ?_
  rintro e w3 ⟨rfl, rfl⟩
  go_wp2_with fail
  refine (rLook_any y u n R _ zs w3 P1.out.rf Z1.out).mono ?_
  rintro e w4 ⟨rfl, bel4⟩
  have P4 : Hid (Pq w4 x s y u n R R) := P1.out.below bel4
  have Z4 : Hid (Rd w4 (.slice az zs.length cz) zs) := Z1.out.below bel4
  have O4 : Hid (Own w.heap.size w4 (.slice (some ⟨g, 0, none⟩) (zs.length + 64) cap) (zs ++ m64)) := O1.out.below bel4
  have B4 : Hid (Below w.heap.size w w4) := Below.step B1.out bel4
  clear bel4 P1 Z1 O1 B1 D1
  generalize (lookF n R zs).1 = k1 at *
  generalize (lookF n R zs).2 = k2 at *
  go_wp2_with fail
  refine (kept_any w.heap.size _ _ zs w4 O4.out Z4.out).mono ?_
  rintro e w5 ⟨rfl, bel5⟩
  have P5 : Hid (Pq w5 x s y u n R R) := P4.out.below bel5
  have O5 : Hid (Own w.heap.size w5 (.slice (some ⟨g, 0, none⟩) (zs.length + 64) cap) (zs ++ m64)) := O4.out.below bel5
  have B5 : Hid (Below w.heap.size w w5) := Below.step B4.out bel5
  clear bel5 P4 O4 B4 Z4
  have HDj : Hid (∀ k, prP x s y u k → k < w.heap.size) := HP.out.lt
  have HG : Hid (w.heap.size ≤ g) := (O5.out.lt g rfl).1
  go_wp2
  go_loopg [14] zs.length (fun gm v14 wr => ∃ k : Nat, k + gm = zs.length ∧ v14 = .int .i64 k ∧ Own w.heap.size wr (.slice (some ⟨g, 0, none⟩) (zs.length + 64) cap) (ngK zs k ++ m64) ∧ Pq wr x s y u n R R ∧ Below w.heap.size w wr)
  case atStart => exact ⟨0, by omega, rfl, by show Own _ _ _ ((zs.take 0).map ng ++ zs.drop 0 ++ m64); simpa using O5.out, P5.out, B5.out⟩
  case round =>
    obtain ⟨k, hk, rfl, own, pq, bel⟩ := hrel
    have HK : Hid (k + gk = zs.length) := hk
    have Or : Hid (Own w.heap.size wr (.slice (some ⟨g, 0, none⟩) (zs.length + 64) cap) (ngK zs k ++ m64)) := own
    have Pr : Hid (Pq wr x s y u n R R) := pq
    have Br : Hid (Below w.heap.size w wr) := bel
    clear own pq bel
    by_cases hlt : k < zs.length
    · have hlx : (ngK zs k ++ m64).length = zs.length + 64 := by rw [List.length_append, ngK_len, m64_len]
      have ho := Or.out
      unfold Own at ho
      rw [hlx] at ho
      have d0 := row_cell ho (j := k) (x := .int .i64 (zs.getD k 0)) (by rw [List.getElem?_map, List.getElem?_append_left (by rw [ngK_len]; exact hlt), ngK_at hlt]; rfl)
      have z0 := row_fz ho k
      have HN : Hid (Own w.heap.size (wr.setCell ⟨g, k, none⟩ (.int .i64 (wrap64 (-(zs.getD k 0))))) (.slice (some ⟨g, 0, none⟩) (zs.length + 64) cap) (ngK zs (k + 1) ++ m64) ∧ Pq (wr.setCell ⟨g, k, none⟩ (.int .i64 (wrap64 (-(zs.getD k 0))))) x s y u n R R ∧ Below w.heap.size w (wr.setCell ⟨g, k, none⟩ (.int .i64 (wrap64 (-(zs.getD k 0)))))) := by
        refine ⟨?_, Pr.out.kept fun j hj => heap_other (W := wr) ⟨g, k, none⟩ _ (fun e => by have h1 := HDj.out j hj; have h2 := HG.out; have h3 : g = j := e; omega), Br.out.setCell (p := ⟨g, k, none⟩) HG.out _⟩
        have h1 := own_store (m := k) (z := wrap64 (-(zs.getD k 0))) Or.out hlx
        rw [ngK_more hlt, ng_eq, ← List.set_append_left _ _ (by rw [ngK_len]; exact hlt)]
        exact h1
      clear ho hlx hk
      generalize zs.getD k 0 = z at *
      go_wp2
      go_roundg (gk - 1)
      case measure => have := HK.out; omega
      case rel => exact ⟨k + 1, by have := HK.out; omega, by go_num, HN.out.1, HN.out.2.1, HN.out.2.2⟩
    · obtain rfl : k = zs.length := by omega
      clear hk HK
      have hnl : (ngK zs zs.length).length = zs.length := ngK_len _ _
      have D1 : Hid (Rd wr (.slice (some ⟨g, 0, none⟩) zs.length cap) (ngK zs zs.length)) := by
        have := pre_rd Or.out (by rw [hnl]; exact hl8)
        rw [hnl] at this
        exact this
      clear hnl
      generalize ngK zs zs.length = ys at *
      go_wp2_with fail
      refine (trLook_any x s n R _ ys wr Pr.out.tr D1.out).mono ?_
      rintro e w6 ⟨rfl, rfl⟩
      go_wp2_with fail
      refine (trLook_any x s n R _ ys w6 Pr.out.tr D1.out).mono ?_
      rintro e w7 ⟨rfl, rfl⟩
      go_wp2_with fail
      refine (copyInts_any _ ys w7 D1.out).mono ?_
      rintro e w8 ⟨v8, rfl, own8, bel8⟩
      have HL8 : Hid (ys.length * 8 ≤ 140737488351232) := D1.out.len
      have P8 : Hid (Pq w8 x s y u n R R) := Pr.out.below bel8
      have D8 : Hid (Rd w8 v8 ys) := own8.rd HL8.out
      have B8 : Hid (Below w.heap.size w w8) := Br.out.trans (bel8.mono Br.out.size)
      clear own8 bel8
      go_wp2_with fail
      refine (rLook_any y u n R _ ys w8 P8.out.rf D8.out).mono ?_
      rintro e w9 ⟨rfl, bel9⟩
      have B9 : Hid (Below w.heap.size w w9) := B8.out.trans (bel9.mono B8.out.size)
      clear bel9
      generalize (lookF n R ys).1 = j1 at *
      generalize (lookF n R ys).2 = j2 at *
      go_wp2
      go_ret
      exact ⟨by simp, B9.out⟩
end Go.Proofs.Ytjcgfigbbbefcaa
