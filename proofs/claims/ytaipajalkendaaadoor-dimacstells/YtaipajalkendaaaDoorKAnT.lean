/-
  The document's told, walked.
  KEEP: len below nil form rd mono on app start at new trans refl kept own row out one grown rdz
-/
import Derived.Test.YtaipajalkendaaaDoorJRdV
import Derived.Test.YtaipajalkendaaaDoorKDmH
set_option linter.unusedSimpArgs false
set_option linter.unusedVariables false
namespace Go.Proofs.YtaipajalkendaaaDoor
open Go Go.RowKit

theorem toldW_n2 {ws : List (List UInt8)} (h : ws.length ≠ 2) : toldW ws = none := by
  unfold toldW
  rw [if_neg (fun e => h (by rw [e]; rfl)), if_neg (fun e => h (by rw [e]; rfl))]
theorem toldW_2 (p q : List UInt8) : (toldW [p, q]).isSome = (p == [115] && (q == yesW || q == noW)) := by
  unfold toldW
  by_cases hp : p = [115]
  · subst hp
    by_cases hy : q = yesW
    · subst hy; simp
    · by_cases hn : q = noW
      · subst hn; simp [yesW, noW]
      · have hy2 : (q == yesW) = false := by simpa using hy
        have hn2 : (q == noW) = false := by simpa using hn
        rw [if_neg (by simpa using hy), if_neg (by simpa using hn), hy2, hn2]; rfl
  · have hp2 : (p == [115]) = false := by simpa using hp
    rw [if_neg (fun e => hp (by injection e)), if_neg (fun e => hp (by injection e)), hp2]; rfl

set_option maxHeartbeats 3200000 in
set_option maxRecDepth 100000 in
theorem rTold_any (B : Nat) (v : Value) (ws : List (List UInt8)) (kk : Nat) (tl : List Wrd) (w : World) (ho : OwnW B w v (ws.map (fun x => (x, kk)) ++ tl)) (hne : ws ≠ []) (htl : ∀ x ∈ tl, x.2 ≠ kk) (hl : (ws.map (fun x => (x, kk)) ++ tl).length ≤ 1099511627776) :
    Calls Tryd.prog 35 #[v] w fun e w' => e = .returned (.bool (toldW ws).isSome) ∧ Below w.heap.size w w' := by
  have HHd := rHeading_any B v _ w ho hl
  have e0 : ((ws.map (fun x => (x, kk)) ++ tl).getD 0 ([], 0)).2 = kk := by
    cases ws with
    | nil => exact absurd rfl hne
    | cons a r => rfl
  rw [e0, hdg_len ws htl] at HHd
  have HHd : Hid (Calls Tryd.prog 49 #[v] w fun e w' => e = .returned (.int .i64 (ws.length : Int)) ∧ Below w.heap.size w w') := HHd
  obtain ⟨R, hR⟩ : ∃ R, R = (toldW ws).isSome := ⟨_, rfl⟩
  rw [← hR]
  obtain ⟨a, c, hv, hc, hm, hcell⟩ := ho.form
  have hlen2 : (ws.map (fun x => (x, kk)) ++ tl).length = ws.length + tl.length := by simp
  obtain ⟨N, hN⟩ : ∃ N, N = (ws.map (fun x => (x, kk)) ++ tl).length := ⟨_, rfl⟩
  rw [← hN] at hv hc hl hcell hlen2
  clear e0 hne hN
  by_cases h2 : ws.length = 2
  case neg =>
    have HE : Hid (R = false) := by show _ = _; rw [hR, toldW_n2 h2]; rfl
    have hq : ((ws.length : Int) == 2) = false := beq_eq_false_iff_ne.2 (by omega)
    clear hR h2 hcell ho hlen2
    subst hv
    go_enter Tryd.func35, Tryd.ntmps35
    go_wp2_with (go_at_call 49; refine HHd.out.mono ?_; rintro e w1 ⟨rfl, bel1⟩)
    go_ret
    exact ⟨ret_bool HE.out.symm, bel1⟩
  match ws, h2 with
  | [p, q], _ =>
    have hge : 2 ≤ N := by rw [hlen2]; simp
    clear hlen2
    obtain ⟨g, hg, hgl, c0, _⟩ := hcell 0 (by omega)
    obtain ⟨g1, hg1, _, c1, _⟩ := hcell 1 (by omega)
    have f1 : g1 = g := by have := hg.symm.trans hg1; injection this with q; injection q with q; exact q.symm
    subst f1
    obtain ⟨P, hP⟩ : ∃ P : ByteArray, P = ⟨p.toArray⟩ := ⟨_, rfl⟩
    obtain ⟨Q, hQ⟩ : ∃ Q : ByteArray, Q = ⟨q.toArray⟩ := ⟨_, rfl⟩
    have HP : P.data.toList = p := by rw [hP]
    have HQ : Q.data.toList = q := by rw [hQ]
    have HC : Hid (∀ W : World, Below w.heap.size w W → W.cell? ⟨g1, 0, none⟩ = some (.string P) ∧ W.cell? ⟨g1, 2, none⟩ = some (.string Q)) := fun W hb => by
      refine ⟨(hb.cell (p := ⟨g1, 0, none⟩) hgl).trans ?_, (hb.cell (p := ⟨g1, 2, none⟩) hgl).trans ?_⟩
      · rw [hP]; exact c0
      · rw [hQ]; exact c1
    have hqp : (P.toList == [115]) = (p == [115]) := by rw [ByteArray.toList_eq, HP]
    have hqy : (Q.toList == [83, 65, 84, 73, 83, 70, 73, 65, 66, 76, 69]) = (q == yesW) := by rw [ByteArray.toList_eq, HQ]; rfl
    have hqn : (Q.toList == [85, 78, 83, 65, 84, 73, 83, 70, 73, 65, 66, 76, 69]) = (q == noW) := by rw [ByteArray.toList_eq, HQ]; rfl
    have HE : Hid (R = (p == [115] && (q == yesW || q == noW))) := by show _ = _; rw [hR, toldW_2]
    subst hv
    subst hg
    have HHd : Hid (Calls Tryd.prog 49 #[.slice (some ⟨g1, 0, none⟩) N c] w fun e w' => e = .returned (.int .i64 2) ∧ Below w.heap.size w w') := HHd
    clear hP hQ c0 c1 hcell ho hg1 htl HP HQ hgl hR
    generalize (p == [115]) = b1 at *
    generalize (q == yesW) = b2 at *
    generalize (q == noW) = b3 at *
    cases b1 <;> cases b2 <;> cases b3
    all_goals
      go_enter Tryd.func35, Tryd.ntmps35
      go_wp2_with (go_at_call 49; refine HHd.out.mono ?_; rintro e w1 ⟨rfl, bel1⟩; obtain ⟨d0, d1⟩ := HC.out w1 bel1)
      go_ret
      exact ⟨ret_bool (by rw [HE.out]; rfl), bel1⟩

end Go.Proofs.YtaipajalkendaaaDoor
