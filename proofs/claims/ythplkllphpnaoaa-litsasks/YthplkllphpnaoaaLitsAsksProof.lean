import Derived.Test.YthplkllphpnaoaaRows
import Derived.Test.YthplkllphpnaoaaRefC
import Derived.Test.YthplkllphpnaoaaOpen
import Derived.WalkKit
import Derived.ProofKit
import Derived.OpenShut
import Derived.ShutString
import Derived.ChangeOld
import Derived.Below
import Derived.SizedLaws
set_option linter.unusedVariables false
set_option linter.unusedSimpArgs false
namespace Go.Proofs.Ythplkllphpnaoaa.litsAsks
open Go.ChangeShapes Go.WideShapes Go.ChangeAt Go.RowKit
open Go.ChangeMaps (open_string shut_string)

theorem own : ownKnob Try.prog.godebug = none := by kernel_rfl
theorem laidOut : laidOutB Try.prog = true := by kernel_rfl

set_option maxHeartbeats 1600000 in
theorem walk (u0 u1 : Value) (a2 : Int) (z0 z1 : List Int) (w : World) (r0 : Rd w u0 z0) (r1 : Rd w u1 z1) (w2 : (Lit.int .i64 a2).wf = true) :
    Calls Try.prog 5 #[u0, u1, .int .i64 a2] w fun e w' => e = .returned (.bool true) ∧ Below w.heap.size w w' := by
  go_enter Try.func5, Try.ntmps5
  go_wp2_with fail
  refine (copied_any u0 z0 w (r0)).mono ?_
  rintro e w1 ⟨v1, rfl, own1, bel1⟩
  have rd1 := own1.rd ((r0).len)
  go_wp2_with fail
  refine (sound_any v1 z0 w1 (rd1)).mono ?_
  rintro e wx ⟨rfl, hwx⟩
  rw [hwx]
  clear hwx wx
  have bl2 : Below w.heap.size w w1 := bel1
  go_wp2_with fail
  refine (copied_any u0 z0 w1 ((r0).below bel1)).mono ?_
  rintro e w3 ⟨v3, rfl, own3, bel3⟩
  have rd3 := own3.rd (((r0).below bel1).len)
  go_wp2_with fail
  refine (has_any v3 z0 a2 w3 (rd3)).mono ?_
  rintro e wx ⟨rfl, hwx⟩
  rw [hwx]
  clear hwx wx
  have rn4 := ((r0).below bel1).below bel3
  have rn5 := ((r1).below bel1).below bel3
  have bl6 : Below w.heap.size w w3 := (Below.step bl2 bel3)
  go_wp2_with fail
  refine (copied_any u0 z0 w3 (rn4)).mono ?_
  rintro e w7 ⟨v7, rfl, own7, bel7⟩
  have rd7 := own7.rd ((rn4).len)
  go_wp2_with fail
  refine (taut_any v7 z0 w7 (rd7)).mono ?_
  rintro e w8 ⟨rfl, bel8⟩
  have rn9 := ((rn4).below bel7).below bel8
  have rn10 := ((rn5).below bel7).below bel8
  have rn11 := (((rd1).below bel3).below bel7).below bel8
  have rn12 := ((rd3).below bel7).below bel8
  have bl13 : Below w.heap.size w w8 := (Below.step (Below.step bl6 bel7) bel8)
  go_wp2_with fail
  refine (copied_any u0 z0 w8 (rn9)).mono ?_
  rintro e w14 ⟨v14, rfl, own14, bel14⟩
  have rd14 := own14.rd ((rn9).len)
  go_wp2_with fail
  refine (copied_any u1 z1 w14 ((rn10).below bel14)).mono ?_
  rintro e w15 ⟨v15, rfl, own15, bel15⟩
  have rd15 := own15.rd (((rn10).below bel14).len)
  go_wp2_with fail
  refine (same_any v14 v15 z0 z1 w15 ((rd14).below bel15) (rd15)).mono ?_
  rintro e w16 ⟨rfl, bel16⟩
  have rn17 := (((rn9).below bel14).below bel15).below bel16
  have rn18 := (((rn10).below bel14).below bel15).below bel16
  have rn19 := (((rn11).below bel14).below bel15).below bel16
  have rn20 := (((rn12).below bel14).below bel15).below bel16
  have rn21 := ((((rd7).below bel8).below bel14).below bel15).below bel16
  have rn22 := ((rd14).below bel15).below bel16
  have bl23 : Below w.heap.size w w16 := (Below.step (Below.step (Below.step bl13 bel14) bel15) bel16)
  go_wp2_with fail
  refine (copied_any u0 z0 w16 (rn17)).mono ?_
  rintro e w24 ⟨v24, rfl, own24, bel24⟩
  have rd24 := own24.rd ((rn17).len)
  go_wp2_with fail
  refine (copied_any u1 z1 w24 ((rn18).below bel24)).mono ?_
  rintro e w25 ⟨v25, rfl, own25, bel25⟩
  have rd25 := own25.rd (((rn18).below bel24).len)
  go_wp2_with fail
  refine (subsumes_any v24 v25 z0 z1 w25 ((rd24).below bel25) (rd25)).mono ?_
  rintro e w26 ⟨rfl, bel26⟩
  have rn27 := (((rn17).below bel24).below bel25).below bel26
  have rn28 := (((rn18).below bel24).below bel25).below bel26
  have rn29 := (((rn19).below bel24).below bel25).below bel26
  have rn30 := (((rn20).below bel24).below bel25).below bel26
  have rn31 := (((rn21).below bel24).below bel25).below bel26
  have rn32 := (((rn22).below bel24).below bel25).below bel26
  have rn33 := ((((rd15).below bel16).below bel24).below bel25).below bel26
  have rn34 := ((rd24).below bel25).below bel26
  have bl35 : Below w.heap.size w w26 := (Below.step (Below.step (Below.step bl23 bel24) bel25) bel26)
  go_wp2_with fail
  refine (refSound_any u0 z0 w26 (rn27)).mono ?_
  rintro e wx ⟨rfl, hwx⟩
  rw [hwx]
  clear hwx wx
  go_wp2_with fail
  refine (refHas_any u0 z0 a2 w26 (rn27)).mono ?_
  rintro e wx ⟨rfl, hwx⟩
  rw [hwx]
  clear hwx wx
  go_wp2_with fail
  refine (refTaut_any u0 z0 w26 (rn27)).mono ?_
  rintro e w36 ⟨rfl, bel36⟩
  have rn37 := ((rd25).below bel26).below bel36
  have bl38 : Below w.heap.size w w36 := (Below.step bl35 bel36)
  go_wp2_with fail
  refine (refSame_any u0 u1 z0 z1 w36 ((rn27).below bel36) ((rn28).below bel36)).mono ?_
  rintro e w39 ⟨rfl, bel39⟩
  have rn40 := ((rn27).below bel36).below bel39
  have rn41 := ((rn28).below bel36).below bel39
  have rn42 := ((rn29).below bel36).below bel39
  have rn43 := ((rn30).below bel36).below bel39
  have rn44 := ((rn31).below bel36).below bel39
  have rn45 := ((rn32).below bel36).below bel39
  have rn46 := ((rn33).below bel36).below bel39
  have rn47 := ((rn34).below bel36).below bel39
  have bl48 : Below w.heap.size w w39 := (Below.step bl38 bel39)
  go_wp2_with fail
  refine (refSubsumes_any u0 u1 z0 z1 w39 (rn40) (rn41)).mono ?_
  rintro e w49 ⟨rfl, bel49⟩
  go_wp2
  go_ret
  exact ⟨by simp, (Below.step bl48 bel49)⟩

set_option maxRecDepth 100000 in
theorem lifted (os : Os) (started : os.Started) (H : Type) (enc : TypeId × Value → H) :
    ReturnsInHanded {} Try.checked os 5 .any (Rows.litsAsksSpec.pre6 enc Try.prog Try.f5 Rows.litsAsksRow.domain false) (Rows.litsAsksSpec.post enc Try.prog Try.f5 false true false false) := by
  refine returnsInHanded_of_change_sized (C := Try.checked) own started (by kernel_rfl) Try.func5
    (ChangeSpec.witness6 (enc := enc) (C := Try.checked) false ⟨#[], #[.slice none 0 0, .slice none 0 0, .int .i64 0], []⟩ 8 (by kernel_rfl) (by kernel_rfl) (by kernel_rfl) (by kernel_rfl)) ?_
  intro W base args ds gs before hval0 hW hcnd hsz0 _
  have hval : ∀ (j : Nat) t v, Try.f5.params[j]? = some t → args[j]? = some v → Value.okWide Try.prog W .any base t v := hval0
  have hsz : (DataW.weightsEach Try.prog (Try.f5.params.toList ++ Rows.litsAsksSpec.plain.varTypes Try.prog) (ds ++ gs)).all (· ≤ reachBytes) = true := hsz0
  have hW' := hW
  obtain ⟨p, q, hA0, hV, rfl, hfz, hnd⟩ := hW
  have hA : DataW.TrodAll enc Try.prog W 0 (fun _ => true) true Try.f5.params.toList args.toList ds p := hA0
  rw [Try.params5] at hA hval hsz
  obtain ⟨v0, vs0, d0, ds0, p0, q0, hargs, rfl, rfl, h0, r0⟩ := trodAll_cons hA
  obtain ⟨v1, vs1, d1, ds1, p1, q1, rfl, rfl, rfl, h1, r1⟩ := trodAll_cons r0
  obtain ⟨v2, vs2, d2, ds2, p2, q2, rfl, rfl, rfl, h2, r2⟩ := trodAll_cons r1
  obtain ⟨rfl, rfl, rfl⟩ := trodAll_nil r2
  obtain rfl : args = #[v0, v1, v2] := by cases args; simp_all
  obtain ⟨rfl, rfl⟩ := trodVars_none hV
  obtain ⟨a0, len0, cap0, rfl⟩ := okWide_slice Try.underlying26 (hval 0 26 v0 rfl rfl)
  have k0 := h0
  have lt0 : ∀ x ∈ p0, x.block < W.heap.size := by obtain ⟨m, hm⟩ := k0; exact DataW.trod_lt m _ _ _ hm
  obtain ⟨z0, w0⟩ : ∃ zs, Rd W (.slice a0 len0 cap0) zs := by
    obtain ⟨fuel, hf⟩ := h0
    rcases open_ints Try.underlying26 Try.underlying3 (by kernel_rfl) hf with ⟨hcs, _⟩ | ⟨x, l, c, zs, hcs, _, hl, hm, hz, hx, hcell, hwz⟩
    · simp [Value.cells] at hcs
      obtain ⟨rfl, rfl, rfl⟩ := hcs
      exact ⟨[], Rd.nil _⟩
    · simp [Value.cells] at hcs
      obtain ⟨rfl, rfl, rfl⟩ := hcs
      have hd := congrArg Prod.fst hx
      simp only at hd
      subst hd
      have hs := sized_slice hsz (j := 0) (t := 26) (e := 3) rfl rfl Try.underlying26
      exact ⟨_, Rd.opened hl hm (by simpa using hz) hs hcell⟩
  obtain ⟨a1, len1, cap1, rfl⟩ := okWide_slice Try.underlying26 (hval 1 26 v1 rfl rfl)
  have k1 := h1
  have lt1 : ∀ x ∈ p1, x.block < W.heap.size := by obtain ⟨m, hm⟩ := k1; exact DataW.trod_lt m _ _ _ hm
  obtain ⟨z1, w1⟩ : ∃ zs, Rd W (.slice a1 len1 cap1) zs := by
    obtain ⟨fuel, hf⟩ := h1
    rcases open_ints Try.underlying26 Try.underlying3 (by kernel_rfl) hf with ⟨hcs, _⟩ | ⟨x, l, c, zs, hcs, _, hl, hm, hz, hx, hcell, hwz⟩
    · simp [Value.cells] at hcs
      obtain ⟨rfl, rfl, rfl⟩ := hcs
      exact ⟨[], Rd.nil _⟩
    · simp [Value.cells] at hcs
      obtain ⟨rfl, rfl, rfl⟩ := hcs
      have hd := congrArg Prod.fst hx
      simp only at hd
      subst hd
      have hs := sized_slice hsz (j := 1) (t := 26) (e := 3) rfl rfl Try.underlying26
      exact ⟨_, Rd.opened hl hm (by simpa using hz) hs hcell⟩
  obtain ⟨a2, rfl, rfl, rfl, w2⟩ := open_int Try.underlying3 (hval 2 3 v2 rfl rfl) h2
  clear hA0 hval0 hsz0
  refine (walk _ _ a2 z0 z1 W w0 w1 w2).mono fun e W' ⟨he, bel⟩ => ?_
  subst he
  exact ⟨_, rfl, _, _, _, [], _, [], hW', trodAll_mk1 (shut_bool Try.underlying4 _), (trodAll_cons_mk (Below.trod laidOut (by kernel_rfl) (of_decide_eq_true (by kernel_rfl)) k0 bel lt0) (trodAll_cons_mk (Below.trod laidOut (by kernel_rfl) (of_decide_eq_true (by kernel_rfl)) k1 bel lt1) (trodAll_cons_mk (shut_int Try.underlying3 w2) trodAll_mk0))), rfl, bel.frame _, fun h => by cases h⟩

theorem over : Rows.litsAsksRow.holds Try.pinned (OpenSpec.ofChange Rows.litsAsksSpec) :=
  OpenClaim.holds_of_wide 5 Try.f5 rfl rfl rfl rfl rfl rfl rfl ⟨rfl, rfl, rfl, rfl, rfl⟩ rfl rfl rfl rfl rfl (by kernel_rfl) Try.func5 (by kernel_rfl)
    (of_decide_eq_true (by kernel_rfl)) (by unfold Func.isWrapper; first | (rw [if_pos (by decide +kernel)]; kernel_rfl) | (rw [if_neg (by decide +kernel)]; exact ⟨rfl, rfl⟩))
    (fun os started H enc _ => lifted os started H enc)

theorem proved : Rows.LitsAsksSaid := over
end Go.Proofs.Ythplkllphpnaoaa.litsAsks
