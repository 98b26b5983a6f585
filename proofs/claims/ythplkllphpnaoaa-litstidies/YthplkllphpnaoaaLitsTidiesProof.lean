import Derived.Test.YthplkllphpnaoaaRows
import Derived.Test.YthplkllphpnaoaaRefC
import Derived.Test.YthplkllphpnaoaaOpen
import Derived.WalkKit
import Derived.ProofKit
import Derived.OpenShut
import Derived.ShutString
import Derived.ChangeOld
import Derived.Below
import Derived.SizedLaws
set_option linter.unusedVariables false
set_option linter.unusedSimpArgs false
namespace Go.Proofs.Ythplkllphpnaoaa.litsTidies
open Go.ChangeShapes Go.WideShapes Go.ChangeAt Go.RowKit
open Go.ChangeMaps (open_string shut_string)

theorem own : ownKnob Try.prog.godebug = none := by kernel_rfl
theorem laidOut : laidOutB Try.prog = true := by kernel_rfl

theorem wout8 (zs : List Int) (l : Int) : (wout (tid zs) l).length * 8 ≤ 140737488351232 := by have := wout_len (tid zs) l; have := tid_len zs; omega
theorem refEqual_self (va vb : Value) (a : List Int) (w : World) (ha : Rd w va a) (hb : Rd w vb a) :
    Calls Try.prog 31 #[va, vb] w fun e w' => e = .returned (.bool true) ∧ Below w.heap.size w w' := by
  have := refEqual_any va vb a a w ha hb
  rw [show (a == a) = true from beq_self_eq_true a] at this
  exact this

set_option maxHeartbeats 1600000 in
theorem walk (u0 u1 : Value) (a2 : Int) (z0 z1 : List Int) (w : World) (r0 : Rd w u0 z0) (r1 : Rd w u1 z1) (w2 : (Lit.int .i64 a2).wf = true) :
    Calls Try.prog 6 #[u0, u1, .int .i64 a2] w fun e w' => e = .returned (.bool true) ∧ Below w.heap.size w w' := by
  go_enter Try.func6, Try.ntmps6
  go_wp2_with fail
  refine (copied_any u0 z0 w (r0)).mono ?_
  rintro e w1 ⟨v1, rfl, own1, bel1⟩
  have rd1 := own1.rd ((r0).len)
  go_wp2_with fail
  refine (tidy_any v1 z0 w1 (rd1)).mono ?_
  rintro e w2 ⟨v2, rfl, own2, bel2⟩
  have rd2 := own2.rd (tid8 _)
  have rn3 := ((r0).below bel1).below bel2
  have rn4 := ((r1).below bel1).below bel2
  have bl5 : Below w.heap.size w w2 := (Below.step bel1 bel2)
  go_wp2_with fail
  refine (copied_any u0 z0 w2 (rn3)).mono ?_
  rintro e w6 ⟨v6, rfl, own6, bel6⟩
  have rd6 := own6.rd ((rn3).len)
  go_wp2_with fail
  refine (without_any v6 z0 a2 w6 (rd6)).mono ?_
  rintro e w7 ⟨v7, rfl, own7, bel7⟩
  have rd7 := own7.rd (wout8 _ _)
  have rn8 := ((rn3).below bel6).below bel7
  have rn9 := ((rn4).below bel6).below bel7
  have rn10 := (((rd1).below bel2).below bel6).below bel7
  have rn11 := ((rd2).below bel6).below bel7
  have bl12 : Below w.heap.size w w7 := (Below.step (Below.step bl5 bel6) bel7)
  go_wp2_with fail
  refine (copied_any u0 z0 w7 (rn8)).mono ?_
  rintro e w13 ⟨v13, rfl, own13, bel13⟩
  have rd13 := own13.rd ((rn8).len)
  go_wp2_with fail
  refine (copied_any u1 z1 w13 ((rn9).below bel13)).mono ?_
  rintro e w14 ⟨v14, rfl, own14, bel14⟩
  have rd14 := own14.rd (((rn9).below bel13).len)
  go_wp2_with fail
  refine (join_any sortSaid compactSaid v13 v14 z0 z1 w14 ((rd13).below bel14) (rd14)).mono ?_
  rintro e w15 ⟨v15, rfl, own15, bel15⟩
  have rd15 := own15.rd (tid8 _)
  have rn16 := (((rn8).below bel13).below bel14).below bel15
  have rn17 := (((rn9).below bel13).below bel14).below bel15
  have rn18 := (((rn10).below bel13).below bel14).below bel15
  have rn19 := (((rn11).below bel13).below bel14).below bel15
  have rn20 := ((((rd6).below bel7).below bel13).below bel14).below bel15
  have rn21 := (((rd7).below bel13).below bel14).below bel15
  have rn22 := ((rd13).below bel14).below bel15
  have bl23 : Below w.heap.size w w15 := (Below.step (Below.step (Below.step bl12 bel13) bel14) bel15)
  go_wp2_with fail
  refine (refTidy u0 z0 w15 (rn16)).mono ?_
  rintro e w24 ⟨v24, rfl, own24, bel24⟩
  have rd24 := own24.rd (tid8 _)
  go_wp2_with fail
  refine (refEqual_self v2 v24 (tid z0) w24 ((rn19).below bel24) (rd24)).mono ?_
  rintro e w25 ⟨rfl, bel25⟩
  have rn26 := ((rn16).below bel24).below bel25
  have rn27 := ((rn17).below bel24).below bel25
  have rn28 := ((rn18).below bel24).below bel25
  have rn29 := ((rn19).below bel24).below bel25
  have rn30 := ((rn20).below bel24).below bel25
  have rn31 := ((rn21).below bel24).below bel25
  have rn32 := ((rn22).below bel24).below bel25
  have rn33 := (((rd14).below bel15).below bel24).below bel25
  have rn34 := ((rd15).below bel24).below bel25
  have bl35 : Below w.heap.size w w25 := (Below.step (Below.step bl23 bel24) bel25)
  go_wp2_with fail
  refine (refWithout_any u0 z0 a2 w25 (rn26)).mono ?_
  rintro e w36 ⟨v36, rfl, own36, bel36⟩
  have rd36 := own36.rd (wout8 _ _)
  go_wp2_with fail
  refine (refEqual_self v7 v36 (wout (tid z0) a2) w36 ((rn31).below bel36) (rd36)).mono ?_
  rintro e w37 ⟨rfl, bel37⟩
  have rn38 := ((rn26).below bel36).below bel37
  have rn39 := ((rn27).below bel36).below bel37
  have rn40 := ((rn28).below bel36).below bel37
  have rn41 := ((rn29).below bel36).below bel37
  have rn42 := ((rn30).below bel36).below bel37
  have rn43 := ((rn31).below bel36).below bel37
  have rn44 := ((rn32).below bel36).below bel37
  have rn45 := ((rn33).below bel36).below bel37
  have rn46 := ((rn34).below bel36).below bel37
  have rn47 := (((rd24).below bel25).below bel36).below bel37
  have bl48 : Below w.heap.size w w37 := (Below.step (Below.step bl35 bel36) bel37)
  go_wp2_with fail
  refine (refJoin_any u0 u1 z0 z1 w37 (rn38) (rn39)).mono ?_
  rintro e w49 ⟨v49, rfl, own49, bel49⟩
  have rd49 := own49.rd (tid8 _)
  go_wp2_with fail
  refine (refEqual_self v15 v49 (tid (z0 ++ z1)) w49 ((rn46).below bel49) (rd49)).mono ?_
  rintro e w50 ⟨rfl, bel50⟩
  go_wp2
  go_ret
  exact ⟨rfl, (Below.step (Below.step bl48 bel49) bel50)⟩

set_option maxRecDepth 100000 in
theorem lifted (os : Os) (started : os.Started) (H : Type) (enc : TypeId × Value → H) :
    ReturnsInHanded {} Try.checked os 6 .any (Rows.litsTidiesSpec.pre6 enc Try.prog Try.f6 Rows.litsTidiesRow.domain false) (Rows.litsTidiesSpec.post enc Try.prog Try.f6 false true false false) := by
  refine returnsInHanded_of_change_sized (C := Try.checked) own started (by kernel_rfl) Try.func6
    (ChangeSpec.witness6 (enc := enc) (C := Try.checked) false ⟨#[], #[.slice none 0 0, .slice none 0 0, .int .i64 0], []⟩ 8 (by kernel_rfl) (by kernel_rfl) (by kernel_rfl) (by kernel_rfl)) ?_
  intro W base args ds gs before hval0 hW hcnd hsz0 _
  have hval : ∀ (j : Nat) t v, Try.f6.params[j]? = some t → args[j]? = some v → Value.okWide Try.prog W .any base t v := hval0
  have hsz : (DataW.weightsEach Try.prog (Try.f6.params.toList ++ Rows.litsTidiesSpec.plain.varTypes Try.prog) (ds ++ gs)).all (· ≤ reachBytes) = true := hsz0
  have hW' := hW
  obtain ⟨p, q, hA0, hV, rfl, hfz, hnd⟩ := hW
  have hA : DataW.TrodAll enc Try.prog W 0 (fun _ => true) true Try.f6.params.toList args.toList ds p := hA0
  rw [Try.params6] at hA hval hsz
  obtain ⟨v0, vs0, d0, ds0, p0, q0, hargs, rfl, rfl, h0, r0⟩ := trodAll_cons hA
  obtain ⟨v1, vs1, d1, ds1, p1, q1, rfl, rfl, rfl, h1, r1⟩ := trodAll_cons r0
  obtain ⟨v2, vs2, d2, ds2, p2, q2, rfl, rfl, rfl, h2, r2⟩ := trodAll_cons r1
  obtain ⟨rfl, rfl, rfl⟩ := trodAll_nil r2
  obtain rfl : args = #[v0, v1, v2] := by cases args; simp_all
  obtain ⟨rfl, rfl⟩ := trodVars_none hV
  obtain ⟨a0, len0, cap0, rfl⟩ := okWide_slice Try.underlying26 (hval 0 26 v0 rfl rfl)
  have k0 := h0
  have lt0 : ∀ x ∈ p0, x.block < W.heap.size := by obtain ⟨m, hm⟩ := k0; exact DataW.trod_lt m _ _ _ hm
  obtain ⟨z0, w0⟩ : ∃ zs, Rd W (.slice a0 len0 cap0) zs := by
    obtain ⟨fuel, hf⟩ := h0
    rcases open_ints Try.underlying26 Try.underlying3 (by kernel_rfl) hf with ⟨hcs, _⟩ | ⟨x, l, c, zs, hcs, _, hl, hm, hz, hx, hcell, hwz⟩
    · simp [Value.cells] at hcs
      obtain ⟨rfl, rfl, rfl⟩ := hcs
      exact ⟨[], Rd.nil _⟩
    · simp [Value.cells] at hcs
      obtain ⟨rfl, rfl, rfl⟩ := hcs
      have hd := congrArg Prod.fst hx
      simp only at hd
      subst hd
      have hs := sized_slice hsz (j := 0) (t := 26) (e := 3) rfl rfl Try.underlying26
      exact ⟨_, Rd.opened hl hm (by simpa using hz) hs hcell⟩
  obtain ⟨a1, len1, cap1, rfl⟩ := okWide_slice Try.underlying26 (hval 1 26 v1 rfl rfl)
  have k1 := h1
  have lt1 : ∀ x ∈ p1, x.block < W.heap.size := by obtain ⟨m, hm⟩ := k1; exact DataW.trod_lt m _ _ _ hm
  obtain ⟨z1, w1⟩ : ∃ zs, Rd W (.slice a1 len1 cap1) zs := by
    obtain ⟨fuel, hf⟩ := h1
    rcases open_ints Try.underlying26 Try.underlying3 (by kernel_rfl) hf with ⟨hcs, _⟩ | ⟨x, l, c, zs, hcs, _, hl, hm, hz, hx, hcell, hwz⟩
    · simp [Value.cells] at hcs
      obtain ⟨rfl, rfl, rfl⟩ := hcs
      exact ⟨[], Rd.nil _⟩
    · simp [Value.cells] at hcs
      obtain ⟨rfl, rfl, rfl⟩ := hcs
      have hd := congrArg Prod.fst hx
      simp only at hd
      subst hd
      have hs := sized_slice hsz (j := 1) (t := 26) (e := 3) rfl rfl Try.underlying26
      exact ⟨_, Rd.opened hl hm (by simpa using hz) hs hcell⟩
  obtain ⟨a2, rfl, rfl, rfl, w2⟩ := open_int Try.underlying3 (hval 2 3 v2 rfl rfl) h2
  clear hA0 hval0 hsz0
  refine (walk _ _ a2 z0 z1 W w0 w1 w2).mono fun e W' ⟨he, bel⟩ => ?_
  subst he
  exact ⟨_, rfl, _, _, _, [], _, [], hW', trodAll_mk1 (shut_bool Try.underlying4 _), (trodAll_cons_mk (Below.trod laidOut (by kernel_rfl) (of_decide_eq_true (by kernel_rfl)) k0 bel lt0) (trodAll_cons_mk (Below.trod laidOut (by kernel_rfl) (of_decide_eq_true (by kernel_rfl)) k1 bel lt1) (trodAll_cons_mk (shut_int Try.underlying3 w2) trodAll_mk0))), rfl, bel.frame _, fun h => by cases h⟩

theorem over : Rows.litsTidiesRow.holds Try.pinned (OpenSpec.ofChange Rows.litsTidiesSpec) :=
  OpenClaim.holds_of_wide 6 Try.f6 rfl rfl rfl rfl rfl rfl rfl ⟨rfl, rfl, rfl, rfl, rfl⟩ rfl rfl rfl rfl rfl (by kernel_rfl) Try.func6 (by kernel_rfl)
    (of_decide_eq_true (by kernel_rfl)) (by unfold Func.isWrapper; first | (rw [if_pos (by decide +kernel)]; kernel_rfl) | (rw [if_neg (by decide +kernel)]; exact ⟨rfl, rfl⟩))
    (fun os started H enc _ => lifted os started H enc)

theorem proved : Rows.LitsTidiesSaid := over
end Go.Proofs.Ythplkllphpnaoaa.litsTidies
