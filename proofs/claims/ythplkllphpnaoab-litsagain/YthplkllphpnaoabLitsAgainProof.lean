import Derived.Test.YthplkllphpnaoabRows
import Derived.Test.YthplkllphpnaoabRefC
import Derived.Test.YthplkllphpnaoabOpen
import Derived.WalkKit
import Derived.ProofKit
import Derived.OpenShut
import Derived.ShutString
import Derived.ChangeOld
import Derived.Below
import Derived.SizedLaws
set_option linter.unusedVariables false
set_option linter.unusedSimpArgs false
namespace Go.Proofs.Ythplkllphpnaoab.litsAgain
open Go.ChangeShapes Go.WideShapes Go.ChangeAt Go.RowKit
open Go.ChangeMaps (open_string shut_string)

theorem own : ownKnob Try.prog.godebug = none := by kernel_rfl
theorem laidOut : laidOutB Try.prog = true := by kernel_rfl

theorem own_store {base : Nat} {w : World} {g cap n m : Nat} {Y : List Int} {z : Int} (h : Own base w (.slice (some ⟨g, 0, none⟩) n cap) Y) (hl : Y.length = n) :
    Own base (w.setCell ⟨g, m, none⟩ (.int .i64 z)) (.slice (some ⟨g, 0, none⟩) n cap) (Y.set m z) := by
  subst hl
  have := (World.ownsRow.stored h m (.int .i64 z)).1
  unfold Own
  rw [List.length_set, List.map_set]
  exact this
theorem own_setCell_other {base : Nat} {w : World} {v : Value} {zs : List Int} {g m : Nat} (h : Own base w v zs) (hg : g < base) (u : Value) : Own base (w.setCell ⟨g, m, none⟩ u) v zs :=
  ownsRow_setCell_below h (a := ⟨g, m, none⟩) hg u
theorem taut_one (l : Int) : adj (tid [l]) = false := by
  cases hf : fmd l
  · rw [tid_one_no hf]; rfl
  · rw [tid_one_yes hf]; rfl

set_option maxHeartbeats 6400000 in
set_option maxRecDepth 100000 in
theorem walk (u0 u1 : Value) (a2 : Int) (z0 z1 : List Int) (w : World) (r0 : Rd w u0 z0) (r1 : Rd w u1 z1) (w2 : (Lit.int .i64 a2).wf = true) :
    Calls Try.prog 8 #[u0, u1, .int .i64 a2] w fun e w' => e = .returned (.bool true) ∧ Below w.heap.size w w' := by
  have r0' := r0
  have r1' := r1
  obtain ⟨hl0, aa, ca, rfl, hca, hma, hna, h2a⟩ := r0'
  obtain ⟨hl1, ab, cb, rfl, hcb, hmb, hnb, h2b⟩ := r1'
  have H2a : Hid (AddrOf w aa z0) := h2a
  have H2b : Hid (AddrOf w ab z1) := h2b
  clear h2a h2b hna hnb w2
  go_enter Try.func8, Try.ntmps8
  go_wp2_with fail
  refine (copied_any _ z0 w r0).mono ?_
  rintro e w1 ⟨v1, rfl, own1, bel1⟩
  go_wp2_with fail
  refine (copied_any _ z1 w1 (r1.below bel1)).mono ?_
  rintro e w2 ⟨v2, rfl, own2, bel2⟩
  obtain ⟨_, ao, co, hv1, hco, hmo, hno, _⟩ := own1.rd hl0
  rw [hv1]
  rw [hv1] at own1
  have HB : Hid (∀ g, ao = some ⟨g, 0, none⟩ → w.heap.size ≤ g ∧ g < w1.heap.size) := fun g hg => by subst hg; exact World.ownsRow.lt own1 g rfl
  have ownx := own1.below bel2
  have bel0 := Below.step bel1 bel2
  have HO : Hid (Own w.heap.size w2 (.slice ao z0.length co) z0) := ownx
  have HY : Hid (Own w1.heap.size w2 v2 z1) := own2
  clear hv1 own1 bel2 own2 ownx r0 r1 hno
  go_wp2
  go_loopg [9] 3 (fun g i wr => ∃ (k : Nat) (X : List Int), k + g = 3 ∧ i = .int .i64 k ∧ X.length = z0.length ∧ Own w.heap.size wr (.slice ao z0.length co) X ∧ Own w1.heap.size wr v2 z1 ∧ Below w.heap.size w wr)
  case atStart => exact ⟨0, z0, by omega, rfl, rfl, HO.out, HY.out, bel0⟩
  case round =>
    obtain ⟨k, X, hk, rfl, hXlen, ownx, owny, bel⟩ := hrel
    clear bel0 HO HY
    have rx := ownx.rd (by omega)
    have ry := owny.rd hl1
    rcases (by omega : k = 0 ∧ gk = 3 ∨ k = 1 ∧ gk = 2 ∨ k = 2 ∧ gk = 1 ∨ k = 3 ∧ gk = 0) with ⟨rfl, rfl⟩ | ⟨rfl, rfl⟩ | ⟨rfl, rfl⟩ | ⟨rfl, rfl⟩
    · clear hk
      go_wp2_with fail
      refine (sound_any _ X wr (rx)).mono ?_
      rintro e wx ⟨rfl, hwx⟩
      rw [hwx]
      clear hwx wx
      go_wp2_with fail
      refine (copied_any _ X wr (rx)).mono ?_
      rintro e w11 ⟨v11, rfl, own11, bel11⟩
      have rd11 := own11.rd ((rx).len)
      go_wp2_with fail
      refine (refSound_any _ X w11 (rd11)).mono ?_
      rintro e wx ⟨rfl, hwx⟩
      rw [hwx]
      clear hwx wx
      have bl12 : Below w.heap.size w w11 := (Below.step bel bel11)
      go_wp2_with fail
      refine (has_any _ X a2 w11 ((rx).below bel11)).mono ?_
      rintro e wx ⟨rfl, hwx⟩
      rw [hwx]
      clear hwx wx
      go_wp2_with fail
      refine (copied_any _ X w11 ((rx).below bel11)).mono ?_
      rintro e w13 ⟨v13, rfl, own13, bel13⟩
      have rd13 := own13.rd (((rx).below bel11).len)
      go_wp2_with fail
      refine (refHas_any _ X a2 w13 (rd13)).mono ?_
      rintro e wx ⟨rfl, hwx⟩
      rw [hwx]
      clear hwx wx
      have rn14 := ((rx).below bel11).below bel13
      have rn15 := ((ownx).below bel11).below bel13
      have rn16 := ((ry).below bel11).below bel13
      have rn17 := ((owny).below bel11).below bel13
      have bl18 : Below w.heap.size w w13 := (Below.step bl12 bel13)
      go_wp2_with fail
      refine (taut_any _ X w13 (rn14)).mono ?_
      rintro e w19 ⟨rfl, bel19⟩
      go_wp2_with fail
      refine (copied_any _ X w19 ((rn14).below bel19)).mono ?_
      rintro e w20 ⟨v20, rfl, own20, bel20⟩
      have rd20 := own20.rd (((rn14).below bel19).len)
      go_wp2_with fail
      refine (refTaut_any _ X w20 (rd20)).mono ?_
      rintro e w21 ⟨rfl, bel21⟩
      have rn22 := (((rn14).below bel19).below bel20).below bel21
      have rn23 := (((rn15).below bel19).below bel20).below bel21
      have rn24 := (((rn16).below bel19).below bel20).below bel21
      have rn25 := (((rn17).below bel19).below bel20).below bel21
      have rn26 := ((((rd11).below bel13).below bel19).below bel20).below bel21
      have rn27 := (((rd13).below bel19).below bel20).below bel21
      have bl28 : Below w.heap.size w w21 := (Below.step (Below.step (Below.step bl18 bel19) bel20) bel21)
      go_wp2_with fail
      refine (same_any _ _ X z1 w21 (rn22) (rn24)).mono ?_
      rintro e w29 ⟨rfl, bel29⟩
      go_wp2_with fail
      refine (copied_any _ X w29 ((rn22).below bel29)).mono ?_
      rintro e w30 ⟨v30, rfl, own30, bel30⟩
      have rd30 := own30.rd (((rn22).below bel29).len)
      go_wp2_with fail
      refine (copied_any _ z1 w30 (((rn24).below bel29).below bel30)).mono ?_
      rintro e w31 ⟨v31, rfl, own31, bel31⟩
      have rd31 := own31.rd ((((rn24).below bel29).below bel30).len)
      go_wp2_with fail
      refine (refSame_any _ _ X z1 w31 ((rd30).below bel31) (rd31)).mono ?_
      rintro e w32 ⟨rfl, bel32⟩
      have rn33 := ((((rn22).below bel29).below bel30).below bel31).below bel32
      have rn34 := ((((rn23).below bel29).below bel30).below bel31).below bel32
      have rn35 := ((((rn24).below bel29).below bel30).below bel31).below bel32
      have rn36 := ((((rn25).below bel29).below bel30).below bel31).below bel32
      have rn37 := ((((rn26).below bel29).below bel30).below bel31).below bel32
      have rn38 := ((((rn27).below bel29).below bel30).below bel31).below bel32
      have rn39 := (((((rd20).below bel21).below bel29).below bel30).below bel31).below bel32
      have rn40 := ((rd30).below bel31).below bel32
      have bl41 : Below w.heap.size w w32 := (Below.step (Below.step (Below.step (Below.step bl28 bel29) bel30) bel31) bel32)
      go_wp2_with fail
      refine (subsumes_any _ _ X z1 w32 (rn33) (rn35)).mono ?_
      rintro e w42 ⟨rfl, bel42⟩
      go_wp2_with fail
      refine (copied_any _ X w42 ((rn33).below bel42)).mono ?_
      rintro e w43 ⟨v43, rfl, own43, bel43⟩
      have rd43 := own43.rd (((rn33).below bel42).len)
      go_wp2_with fail
      refine (copied_any _ z1 w43 (((rn35).below bel42).below bel43)).mono ?_
      rintro e w44 ⟨v44, rfl, own44, bel44⟩
      have rd44 := own44.rd ((((rn35).below bel42).below bel43).len)
      go_wp2_with fail
      refine (refSubsumes_any _ _ X z1 w44 ((rd43).below bel44) (rd44)).mono ?_
      rintro e w45 ⟨rfl, bel45⟩
      have rn46 := ((((rn33).below bel42).below bel43).below bel44).below bel45
      have rn47 := ((((rn34).below bel42).below bel43).below bel44).below bel45
      have rn48 := ((((rn35).below bel42).below bel43).below bel44).below bel45
      have rn49 := ((((rn36).below bel42).below bel43).below bel44).below bel45
      have rn50 := ((((rn37).below bel42).below bel43).below bel44).below bel45
      have rn51 := ((((rn38).below bel42).below bel43).below bel44).below bel45
      have rn52 := ((((rn39).below bel42).below bel43).below bel44).below bel45
      have rn53 := ((((rn40).below bel42).below bel43).below bel44).below bel45
      have rn54 := (((((rd31).below bel32).below bel42).below bel43).below bel44).below bel45
      have rn55 := ((rd43).below bel44).below bel45
      have bl56 : Below w.heap.size w w45 := (Below.step (Below.step (Below.step (Below.step bl41 bel42) bel43) bel44) bel45)
      go_wp2
      go_loopg [10] z0.length (fun g i wq => ∃ (m : Nat) (Y : List Int), m + g = z0.length ∧ i = .int .i64 m ∧ Y.length = z0.length ∧ Own w.heap.size wq (.slice ao z0.length co) Y ∧ Own w1.heap.size wq v2 z1 ∧ Below w.heap.size w wq)
      case atStart => exact ⟨0, X, by omega, rfl, hXlen, rn47, rn49, bl56⟩
      case round =>
        obtain ⟨m, Y, hm, rfl, hXl, ownx3, owny3, bel3⟩ := hrel
        by_cases hlt : m < z0.length
        · by_cases hltb : m < z1.length
          · obtain ⟨bb, oo, e, hbb, hcell⟩ := H2b.out (by intro h; rw [h] at hltb; simp at hltb)
            have hck : wr.cell? ⟨bb, oo + m, none⟩ = some (.int .i64 (z1.getD m 0)) := cell_in hbb bel3 hcell hltb
            clear hcell
            subst e
            obtain ⟨g, cap, e, hH, hg, hbase, hncap, hmm⟩ := own_holds ownx3 (by intro h; rw [h] at hXl; simp at hXl; omega)
            simp only [Value.slice.injEq] at e
            obtain ⟨e1, e2, e3⟩ := e
            subst e1
            subst e3
            clear e2
            obtain ⟨hg1, hg2⟩ := HB.out g rfl
            have hfr : wr.frozen? ⟨g, m, none⟩ = false := by have := (hH m (by simpa using (show m < Y.length by omega))).2; simpa using this
            have hcg : wr.cell? ⟨g, m, none⟩ = some (.int .i64 (Y.getD m 0)) := by
              have := (hH m (by simpa using (show m < Y.length by omega))).1
              simpa [List.getD_eq_getElem?_getD, getElem!_def, Array.getElem?_eq_getElem, show m < Y.length by omega] using this
            have SX : Hid (Own w.heap.size (wr.setCell ⟨g, m, none⟩ (.int .i64 (z1.getD m 0))) (.slice (some ⟨g, 0, none⟩) z0.length co) (Y.set m (z1.getD m 0))) := own_store ownx3 hXl
            have SY : Hid (Own w1.heap.size (wr.setCell ⟨g, m, none⟩ (.int .i64 (z1.getD m 0))) v2 z1) := own_setCell_other owny3 hg2 _
            have SB : Hid (Below w.heap.size w (wr.setCell ⟨g, m, none⟩ (.int .i64 (z1.getD m 0)))) := bel3.setCell hg1 _
            have HK : Hid (m + gk = z0.length) := hm
            clear hm hH ownx3 owny3 bel3
            generalize z1.getD m 0 = z at *
            generalize Y.getD m 0 = yy at *
            go_wp2
            go_roundg (gk - 1)
            case measure => have := HK.out; omega
            case rel => exact ⟨m + 1, Y.set m z, by have := HK.out; omega, by go_num, by simp [hXl], SX.out, SY.out, SB.out⟩
          · have hd : decide ((m : Int) < (z1.length : Int)) = false := decide_eq_false (by omega)
            have HK : Hid (m + gk = z0.length) := hm
            clear hm
            go_wp2
            go_roundg (gk - 1)
            case measure => have := HK.out; omega
            case rel => exact ⟨m + 1, Y, by have := HK.out; omega, by go_num, hXl, ownx3, owny3, bel3⟩
        · obtain rfl : m = z0.length := by omega
          clear hm
          go_wp2
          go_roundg 2
          case measure => omega
          case rel => exact ⟨1, Y, by omega, by go_num, hXl, ownx3, owny3, bel3⟩
    · clear hk
      go_wp2_with fail
      refine (sound_any _ X wr (rx)).mono ?_
      rintro e wx ⟨rfl, hwx⟩
      rw [hwx]
      clear hwx wx
      go_wp2_with fail
      refine (copied_any _ X wr (rx)).mono ?_
      rintro e w11 ⟨v11, rfl, own11, bel11⟩
      have rd11 := own11.rd ((rx).len)
      go_wp2_with fail
      refine (refSound_any _ X w11 (rd11)).mono ?_
      rintro e wx ⟨rfl, hwx⟩
      rw [hwx]
      clear hwx wx
      have bl12 : Below w.heap.size w w11 := (Below.step bel bel11)
      go_wp2_with fail
      refine (has_any _ X a2 w11 ((rx).below bel11)).mono ?_
      rintro e wx ⟨rfl, hwx⟩
      rw [hwx]
      clear hwx wx
      go_wp2_with fail
      refine (copied_any _ X w11 ((rx).below bel11)).mono ?_
      rintro e w13 ⟨v13, rfl, own13, bel13⟩
      have rd13 := own13.rd (((rx).below bel11).len)
      go_wp2_with fail
      refine (refHas_any _ X a2 w13 (rd13)).mono ?_
      rintro e wx ⟨rfl, hwx⟩
      rw [hwx]
      clear hwx wx
      have rn14 := ((rx).below bel11).below bel13
      have rn15 := ((ownx).below bel11).below bel13
      have rn16 := ((ry).below bel11).below bel13
      have rn17 := ((owny).below bel11).below bel13
      have bl18 : Below w.heap.size w w13 := (Below.step bl12 bel13)
      go_wp2_with fail
      refine (taut_any _ X w13 (rn14)).mono ?_
      rintro e w19 ⟨rfl, bel19⟩
      go_wp2_with fail
      refine (copied_any _ X w19 ((rn14).below bel19)).mono ?_
      rintro e w20 ⟨v20, rfl, own20, bel20⟩
      have rd20 := own20.rd (((rn14).below bel19).len)
      go_wp2_with fail
      refine (refTaut_any _ X w20 (rd20)).mono ?_
      rintro e w21 ⟨rfl, bel21⟩
      have rn22 := (((rn14).below bel19).below bel20).below bel21
      have rn23 := (((rn15).below bel19).below bel20).below bel21
      have rn24 := (((rn16).below bel19).below bel20).below bel21
      have rn25 := (((rn17).below bel19).below bel20).below bel21
      have rn26 := ((((rd11).below bel13).below bel19).below bel20).below bel21
      have rn27 := (((rd13).below bel19).below bel20).below bel21
      have bl28 : Below w.heap.size w w21 := (Below.step (Below.step (Below.step bl18 bel19) bel20) bel21)
      go_wp2_with fail
      refine (same_any _ _ X z1 w21 (rn22) (rn24)).mono ?_
      rintro e w29 ⟨rfl, bel29⟩
      go_wp2_with fail
      refine (copied_any _ X w29 ((rn22).below bel29)).mono ?_
      rintro e w30 ⟨v30, rfl, own30, bel30⟩
      have rd30 := own30.rd (((rn22).below bel29).len)
      go_wp2_with fail
      refine (copied_any _ z1 w30 (((rn24).below bel29).below bel30)).mono ?_
      rintro e w31 ⟨v31, rfl, own31, bel31⟩
      have rd31 := own31.rd ((((rn24).below bel29).below bel30).len)
      go_wp2_with fail
      refine (refSame_any _ _ X z1 w31 ((rd30).below bel31) (rd31)).mono ?_
      rintro e w32 ⟨rfl, bel32⟩
      have rn33 := ((((rn22).below bel29).below bel30).below bel31).below bel32
      have rn34 := ((((rn23).below bel29).below bel30).below bel31).below bel32
      have rn35 := ((((rn24).below bel29).below bel30).below bel31).below bel32
      have rn36 := ((((rn25).below bel29).below bel30).below bel31).below bel32
      have rn37 := ((((rn26).below bel29).below bel30).below bel31).below bel32
      have rn38 := ((((rn27).below bel29).below bel30).below bel31).below bel32
      have rn39 := (((((rd20).below bel21).below bel29).below bel30).below bel31).below bel32
      have rn40 := ((rd30).below bel31).below bel32
      have bl41 : Below w.heap.size w w32 := (Below.step (Below.step (Below.step (Below.step bl28 bel29) bel30) bel31) bel32)
      go_wp2_with fail
      refine (subsumes_any _ _ X z1 w32 (rn33) (rn35)).mono ?_
      rintro e w42 ⟨rfl, bel42⟩
      go_wp2_with fail
      refine (copied_any _ X w42 ((rn33).below bel42)).mono ?_
      rintro e w43 ⟨v43, rfl, own43, bel43⟩
      have rd43 := own43.rd (((rn33).below bel42).len)
      go_wp2_with fail
      refine (copied_any _ z1 w43 (((rn35).below bel42).below bel43)).mono ?_
      rintro e w44 ⟨v44, rfl, own44, bel44⟩
      have rd44 := own44.rd ((((rn35).below bel42).below bel43).len)
      go_wp2_with fail
      refine (refSubsumes_any _ _ X z1 w44 ((rd43).below bel44) (rd44)).mono ?_
      rintro e w45 ⟨rfl, bel45⟩
      have rn46 := ((((rn33).below bel42).below bel43).below bel44).below bel45
      have rn47 := ((((rn34).below bel42).below bel43).below bel44).below bel45
      have rn48 := ((((rn35).below bel42).below bel43).below bel44).below bel45
      have rn49 := ((((rn36).below bel42).below bel43).below bel44).below bel45
      have rn50 := ((((rn37).below bel42).below bel43).below bel44).below bel45
      have rn51 := ((((rn38).below bel42).below bel43).below bel44).below bel45
      have rn52 := ((((rn39).below bel42).below bel43).below bel44).below bel45
      have rn53 := ((((rn40).below bel42).below bel43).below bel44).below bel45
      have rn54 := (((((rd31).below bel32).below bel42).below bel43).below bel44).below bel45
      have rn55 := ((rd43).below bel44).below bel45
      have bl56 : Below w.heap.size w w45 := (Below.step (Below.step (Below.step (Below.step bl41 bel42) bel43) bel44) bel45)
      go_wp2
      go_loopg [10] z0.length (fun g i wq => ∃ (m : Nat) (Y : List Int), m + g = z0.length ∧ i = .int .i64 m ∧ Y.length = z0.length ∧ Own w.heap.size wq (.slice ao z0.length co) Y ∧ Own w1.heap.size wq v2 z1 ∧ Below w.heap.size w wq)
      case atStart => exact ⟨0, X, by omega, rfl, hXlen, rn47, rn49, bl56⟩
      case round =>
        obtain ⟨m, Y, hm, rfl, hXl, ownx3, owny3, bel3⟩ := hrel
        by_cases hlt : m < z0.length
        · obtain ⟨bb, oo, e, hbb, hcell⟩ := H2a.out (by intro h; rw [h] at hlt; simp at hlt)
          have hck : wr.cell? ⟨bb, oo + m, none⟩ = some (.int .i64 (z0.getD m 0)) := cell_in hbb bel3 hcell hlt
          clear hcell
          subst e
          obtain ⟨g, cap, e, hH, hg, hbase, hncap, hmm⟩ := own_holds ownx3 (by intro h; rw [h] at hXl; simp at hXl; omega)
          simp only [Value.slice.injEq] at e
          obtain ⟨e1, e2, e3⟩ := e
          subst e1
          subst e3
          clear e2
          obtain ⟨hg1, hg2⟩ := HB.out g rfl
          have hfr : wr.frozen? ⟨g, m, none⟩ = false := by have := (hH m (by simpa using (show m < Y.length by omega))).2; simpa using this
          have hcg : wr.cell? ⟨g, m, none⟩ = some (.int .i64 (Y.getD m 0)) := by
            have := (hH m (by simpa using (show m < Y.length by omega))).1
            simpa [List.getD_eq_getElem?_getD, getElem!_def, Array.getElem?_eq_getElem, show m < Y.length by omega] using this
          have SX : Hid (Own w.heap.size (wr.setCell ⟨g, m, none⟩ (.int .i64 (z0.getD m 0))) (.slice (some ⟨g, 0, none⟩) z0.length co) (Y.set m (z0.getD m 0))) := own_store ownx3 hXl
          have SY : Hid (Own w1.heap.size (wr.setCell ⟨g, m, none⟩ (.int .i64 (z0.getD m 0))) v2 z1) := own_setCell_other owny3 hg2 _
          have SB : Hid (Below w.heap.size w (wr.setCell ⟨g, m, none⟩ (.int .i64 (z0.getD m 0)))) := bel3.setCell hg1 _
          have HK : Hid (m + gk = z0.length) := hm
          clear hm hH ownx3 owny3 bel3
          generalize z0.getD m 0 = z at *
          generalize Y.getD m 0 = yy at *
          go_wp2
          go_roundg (gk - 1)
          case measure => have := HK.out; omega
          case rel => exact ⟨m + 1, Y.set m z, by have := HK.out; omega, by go_num, by simp [hXl], SX.out, SY.out, SB.out⟩
        · obtain rfl : m = z0.length := by omega
          clear hm
          go_wp2
          go_roundg 1
          case measure => omega
          case rel => exact ⟨2, Y, by omega, by go_num, hXl, ownx3, owny3, bel3⟩
    · clear hk
      go_wp2_with fail
      refine (sound_any _ X wr (rx)).mono ?_
      rintro e wx ⟨rfl, hwx⟩
      rw [hwx]
      clear hwx wx
      go_wp2_with fail
      refine (copied_any _ X wr (rx)).mono ?_
      rintro e w11 ⟨v11, rfl, own11, bel11⟩
      have rd11 := own11.rd ((rx).len)
      go_wp2_with fail
      refine (refSound_any _ X w11 (rd11)).mono ?_
      rintro e wx ⟨rfl, hwx⟩
      rw [hwx]
      clear hwx wx
      have bl12 : Below w.heap.size w w11 := (Below.step bel bel11)
      go_wp2_with fail
      refine (has_any _ X a2 w11 ((rx).below bel11)).mono ?_
      rintro e wx ⟨rfl, hwx⟩
      rw [hwx]
      clear hwx wx
      go_wp2_with fail
      refine (copied_any _ X w11 ((rx).below bel11)).mono ?_
      rintro e w13 ⟨v13, rfl, own13, bel13⟩
      have rd13 := own13.rd (((rx).below bel11).len)
      go_wp2_with fail
      refine (refHas_any _ X a2 w13 (rd13)).mono ?_
      rintro e wx ⟨rfl, hwx⟩
      rw [hwx]
      clear hwx wx
      have rn14 := ((rx).below bel11).below bel13
      have rn15 := ((ownx).below bel11).below bel13
      have rn16 := ((ry).below bel11).below bel13
      have rn17 := ((owny).below bel11).below bel13
      have bl18 : Below w.heap.size w w13 := (Below.step bl12 bel13)
      go_wp2_with fail
      refine (taut_any _ X w13 (rn14)).mono ?_
      rintro e w19 ⟨rfl, bel19⟩
      go_wp2_with fail
      refine (copied_any _ X w19 ((rn14).below bel19)).mono ?_
      rintro e w20 ⟨v20, rfl, own20, bel20⟩
      have rd20 := own20.rd (((rn14).below bel19).len)
      go_wp2_with fail
      refine (refTaut_any _ X w20 (rd20)).mono ?_
      rintro e w21 ⟨rfl, bel21⟩
      have rn22 := (((rn14).below bel19).below bel20).below bel21
      have rn23 := (((rn15).below bel19).below bel20).below bel21
      have rn24 := (((rn16).below bel19).below bel20).below bel21
      have rn25 := (((rn17).below bel19).below bel20).below bel21
      have rn26 := ((((rd11).below bel13).below bel19).below bel20).below bel21
      have rn27 := (((rd13).below bel19).below bel20).below bel21
      have bl28 : Below w.heap.size w w21 := (Below.step (Below.step (Below.step bl18 bel19) bel20) bel21)
      go_wp2_with fail
      refine (same_any _ _ X z1 w21 (rn22) (rn24)).mono ?_
      rintro e w29 ⟨rfl, bel29⟩
      go_wp2_with fail
      refine (copied_any _ X w29 ((rn22).below bel29)).mono ?_
      rintro e w30 ⟨v30, rfl, own30, bel30⟩
      have rd30 := own30.rd (((rn22).below bel29).len)
      go_wp2_with fail
      refine (copied_any _ z1 w30 (((rn24).below bel29).below bel30)).mono ?_
      rintro e w31 ⟨v31, rfl, own31, bel31⟩
      have rd31 := own31.rd ((((rn24).below bel29).below bel30).len)
      go_wp2_with fail
      refine (refSame_any _ _ X z1 w31 ((rd30).below bel31) (rd31)).mono ?_
      rintro e w32 ⟨rfl, bel32⟩
      have rn33 := ((((rn22).below bel29).below bel30).below bel31).below bel32
      have rn34 := ((((rn23).below bel29).below bel30).below bel31).below bel32
      have rn35 := ((((rn24).below bel29).below bel30).below bel31).below bel32
      have rn36 := ((((rn25).below bel29).below bel30).below bel31).below bel32
      have rn37 := ((((rn26).below bel29).below bel30).below bel31).below bel32
      have rn38 := ((((rn27).below bel29).below bel30).below bel31).below bel32
      have rn39 := (((((rd20).below bel21).below bel29).below bel30).below bel31).below bel32
      have rn40 := ((rd30).below bel31).below bel32
      have bl41 : Below w.heap.size w w32 := (Below.step (Below.step (Below.step (Below.step bl28 bel29) bel30) bel31) bel32)
      go_wp2_with fail
      refine (subsumes_any _ _ X z1 w32 (rn33) (rn35)).mono ?_
      rintro e w42 ⟨rfl, bel42⟩
      go_wp2_with fail
      refine (copied_any _ X w42 ((rn33).below bel42)).mono ?_
      rintro e w43 ⟨v43, rfl, own43, bel43⟩
      have rd43 := own43.rd (((rn33).below bel42).len)
      go_wp2_with fail
      refine (copied_any _ z1 w43 (((rn35).below bel42).below bel43)).mono ?_
      rintro e w44 ⟨v44, rfl, own44, bel44⟩
      have rd44 := own44.rd ((((rn35).below bel42).below bel43).len)
      go_wp2_with fail
      refine (refSubsumes_any _ _ X z1 w44 ((rd43).below bel44) (rd44)).mono ?_
      rintro e w45 ⟨rfl, bel45⟩
      have rn46 := ((((rn33).below bel42).below bel43).below bel44).below bel45
      have rn47 := ((((rn34).below bel42).below bel43).below bel44).below bel45
      have rn48 := ((((rn35).below bel42).below bel43).below bel44).below bel45
      have rn49 := ((((rn36).below bel42).below bel43).below bel44).below bel45
      have rn50 := ((((rn37).below bel42).below bel43).below bel44).below bel45
      have rn51 := ((((rn38).below bel42).below bel43).below bel44).below bel45
      have rn52 := ((((rn39).below bel42).below bel43).below bel44).below bel45
      have rn53 := ((((rn40).below bel42).below bel43).below bel44).below bel45
      have rn54 := (((((rd31).below bel32).below bel42).below bel43).below bel44).below bel45
      have rn55 := ((rd43).below bel44).below bel45
      have bl56 : Below w.heap.size w w45 := (Below.step (Below.step (Below.step (Below.step bl41 bel42) bel43) bel44) bel45)
      go_wp2
      go_loopg [10] z0.length (fun g i wq => ∃ (m : Nat) (Y : List Int), m + g = z0.length ∧ i = .int .i64 m ∧ Y.length = z0.length ∧ Own w.heap.size wq (.slice ao z0.length co) Y ∧ Own w1.heap.size wq v2 z1 ∧ Below w.heap.size w wq)
      case atStart => exact ⟨0, X, by omega, rfl, hXlen, rn47, rn49, bl56⟩
      case round =>
        obtain ⟨m, Y, hm, rfl, hXl, ownx3, owny3, bel3⟩ := hrel
        by_cases hlt : m < z0.length
        · have HK : Hid (m + gk = z0.length) := hm
          clear hm
          go_wp2
          go_roundg (gk - 1)
          case measure => have := HK.out; omega
          case rel => exact ⟨m + 1, Y, by have := HK.out; omega, by go_num, hXl, ownx3, owny3, bel3⟩
        · obtain rfl : m = z0.length := by omega
          clear hm
          go_wp2
          go_roundg 0
          case measure => omega
          case rel => exact ⟨3, Y, by omega, by go_num, hXl, ownx3, owny3, bel3⟩
    · clear hk
      go_wp2_with fail
      refine (sound_any (.slice none 0 0) [] wr (Rd.nil wr)).mono ?_
      rintro e wx ⟨rfl, hwx⟩
      rw [hwx]
      clear hwx wx
      have o1 := own_one wr a2
      have ct := taut_any _ [a2] _ (o1.rd (by simp))
      rw [taut_one] at ct
      go_wp2_with fail
      refine ct.mono ?_
      rintro e w5 ⟨rfl, bel5⟩
      go_wp2
      go_ret
      exact ⟨by simp, Below.step bel (Below.step ((Below.refl _ _).alloc (Nat.le_refl _) _) bel5)⟩

set_option maxRecDepth 100000 in
theorem lifted (os : Os) (started : os.Started) (H : Type) (enc : TypeId × Value → H) :
    ReturnsInHanded {} Try.checked os 8 .any (Rows.litsAgainSpec.pre6 enc Try.prog Try.f8 Rows.litsAgainRow.domain false) (Rows.litsAgainSpec.post enc Try.prog Try.f8 false true false false) := by
  refine returnsInHanded_of_change_sized (C := Try.checked) own started (by kernel_rfl) Try.func8
    (ChangeSpec.witness6 (enc := enc) (C := Try.checked) false ⟨#[], #[.slice none 0 0, .slice none 0 0, .int .i64 0], []⟩ 8 (by kernel_rfl) (by kernel_rfl) (by kernel_rfl) (by kernel_rfl)) ?_
  intro W base args ds gs before hval0 hW hcnd hsz0 _
  have hval : ∀ (j : Nat) t v, Try.f8.params[j]? = some t → args[j]? = some v → Value.okWide Try.prog W .any base t v := hval0
  have hsz : (DataW.weightsEach Try.prog (Try.f8.params.toList ++ Rows.litsAgainSpec.plain.varTypes Try.prog) (ds ++ gs)).all (· ≤ reachBytes) = true := hsz0
  have hW' := hW
  obtain ⟨p, q, hA0, hV, rfl, hfz, hnd⟩ := hW
  have hA : DataW.TrodAll enc Try.prog W 0 (fun _ => true) true Try.f8.params.toList args.toList ds p := hA0
  rw [Try.params8] at hA hval hsz
  obtain ⟨v0, vs0, d0, ds0, p0, q0, hargs, rfl, rfl, h0, r0⟩ := trodAll_cons hA
  obtain ⟨v1, vs1, d1, ds1, p1, q1, rfl, rfl, rfl, h1, r1⟩ := trodAll_cons r0
  obtain ⟨v2, vs2, d2, ds2, p2, q2, rfl, rfl, rfl, h2, r2⟩ := trodAll_cons r1
  obtain ⟨rfl, rfl, rfl⟩ := trodAll_nil r2
  obtain rfl : args = #[v0, v1, v2] := by cases args; simp_all
  obtain ⟨rfl, rfl⟩ := trodVars_none hV
  obtain ⟨a0, len0, cap0, rfl⟩ := okWide_slice Try.underlying25 (hval 0 25 v0 rfl rfl)
  have k0 := h0
  have lt0 : ∀ x ∈ p0, x.block < W.heap.size := by obtain ⟨m, hm⟩ := k0; exact DataW.trod_lt m _ _ _ hm
  obtain ⟨z0, w0⟩ : ∃ zs, Rd W (.slice a0 len0 cap0) zs := by
    obtain ⟨fuel, hf⟩ := h0
    rcases open_ints Try.underlying25 Try.underlying3 (by kernel_rfl) hf with ⟨hcs, _⟩ | ⟨x, l, c, zs, hcs, _, hl, hm, hz, hx, hcell, hwz⟩
    · simp [Value.cells] at hcs
      obtain ⟨rfl, rfl, rfl⟩ := hcs
      exact ⟨[], Rd.nil _⟩
    · simp [Value.cells] at hcs
      obtain ⟨rfl, rfl, rfl⟩ := hcs
      have hd := congrArg Prod.fst hx
      simp only at hd
      subst hd
      have hs := sized_slice hsz (j := 0) (t := 25) (e := 3) rfl rfl Try.underlying25
      exact ⟨_, Rd.opened hl hm (by simpa using hz) hs hcell⟩
  obtain ⟨a1, len1, cap1, rfl⟩ := okWide_slice Try.underlying25 (hval 1 25 v1 rfl rfl)
  have k1 := h1
  have lt1 : ∀ x ∈ p1, x.block < W.heap.size := by obtain ⟨m, hm⟩ := k1; exact DataW.trod_lt m _ _ _ hm
  obtain ⟨z1, w1⟩ : ∃ zs, Rd W (.slice a1 len1 cap1) zs := by
    obtain ⟨fuel, hf⟩ := h1
    rcases open_ints Try.underlying25 Try.underlying3 (by kernel_rfl) hf with ⟨hcs, _⟩ | ⟨x, l, c, zs, hcs, _, hl, hm, hz, hx, hcell, hwz⟩
    · simp [Value.cells] at hcs
      obtain ⟨rfl, rfl, rfl⟩ := hcs
      exact ⟨[], Rd.nil _⟩
    · simp [Value.cells] at hcs
      obtain ⟨rfl, rfl, rfl⟩ := hcs
      have hd := congrArg Prod.fst hx
      simp only at hd
      subst hd
      have hs := sized_slice hsz (j := 1) (t := 25) (e := 3) rfl rfl Try.underlying25
      exact ⟨_, Rd.opened hl hm (by simpa using hz) hs hcell⟩
  obtain ⟨a2, rfl, rfl, rfl, w2⟩ := open_int Try.underlying3 (hval 2 3 v2 rfl rfl) h2
  clear hA0 hval0 hsz0
  refine (walk _ _ a2 z0 z1 W w0 w1 w2).mono fun e W' ⟨he, bel⟩ => ?_
  subst he
  exact ⟨_, rfl, _, _, _, [], _, [], hW', trodAll_mk1 (shut_bool Try.underlying4 _), (trodAll_cons_mk (Below.trod laidOut (by kernel_rfl) (of_decide_eq_true (by kernel_rfl)) k0 bel lt0) (trodAll_cons_mk (Below.trod laidOut (by kernel_rfl) (of_decide_eq_true (by kernel_rfl)) k1 bel lt1) (trodAll_cons_mk (shut_int Try.underlying3 w2) trodAll_mk0))), rfl, bel.frame _, fun h => by cases h⟩

theorem over : Rows.litsAgainRow.holds Try.pinned (OpenSpec.ofChange Rows.litsAgainSpec) :=
  OpenClaim.holds_of_wide 8 Try.f8 rfl rfl rfl rfl rfl rfl rfl ⟨rfl, rfl, rfl, rfl, rfl⟩ rfl rfl rfl rfl rfl (by kernel_rfl) Try.func8 (by kernel_rfl)
    (of_decide_eq_true (by kernel_rfl)) (by unfold Func.isWrapper; first | (rw [if_pos (by decide +kernel)]; kernel_rfl) | (rw [if_neg (by decide +kernel)]; exact ⟨rfl, rfl⟩))
    (fun os started H enc _ => lifted os started H enc)

theorem proved : Rows.LitsAgainSaid := over
end Go.Proofs.Ythplkllphpnaoab.litsAgain
