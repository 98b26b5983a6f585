import Derived.Test.YthplkllphpnaoabRows
import Derived.Test.YthplkllphpnaoabFind
import Derived.Test.YthplkllphpnaoabAsk
import Derived.Test.YthplkllphpnaoabOpenB
import Derived.Test.YthplkllphpnaoabOpen
import Derived.WalkKit
import Derived.ProofKit
import Derived.OpenShut
import Derived.ShutString
import Derived.ChangeOld
import Derived.Below
import Derived.SizedLaws
set_option linter.unusedVariables false
set_option linter.unusedSimpArgs false
namespace Go.Proofs.Ythplkllphpnaoab.litsWeaker
open Go.ChangeShapes Go.WideShapes Go.ChangeAt Go.RowKit
open Go.ChangeMaps (open_string shut_string)

theorem own : ownKnob Try.prog.godebug = none := by kernel_rfl
theorem laidOut : laidOutB Try.prog = true := by kernel_rfl

theorem mem_fmd {zs : List Int} (h : zs.all fmd = true) : ∀ x ∈ zs, fmd x = true := by simpa using h
theorem allIn_iff {a b : List Int} (ha : a.all fmd = true) : allIn a (tid b) = true ↔ ∀ x ∈ a, x ∈ b := by
  unfold allIn
  rw [List.all_eq_true]
  constructor
  · intro h x hx
    have := h x hx
    simp only [Bool.and_eq_true, List.contains_iff_mem] at this
    exact (mem_tid.1 this.2).1
  · intro h x hx
    have hf := mem_fmd ha x hx
    simp only [Bool.and_eq_true, List.contains_iff_mem]
    exact ⟨hf, mem_tid.2 ⟨h x hx, hf⟩⟩
theorem allIn_all {a b : List Int} (ha : a.all fmd = true) : allIn a (tid b) = a.all (fun x => b.contains x) := by
  rw [Bool.eq_iff_iff, allIn_iff ha, List.all_eq_true]
  simp only [List.contains_iff_mem]
theorem same_both {a b : List Int} (ha : a.all fmd = true) (hb : b.all fmd = true) : (tid a == tid b) = (allIn a (tid b) && allIn b (tid a)) := by
  rw [Bool.eq_iff_iff, Bool.and_eq_true, allIn_iff ha, allIn_iff hb, beq_iff_eq]
  constructor
  · intro h
    constructor
    · intro x hx
      have : x ∈ tid a := mem_tid.2 ⟨hx, mem_fmd ha x hx⟩
      rw [h] at this; exact (mem_tid.1 this).1
    · intro x hx
      have : x ∈ tid b := mem_tid.2 ⟨hx, mem_fmd hb x hx⟩
      rw [← h] at this; exact (mem_tid.1 this).1
  · rintro ⟨h1, h2⟩
    exact tid_congr fun x _ => ⟨h1 x, h2 x⟩
theorem allIn_self {a : List Int} (ha : a.all fmd = true) : allIn a (tid a) = true := (allIn_iff ha).2 fun _ h => h
theorem hol_mono {ms : List Bool} {a b : List Int} (ha : a.all fmd = true) (h : allIn a (tid b) = true) (hh : hol ms a = true) : hol ms b = true := by
  unfold hol at hh ⊢
  rw [List.any_eq_true] at hh ⊢
  obtain ⟨x, hx, ht⟩ := hh
  exact ⟨x, (allIn_iff ha).1 h x hx, ht⟩
/-- of a tidy list two neighbours are opposites just if it holds two opposites -/
theorem adj_opp {b : List Int} (hb : b.all fmd = true) : adj (tid b) = b.any (fun x => b.contains (-x)) := by
  rw [Bool.eq_iff_iff, adj_iff, List.any_eq_true]
  constructor
  · rintro ⟨j, hj, e⟩
    have h1 : (tid b).getD j 0 ∈ tid b := by rw [List.getD_eq_getElem?_getD, List.getElem?_eq_getElem (by omega : j < (tid b).length)]; exact List.getElem_mem _
    have h2 : (tid b).getD (j + 1) 0 ∈ tid b := by rw [List.getD_eq_getElem?_getD, List.getElem?_eq_getElem hj]; exact List.getElem_mem _
    refine ⟨(tid b).getD j 0, (mem_tid.1 h1).1, ?_⟩
    rw [List.contains_iff_mem, ← e]
    exact (mem_tid.1 h2).1
  · rintro ⟨x, hx, hc⟩
    rw [List.contains_iff_mem] at hc
    have key : ∃ v : Int, 0 < v ∧ v ∈ tid b ∧ -v ∈ tid b := by
      have f1 := mem_fmd hb x hx
      have f2 := mem_fmd hb _ hc
      rcases Int.lt_trichotomy x 0 with h | h | h
      · exact ⟨-x, by omega, mem_tid.2 ⟨hc, f2⟩, by rw [Int.neg_neg]; exact mem_tid.2 ⟨hx, f1⟩⟩
      · exact absurd h (fmd_range f1).1
      · exact ⟨x, h, mem_tid.2 ⟨hx, f1⟩, mem_tid.2 ⟨hc, f2⟩⟩
    obtain ⟨v, hv, m1, m2⟩ := key
    have fv := tid_fmd v m1
    have fw := tid_fmd _ m2
    have i1 := (there_pos fv hv).1
    have i2 := (there_neg fw (by omega)).1
    obtain ⟨j, hj, e⟩ := List.getElem_of_mem m1
    obtain ⟨k, hk, e'⟩ := List.getElem_of_mem m2
    have ej : (tid b).getD j 0 = v := by rw [List.getD_eq_getElem?_getD, List.getElem?_eq_getElem hj]; exact e
    have ek : (tid b).getD k 0 = -v := by rw [List.getD_eq_getElem?_getD, List.getElem?_eq_getElem hk]; exact e'
    have hjk : j < k := by
      rcases Nat.lt_trichotomy j k with h | h | h
      · exact h
      · subst h; rw [ej] at ek; omega
      · have := rise_getD (tid_rising b) h hj
        rw [ej, ek] at this; omega
    refine ⟨j, by omega, ?_⟩
    have hk' : k = j + 1 := by
      rcases Nat.lt_or_ge (j + 1) k with h | h
      · have q1 := rise_getD (tid_rising b) (show j < j + 1 by omega) (show j + 1 < (tid b).length by omega)
        have q2 := rise_getD (tid_rising b) h hk
        rw [ej] at q1; rw [ek] at q2; omega
      · omega
    rw [← hk', ek, ej]
theorem all_take_gen {p : Int → Bool} (zs : List Int) (k : Nat) (h : k < zs.length) : (zs.take (k + 1)).all p = ((zs.take k).all p && p (zs.getD k 0)) := by
  rw [List.take_succ_eq_append_getElem h, List.all_append]
  simp [List.getD_eq_getElem?_getD, List.getElem?_eq_getElem h]
theorem any_take_gen {p : Int → Bool} (zs : List Int) (k : Nat) (h : k < zs.length) : (zs.take (k + 1)).any p = ((zs.take k).any p || p (zs.getD k 0)) := by
  rw [List.take_succ_eq_append_getElem h, List.any_append]
  simp [List.getD_eq_getElem?_getD, List.getElem?_eq_getElem h]
theorem own_five (w : World) : Own w.heap.size (w.alloc (.cells #[.int .i64 5] 3)) (.slice (some ⟨w.heap.size, 0, none⟩) 1 1) [5] := own_one w 5

set_option maxHeartbeats 6400000 in
set_option maxRecDepth 100000 in
theorem walk_a (u0 u1 u2 : Value) (z0 z1 : List Int) (z2 : List Bool) (w : World) (r0 : Rd w u0 z0) (r1 : Rd w u1 z1) (r2 : RdB w u2 z2) (ha : z0.all fmd = false) :
    Calls Try.prog 6 #[u0, u1, u2] w fun e w' => e = .returned (.bool true) ∧ Below w.heap.size w w' := by
  have hab : (z0.all fmd && z1.all fmd && allIn z0 (tid z1)) = false := by rw [ha]; rfl
  have hba : (z1.all fmd && z0.all fmd && allIn z1 (tid z0)) = false := by rw [ha]; simp
  have hsm : (z0.all fmd && z1.all fmd && (tid z0 == tid z1)) = false := by rw [ha]; rfl
  go_enter Try.func6, Try.ntmps6
  go_wp2_with fail
  refine (copied_any u0 z0 w (r0)).mono ?_
  rintro e w1 ⟨v1, rfl, own1, bel1⟩
  have rd1 := own1.rd ((r0).len)
  go_wp2_with fail
  refine (copied_any u1 z1 w1 ((r1).below bel1)).mono ?_
  rintro e w2 ⟨v2, rfl, own2, bel2⟩
  have rd2 := own2.rd (((r1).below bel1).len)
  go_wp2_with fail
  refine (subsumes_any v1 v2 z0 z1 w2 ((rd1).below bel2) (rd2)).mono ?_
  rintro e w3 ⟨rfl, bel3⟩
  rw [hab]
  have rn4 := (((r0).below bel1).below bel2).below bel3
  have rn5 := (((r1).below bel1).below bel2).below bel3
  have rn6 := (((r2).below bel1).below bel2).below bel3
  have rn7 := ((rd1).below bel2).below bel3
  have bl8 : Below w.heap.size w w3 := (Below.step (Below.step bel1 bel2) bel3)
  go_wp2_with fail
  refine (copied_any u1 z1 w3 (rn5)).mono ?_
  rintro e w9 ⟨v9, rfl, own9, bel9⟩
  have rd9 := own9.rd ((rn5).len)
  go_wp2_with fail
  refine (copied_any u0 z0 w9 ((rn4).below bel9)).mono ?_
  rintro e w10 ⟨v10, rfl, own10, bel10⟩
  have rd10 := own10.rd (((rn4).below bel9).len)
  go_wp2_with fail
  refine (subsumes_any v9 v10 z1 z0 w10 ((rd9).below bel10) (rd10)).mono ?_
  rintro e w11 ⟨rfl, bel11⟩
  rw [hba]
  have rn12 := (((rn4).below bel9).below bel10).below bel11
  have rn13 := (((rn5).below bel9).below bel10).below bel11
  have rn14 := (((rn6).below bel9).below bel10).below bel11
  have rn15 := (((rn7).below bel9).below bel10).below bel11
  have rn16 := ((((rd2).below bel3).below bel9).below bel10).below bel11
  have rn17 := ((rd9).below bel10).below bel11
  have bl18 : Below w.heap.size w w11 := (Below.step (Below.step (Below.step bl8 bel9) bel10) bel11)
  go_wp2_with fail
  refine (sound01_any u0 z0 w11 (rn12)).mono ?_
  rintro e wx ⟨rfl, hwx⟩
  rw [hwx]
  clear hwx wx
  rw [ha]
  go_wp2_with fail
  refine (copied_any u0 z0 w11 (rn12)).mono ?_
  rintro e w19 ⟨v19, rfl, own19, bel19⟩
  have rd19 := own19.rd ((rn12).len)
  go_wp2_with fail
  refine (copied_any u1 z1 w19 ((rn13).below bel19)).mono ?_
  rintro e w20 ⟨v20, rfl, own20, bel20⟩
  have rd20 := own20.rd (((rn13).below bel19).len)
  go_wp2_with fail
  refine (same_any v19 v20 z0 z1 w20 ((rd19).below bel20) (rd20)).mono ?_
  rintro e w21 ⟨rfl, bel21⟩
  rw [hsm]
  have rn22 := (((rn12).below bel19).below bel20).below bel21
  have rn23 := (((rn13).below bel19).below bel20).below bel21
  have rn24 := (((rn14).below bel19).below bel20).below bel21
  have rn25 := (((rn15).below bel19).below bel20).below bel21
  have rn26 := (((rn16).below bel19).below bel20).below bel21
  have rn27 := (((rn17).below bel19).below bel20).below bel21
  have rn28 := ((((rd10).below bel11).below bel19).below bel20).below bel21
  have rn29 := ((rd19).below bel20).below bel21
  have bl30 : Below w.heap.size w w21 := (Below.step (Below.step (Below.step bl18 bel19) bel20) bel21)
  have cs := subsumes_any (.slice none 0 0) _ [] [5] _ (Rd.nil _) ((own_five w21).rd (by simp))
  rw [show (([] : List Int).all fmd && [5].all fmd && allIn [] (tid [5])) = true from by decide] at cs
  go_wp2_with fail
  refine cs.mono ?_
  rintro e w99 ⟨rfl, bel99⟩
  go_wp2
  go_ret
  exact ⟨by simp, Below.step bl30 (Below.step ((Below.refl _ _).alloc (Nat.le_refl _) _) bel99)⟩

set_option maxHeartbeats 6400000 in
set_option maxRecDepth 100000 in
theorem walk_b (u0 u1 u2 : Value) (z0 z1 : List Int) (z2 : List Bool) (w : World) (r0 : Rd w u0 z0) (r1 : Rd w u1 z1) (r2 : RdB w u2 z2) (ha : z0.all fmd = true) (hb : z1.all fmd = false) :
    Calls Try.prog 6 #[u0, u1, u2] w fun e w' => e = .returned (.bool true) ∧ Below w.heap.size w w' := by
  have hab : (z0.all fmd && z1.all fmd && allIn z0 (tid z1)) = false := by rw [hb]; simp
  have hba : (z1.all fmd && z0.all fmd && allIn z1 (tid z0)) = false := by rw [hb]; rfl
  have hsm : (z0.all fmd && z1.all fmd && (tid z0 == tid z1)) = false := by rw [hb]; simp
  go_enter Try.func6, Try.ntmps6
  go_wp2_with fail
  refine (copied_any u0 z0 w (r0)).mono ?_
  rintro e w1 ⟨v1, rfl, own1, bel1⟩
  have rd1 := own1.rd ((r0).len)
  go_wp2_with fail
  refine (copied_any u1 z1 w1 ((r1).below bel1)).mono ?_
  rintro e w2 ⟨v2, rfl, own2, bel2⟩
  have rd2 := own2.rd (((r1).below bel1).len)
  go_wp2_with fail
  refine (subsumes_any v1 v2 z0 z1 w2 ((rd1).below bel2) (rd2)).mono ?_
  rintro e w3 ⟨rfl, bel3⟩
  rw [hab]
  have rn4 := (((r0).below bel1).below bel2).below bel3
  have rn5 := (((r1).below bel1).below bel2).below bel3
  have rn6 := (((r2).below bel1).below bel2).below bel3
  have rn7 := ((rd1).below bel2).below bel3
  have bl8 : Below w.heap.size w w3 := (Below.step (Below.step bel1 bel2) bel3)
  go_wp2_with fail
  refine (copied_any u1 z1 w3 (rn5)).mono ?_
  rintro e w9 ⟨v9, rfl, own9, bel9⟩
  have rd9 := own9.rd ((rn5).len)
  go_wp2_with fail
  refine (copied_any u0 z0 w9 ((rn4).below bel9)).mono ?_
  rintro e w10 ⟨v10, rfl, own10, bel10⟩
  have rd10 := own10.rd (((rn4).below bel9).len)
  go_wp2_with fail
  refine (subsumes_any v9 v10 z1 z0 w10 ((rd9).below bel10) (rd10)).mono ?_
  rintro e w11 ⟨rfl, bel11⟩
  rw [hba]
  have rn12 := (((rn4).below bel9).below bel10).below bel11
  have rn13 := (((rn5).below bel9).below bel10).below bel11
  have rn14 := (((rn6).below bel9).below bel10).below bel11
  have rn15 := (((rn7).below bel9).below bel10).below bel11
  have rn16 := ((((rd2).below bel3).below bel9).below bel10).below bel11
  have rn17 := ((rd9).below bel10).below bel11
  have bl18 : Below w.heap.size w w11 := (Below.step (Below.step (Below.step bl8 bel9) bel10) bel11)
  go_wp2_with fail
  refine (sound01_any u0 z0 w11 (rn12)).mono ?_
  rintro e wx ⟨rfl, hwx⟩
  rw [hwx]
  clear hwx wx
  rw [ha]
  go_wp2_with fail
  refine (sound01_any u1 z1 w11 (rn13)).mono ?_
  rintro e wx ⟨rfl, hwx⟩
  rw [hwx]
  clear hwx wx
  rw [hb]
  go_wp2_with fail
  refine (copied_any u0 z0 w11 (rn12)).mono ?_
  rintro e w19 ⟨v19, rfl, own19, bel19⟩
  have rd19 := own19.rd ((rn12).len)
  go_wp2_with fail
  refine (copied_any u1 z1 w19 ((rn13).below bel19)).mono ?_
  rintro e w20 ⟨v20, rfl, own20, bel20⟩
  have rd20 := own20.rd (((rn13).below bel19).len)
  go_wp2_with fail
  refine (same_any v19 v20 z0 z1 w20 ((rd19).below bel20) (rd20)).mono ?_
  rintro e w21 ⟨rfl, bel21⟩
  rw [hsm]
  have rn22 := (((rn12).below bel19).below bel20).below bel21
  have rn23 := (((rn13).below bel19).below bel20).below bel21
  have rn24 := (((rn14).below bel19).below bel20).below bel21
  have rn25 := (((rn15).below bel19).below bel20).below bel21
  have rn26 := (((rn16).below bel19).below bel20).below bel21
  have rn27 := (((rn17).below bel19).below bel20).below bel21
  have rn28 := ((((rd10).below bel11).below bel19).below bel20).below bel21
  have rn29 := ((rd19).below bel20).below bel21
  have bl30 : Below w.heap.size w w21 := (Below.step (Below.step (Below.step bl18 bel19) bel20) bel21)
  have cs := subsumes_any (.slice none 0 0) _ [] [5] _ (Rd.nil _) ((own_five w21).rd (by simp))
  rw [show (([] : List Int).all fmd && [5].all fmd && allIn [] (tid [5])) = true from by decide] at cs
  go_wp2_with fail
  refine cs.mono ?_
  rintro e w99 ⟨rfl, bel99⟩
  go_wp2
  go_ret
  exact ⟨by simp, Below.step bl30 (Below.step ((Below.refl _ _).alloc (Nat.le_refl _) _) bel99)⟩

set_option maxHeartbeats 6400000 in
set_option maxRecDepth 100000 in
theorem walk_no (u0 u1 u2 : Value) (z0 z1 : List Int) (z2 : List Bool) (w : World) (r0 : Rd w u0 z0) (r1 : Rd w u1 z1) (r2 : RdB w u2 z2) (ha : z0.all fmd = true) (hb : z1.all fmd = true) (ba0 ab0 : Bool) (hab0 : allIn z0 (tid z1) = ab0) (hba0 : allIn z1 (tid z0) = ba0) (hz : ab0 = false) :
    Calls Try.prog 6 #[u0, u1, u2] w fun e w' => e = .returned (.bool true) ∧ Below w.heap.size w w' := by
  have hab : (z0.all fmd && z1.all fmd && allIn z0 (tid z1)) = ab0 := by rw [ha, hb]; simpa using hab0
  have hba : (z1.all fmd && z0.all fmd && allIn z1 (tid z0)) = ba0 := by rw [ha, hb]; simpa using hba0
  have hsm : (z0.all fmd && z1.all fmd && (tid z0 == tid z1)) = (ab0 && ba0) := by rw [ha, hb, same_both ha hb, hab0, hba0]; simp
  have hsa : (z0.all fmd && z0.all fmd && allIn z0 (tid z0)) = true := by rw [ha, allIn_self ha]; rfl
  have hsb : (z1.all fmd && z1.all fmd && (tid z1 == tid z1)) = true := by rw [hb]; simp
  have HZ : Hid (ab0 = false) := hz
  rw [hz] at hab hsm hab0
  go_enter Try.func6, Try.ntmps6
  go_wp2_with fail
  refine (copied_any u0 z0 w (r0)).mono ?_
  rintro e w1 ⟨v1, rfl, own1, bel1⟩
  have rd1 := own1.rd ((r0).len)
  go_wp2_with fail
  refine (copied_any u1 z1 w1 ((r1).below bel1)).mono ?_
  rintro e w2 ⟨v2, rfl, own2, bel2⟩
  have rd2 := own2.rd (((r1).below bel1).len)
  go_wp2_with fail
  refine (subsumes_any v1 v2 z0 z1 w2 ((rd1).below bel2) (rd2)).mono ?_
  rintro e w3 ⟨rfl, bel3⟩
  rw [hab]
  have rn4 := (((r0).below bel1).below bel2).below bel3
  have rn5 := (((r1).below bel1).below bel2).below bel3
  have rn6 := (((r2).below bel1).below bel2).below bel3
  have rn7 := ((rd1).below bel2).below bel3
  have bl8 : Below w.heap.size w w3 := (Below.step (Below.step bel1 bel2) bel3)
  go_wp2_with fail
  refine (copied_any u1 z1 w3 (rn5)).mono ?_
  rintro e w9 ⟨v9, rfl, own9, bel9⟩
  have rd9 := own9.rd ((rn5).len)
  go_wp2_with fail
  refine (copied_any u0 z0 w9 ((rn4).below bel9)).mono ?_
  rintro e w10 ⟨v10, rfl, own10, bel10⟩
  have rd10 := own10.rd (((rn4).below bel9).len)
  go_wp2_with fail
  refine (subsumes_any v9 v10 z1 z0 w10 ((rd9).below bel10) (rd10)).mono ?_
  rintro e w11 ⟨rfl, bel11⟩
  rw [hba]
  have rn12 := (((rn4).below bel9).below bel10).below bel11
  have rn13 := (((rn5).below bel9).below bel10).below bel11
  have rn14 := (((rn6).below bel9).below bel10).below bel11
  have rn15 := (((rn7).below bel9).below bel10).below bel11
  have rn16 := ((((rd2).below bel3).below bel9).below bel10).below bel11
  have rn17 := ((rd9).below bel10).below bel11
  have bl18 : Below w.heap.size w w11 := (Below.step (Below.step (Below.step bl8 bel9) bel10) bel11)
  go_wp2_with fail
  refine (sound01_any u0 z0 w11 (rn12)).mono ?_
  rintro e wx ⟨rfl, hwx⟩
  rw [hwx]
  clear hwx wx
  rw [ha]
  go_wp2_with fail
  refine (sound01_any u1 z1 w11 (rn13)).mono ?_
  rintro e wx ⟨rfl, hwx⟩
  rw [hwx]
  clear hwx wx
  rw [hb]
  go_wp2_with fail
  refine (copied_any u0 z0 w11 (rn12)).mono ?_
  rintro e w19 ⟨v19, rfl, own19, bel19⟩
  have rd19 := own19.rd ((rn12).len)
  go_wp2_with fail
  refine (copied_any u1 z1 w19 ((rn13).below bel19)).mono ?_
  rintro e w20 ⟨v20, rfl, own20, bel20⟩
  have rd20 := own20.rd (((rn13).below bel19).len)
  go_wp2_with fail
  refine (same_any v19 v20 z0 z1 w20 ((rd19).below bel20) (rd20)).mono ?_
  rintro e w21 ⟨rfl, bel21⟩
  rw [hsm]
  have rn22 := (((rn12).below bel19).below bel20).below bel21
  have rn23 := (((rn13).below bel19).below bel20).below bel21
  have rn24 := (((rn14).below bel19).below bel20).below bel21
  have rn25 := (((rn15).below bel19).below bel20).below bel21
  have rn26 := (((rn16).below bel19).below bel20).below bel21
  have rn27 := (((rn17).below bel19).below bel20).below bel21
  have rn28 := ((((rd10).below bel11).below bel19).below bel20).below bel21
  have rn29 := ((rd19).below bel20).below bel21
  have bl30 : Below w.heap.size w w21 := (Below.step (Below.step (Below.step bl18 bel19) bel20) bel21)
  go_wp2_with fail
  refine (copied_any u0 z0 w21 (rn22)).mono ?_
  rintro e w31 ⟨v31, rfl, own31, bel31⟩
  have rd31 := own31.rd ((rn22).len)
  go_wp2_with fail
  refine (copied_any u0 z0 w31 ((rn22).below bel31)).mono ?_
  rintro e w32 ⟨v32, rfl, own32, bel32⟩
  have rd32 := own32.rd (((rn22).below bel31).len)
  go_wp2_with fail
  refine (subsumes_any v31 v32 z0 z0 w32 ((rd31).below bel32) (rd32)).mono ?_
  rintro e w33 ⟨rfl, bel33⟩
  rw [hsa]
  have rn34 := (((rn22).below bel31).below bel32).below bel33
  have rn35 := (((rn23).below bel31).below bel32).below bel33
  have rn36 := (((rn24).below bel31).below bel32).below bel33
  have rn37 := (((rn25).below bel31).below bel32).below bel33
  have rn38 := (((rn26).below bel31).below bel32).below bel33
  have rn39 := (((rn27).below bel31).below bel32).below bel33
  have rn40 := (((rn28).below bel31).below bel32).below bel33
  have rn41 := (((rn29).below bel31).below bel32).below bel33
  have rn42 := ((((rd20).below bel21).below bel31).below bel32).below bel33
  have rn43 := ((rd31).below bel32).below bel33
  have bl44 : Below w.heap.size w w33 := (Below.step (Below.step (Below.step bl30 bel31) bel32) bel33)
  go_wp2_with fail
  refine (copied_any u1 z1 w33 (rn35)).mono ?_
  rintro e w45 ⟨v45, rfl, own45, bel45⟩
  have rd45 := own45.rd ((rn35).len)
  go_wp2_with fail
  refine (copied_any u1 z1 w45 ((rn35).below bel45)).mono ?_
  rintro e w46 ⟨v46, rfl, own46, bel46⟩
  have rd46 := own46.rd (((rn35).below bel45).len)
  go_wp2_with fail
  refine (same_any v45 v46 z1 z1 w46 ((rd45).below bel46) (rd46)).mono ?_
  rintro e w47 ⟨rfl, bel47⟩
  rw [hsb]
  have rn48 := (((rn34).below bel45).below bel46).below bel47
  have rn49 := (((rn35).below bel45).below bel46).below bel47
  have rn50 := (((rn36).below bel45).below bel46).below bel47
  have rn51 := (((rn37).below bel45).below bel46).below bel47
  have rn52 := (((rn38).below bel45).below bel46).below bel47
  have rn53 := (((rn39).below bel45).below bel46).below bel47
  have rn54 := (((rn40).below bel45).below bel46).below bel47
  have rn55 := (((rn41).below bel45).below bel46).below bel47
  have rn56 := (((rn42).below bel45).below bel46).below bel47
  have rn57 := (((rn43).below bel45).below bel46).below bel47
  have rn58 := ((((rd32).below bel33).below bel45).below bel46).below bel47
  have rn59 := ((rd45).below bel46).below bel47
  have bl60 : Below w.heap.size w w47 := (Below.step (Below.step (Below.step bl44 bel45) bel46) bel47)
  have RB : Hid (Rd w47 u1 z1) := (rn49)
  obtain ⟨hl0, aa, ca, hu0, _, _, _, h2a⟩ := (rn48)
  obtain ⟨hl1, ab, cb, hu1, _, _, _, h2b⟩ := (rn49)
  have H2a : Hid (AddrOf w47 aa z0) := h2a
  have H2b : Hid (AddrOf w47 ab z1) := h2b
  have BL : Hid (Below w.heap.size w w47) := bl60
  have LK : Hid (false = z0.all (fun x => z1.contains x)) := by rw [← hab0]; exact allIn_all ha
  have TK : Hid (adj (tid z1) = z1.any (fun x => z1.contains (-x))) := adj_opp hb
  have MF : Hid (∀ x ∈ z1, fmd x = true) := mem_fmd hb
  clear h2a h2b
  subst hu0
  subst hu1
  go_wp2
  go_loopg [9, 10] z0.length (fun g l i wr => ∃ k : Nat, k + g = z0.length ∧ i = .int .i64 k ∧ l = .bool (!(z0.take k).all (fun x => z1.contains x)) ∧ wr = w47)
  case atStart => exact ⟨0, by omega, rfl, by simp, rfl⟩
  case round =>
    obtain ⟨k, hk, rfl, rfl, rfl⟩ := hrel
    have HK : Hid (k + gk = z0.length) := hk
    by_cases hlt : k < z0.length
    · obtain ⟨bb, oo, e, hbb, hcell⟩ := H2a.out (by intro h; rw [h] at hlt; simp at hlt)
      have hck := hcell k hlt
      clear hcell
      subst e
      have HS : Hid ((z0.take (k + 1)).all (fun x => z1.contains x) = ((z0.take k).all (fun x => z1.contains x) && z1.contains (z0.getD k 0))) := all_take_gen z0 k hlt
      have HW : Hid (Calls Try.prog 17 #[.slice ab z1.length cb, .int .i64 (z0.getD k 0)] wr fun e w' => e = .returned (.bool (z1.contains (z0.getD k 0))) ∧ w' = wr) := within_any _ z1 _ wr RB.out
      clear hk
      generalize z1.contains (z0.getD k 0) = q at *
      generalize z0.getD k 0 = z at *
      generalize (z0.take k).all (fun x => z1.contains x) = p at *
      cases q
      · go_wp2_with fail
        refine HW.out.mono ?_
        rintro e wx ⟨rfl, hwx⟩
        rw [hwx]
        clear hwx wx
        go_wp2
        go_roundg (gk - 1)
        case measure => have := HK.out; omega
        case rel => exact ⟨k + 1, by have := HK.out; omega, by go_num, by rw [HS.out]; simp, rfl⟩
      · go_wp2_with fail
        refine HW.out.mono ?_
        rintro e wx ⟨rfl, hwx⟩
        rw [hwx]
        clear hwx wx
        go_wp2
        go_roundg (gk - 1)
        case measure => have := HK.out; omega
        case rel => exact ⟨k + 1, by have := HK.out; omega, by go_num, by rw [HS.out]; simp, rfl⟩
    · obtain rfl : k = z0.length := by omega
      have LK2 : Hid ((z0.take z0.length).all (fun x => z1.contains x) = false) := by rw [List.take_length]; exact LK.out.symm
      clear hk
      generalize (z0.take z0.length).all (fun x => z1.contains x) = lk at *
      go_wp2
      go_loopg [11, 12] z1.length (fun g l i wq => ∃ k : Nat, k + g = z1.length ∧ i = .int .i64 k ∧ l = .bool ((z1.take k).any (fun x => z1.contains (-x))) ∧ wq = wr)
      case atStart => exact ⟨0, by omega, rfl, by simp, rfl⟩
      case round =>
        obtain ⟨k, hk, rfl, rfl, hwq⟩ := hrel
        rw [hwq]
        clear hwq
        have HK : Hid (k + gk = z1.length) := hk
        by_cases hlt : k < z1.length
        · obtain ⟨bb, oo, e, hbb, hcell⟩ := H2b.out (by intro h; rw [h] at hlt; simp at hlt)
          have hck := hcell k hlt
          clear hcell
          subst e
          have hfz := fmd_range (MF.out (z1.getD k 0) (by rw [List.getD_eq_getElem?_getD, List.getElem?_eq_getElem hlt]; exact List.getElem_mem hlt))
          have hf1 := hfz.2.1
          have hf2 := hfz.2.2
          have HS : Hid ((z1.take (k + 1)).any (fun x => z1.contains (-x)) = ((z1.take k).any (fun x => z1.contains (-x)) || z1.contains (-(z1.getD k 0)))) := any_take_gen z1 k hlt
          have HW := within_any _ z1 (-(z1.getD k 0)) _ RB.out
          clear hk hfz
          have HW2 : Hid (Calls Try.prog 17 #[.slice (some ⟨bb, oo, none⟩) z1.length cb, .int .i64 (-(z1.getD k 0))] _ fun e w' => e = .returned (.bool (z1.contains (-(z1.getD k 0)))) ∧ w' = _) := HW
          clear HW
          generalize z1.contains (-(z1.getD k 0)) = q at *
          generalize z1.getD k 0 = z at *
          generalize (z1.take k).any (fun x => z1.contains (-x)) = p at *
          cases q
          · go_wp2_with fail
            refine HW2.out.mono ?_
            rintro e wx ⟨rfl, hwx⟩
            rw [hwx]
            clear hwx wx
            go_wp2
            go_roundg (gk - 1)
            case measure => have := HK.out; omega
            case rel => exact ⟨k + 1, by have := HK.out; omega, by go_num, by rw [HS.out]; simp, rfl⟩
          · go_wp2_with fail
            refine HW2.out.mono ?_
            rintro e wx ⟨rfl, hwx⟩
            rw [hwx]
            clear hwx wx
            go_wp2
            go_roundg (gk - 1)
            case measure => have := HK.out; omega
            case rel => exact ⟨k + 1, by have := HK.out; omega, by go_num, by rw [HS.out]; simp, rfl⟩
        · obtain rfl : k = z1.length := by omega
          have TK2 : Hid ((z1.take z1.length).any (fun x => z1.contains (-x)) = adj (tid z1)) := by rw [List.take_length]; exact TK.out.symm
          have hl2 : lk = false := LK2.out
          clear hk
          generalize (z1.take z1.length).any (fun x => z1.contains (-x)) = tk at *
          have RB' := RB.out
          have BL' := BL.out
          subst hl2
          go_wp2_with fail
          refine (copied_any _ z1 _ RB').mono ?_
          rintro e w91 ⟨v91, rfl, own91, bel91⟩
          go_wp2_with fail
          refine (taut_any v91 z1 w91 (own91.rd RB'.len)).mono ?_
          rintro e w92 ⟨rfl, bel92⟩
          go_wp2
          go_ret
          exact ⟨by rw [TK2.out]; simp, Below.step BL' (Below.step bel91 bel92)⟩

set_option maxHeartbeats 6400000 in
set_option maxRecDepth 100000 in
theorem walk_yes (u0 u1 u2 : Value) (z0 z1 : List Int) (z2 : List Bool) (w : World) (r0 : Rd w u0 z0) (r1 : Rd w u1 z1) (r2 : RdB w u2 z2) (ha : z0.all fmd = true) (hb : z1.all fmd = true) (ba0 : Bool) (hab0 : allIn z0 (tid z1) = true) (hba0 : allIn z1 (tid z0) = ba0) (hh : hol z2 z0 = false) :
    Calls Try.prog 6 #[u0, u1, u2] w fun e w' => e = .returned (.bool true) ∧ Below w.heap.size w w' := by
  have hab : (z0.all fmd && z1.all fmd && allIn z0 (tid z1)) = true := by rw [ha, hb]; simpa using hab0
  have hba : (z1.all fmd && z0.all fmd && allIn z1 (tid z0)) = ba0 := by rw [ha, hb]; simpa using hba0
  have hsm : (z0.all fmd && z1.all fmd && (tid z0 == tid z1)) = (true && ba0) := by rw [ha, hb, same_both ha hb, hab0, hba0]; simp
  have hsa : (z0.all fmd && z0.all fmd && allIn z0 (tid z0)) = true := by rw [ha, allIn_self ha]; rfl
  have hsb : (z1.all fmd && z1.all fmd && (tid z1 == tid z1)) = true := by rw [hb]; simp
  go_enter Try.func6, Try.ntmps6
  go_wp2_with fail
  refine (copied_any u0 z0 w (r0)).mono ?_
  rintro e w1 ⟨v1, rfl, own1, bel1⟩
  have rd1 := own1.rd ((r0).len)
  go_wp2_with fail
  refine (copied_any u1 z1 w1 ((r1).below bel1)).mono ?_
  rintro e w2 ⟨v2, rfl, own2, bel2⟩
  have rd2 := own2.rd (((r1).below bel1).len)
  go_wp2_with fail
  refine (subsumes_any v1 v2 z0 z1 w2 ((rd1).below bel2) (rd2)).mono ?_
  rintro e w3 ⟨rfl, bel3⟩
  rw [hab]
  have rn4 := (((r0).below bel1).below bel2).below bel3
  have rn5 := (((r1).below bel1).below bel2).below bel3
  have rn6 := (((r2).below bel1).below bel2).below bel3
  have rn7 := ((rd1).below bel2).below bel3
  have bl8 : Below w.heap.size w w3 := (Below.step (Below.step bel1 bel2) bel3)
  go_wp2_with fail
  refine (copied_any u1 z1 w3 (rn5)).mono ?_
  rintro e w9 ⟨v9, rfl, own9, bel9⟩
  have rd9 := own9.rd ((rn5).len)
  go_wp2_with fail
  refine (copied_any u0 z0 w9 ((rn4).below bel9)).mono ?_
  rintro e w10 ⟨v10, rfl, own10, bel10⟩
  have rd10 := own10.rd (((rn4).below bel9).len)
  go_wp2_with fail
  refine (subsumes_any v9 v10 z1 z0 w10 ((rd9).below bel10) (rd10)).mono ?_
  rintro e w11 ⟨rfl, bel11⟩
  rw [hba]
  have rn12 := (((rn4).below bel9).below bel10).below bel11
  have rn13 := (((rn5).below bel9).below bel10).below bel11
  have rn14 := (((rn6).below bel9).below bel10).below bel11
  have rn15 := (((rn7).below bel9).below bel10).below bel11
  have rn16 := ((((rd2).below bel3).below bel9).below bel10).below bel11
  have rn17 := ((rd9).below bel10).below bel11
  have bl18 : Below w.heap.size w w11 := (Below.step (Below.step (Below.step bl8 bel9) bel10) bel11)
  go_wp2_with fail
  refine (sound01_any u0 z0 w11 (rn12)).mono ?_
  rintro e wx ⟨rfl, hwx⟩
  rw [hwx]
  clear hwx wx
  rw [ha]
  go_wp2_with fail
  refine (sound01_any u1 z1 w11 (rn13)).mono ?_
  rintro e wx ⟨rfl, hwx⟩
  rw [hwx]
  clear hwx wx
  rw [hb]
  go_wp2_with fail
  refine (copied_any u0 z0 w11 (rn12)).mono ?_
  rintro e w19 ⟨v19, rfl, own19, bel19⟩
  have rd19 := own19.rd ((rn12).len)
  go_wp2_with fail
  refine (copied_any u1 z1 w19 ((rn13).below bel19)).mono ?_
  rintro e w20 ⟨v20, rfl, own20, bel20⟩
  have rd20 := own20.rd (((rn13).below bel19).len)
  go_wp2_with fail
  refine (same_any v19 v20 z0 z1 w20 ((rd19).below bel20) (rd20)).mono ?_
  rintro e w21 ⟨rfl, bel21⟩
  rw [hsm]
  have rn22 := (((rn12).below bel19).below bel20).below bel21
  have rn23 := (((rn13).below bel19).below bel20).below bel21
  have rn24 := (((rn14).below bel19).below bel20).below bel21
  have rn25 := (((rn15).below bel19).below bel20).below bel21
  have rn26 := (((rn16).below bel19).below bel20).below bel21
  have rn27 := (((rn17).below bel19).below bel20).below bel21
  have rn28 := ((((rd10).below bel11).below bel19).below bel20).below bel21
  have rn29 := ((rd19).below bel20).below bel21
  have bl30 : Below w.heap.size w w21 := (Below.step (Below.step (Below.step bl18 bel19) bel20) bel21)
  go_wp2_with fail
  refine (copied_any u0 z0 w21 (rn22)).mono ?_
  rintro e w31 ⟨v31, rfl, own31, bel31⟩
  have rd31 := own31.rd ((rn22).len)
  go_wp2_with fail
  refine (copied_any u0 z0 w31 ((rn22).below bel31)).mono ?_
  rintro e w32 ⟨v32, rfl, own32, bel32⟩
  have rd32 := own32.rd (((rn22).below bel31).len)
  go_wp2_with fail
  refine (subsumes_any v31 v32 z0 z0 w32 ((rd31).below bel32) (rd32)).mono ?_
  rintro e w33 ⟨rfl, bel33⟩
  rw [hsa]
  have rn34 := (((rn22).below bel31).below bel32).below bel33
  have rn35 := (((rn23).below bel31).below bel32).below bel33
  have rn36 := (((rn24).below bel31).below bel32).below bel33
  have rn37 := (((rn25).below bel31).below bel32).below bel33
  have rn38 := (((rn26).below bel31).below bel32).below bel33
  have rn39 := (((rn27).below bel31).below bel32).below bel33
  have rn40 := (((rn28).below bel31).below bel32).below bel33
  have rn41 := (((rn29).below bel31).below bel32).below bel33
  have rn42 := ((((rd20).below bel21).below bel31).below bel32).below bel33
  have rn43 := ((rd31).below bel32).below bel33
  have bl44 : Below w.heap.size w w33 := (Below.step (Below.step (Below.step bl30 bel31) bel32) bel33)
  go_wp2_with fail
  refine (copied_any u1 z1 w33 (rn35)).mono ?_
  rintro e w45 ⟨v45, rfl, own45, bel45⟩
  have rd45 := own45.rd ((rn35).len)
  go_wp2_with fail
  refine (copied_any u1 z1 w45 ((rn35).below bel45)).mono ?_
  rintro e w46 ⟨v46, rfl, own46, bel46⟩
  have rd46 := own46.rd (((rn35).below bel45).len)
  go_wp2_with fail
  refine (same_any v45 v46 z1 z1 w46 ((rd45).below bel46) (rd46)).mono ?_
  rintro e w47 ⟨rfl, bel47⟩
  rw [hsb]
  have rn48 := (((rn34).below bel45).below bel46).below bel47
  have rn49 := (((rn35).below bel45).below bel46).below bel47
  have rn50 := (((rn36).below bel45).below bel46).below bel47
  have rn51 := (((rn37).below bel45).below bel46).below bel47
  have rn52 := (((rn38).below bel45).below bel46).below bel47
  have rn53 := (((rn39).below bel45).below bel46).below bel47
  have rn54 := (((rn40).below bel45).below bel46).below bel47
  have rn55 := (((rn41).below bel45).below bel46).below bel47
  have rn56 := (((rn42).below bel45).below bel46).below bel47
  have rn57 := (((rn43).below bel45).below bel46).below bel47
  have rn58 := ((((rd32).below bel33).below bel45).below bel46).below bel47
  have rn59 := ((rd45).below bel46).below bel47
  have bl60 : Below w.heap.size w w47 := (Below.step (Below.step (Below.step bl44 bel45) bel46) bel47)
  go_wp2_with fail
  refine (holds01_any u2 u0 z2 z0 w47 (rn50) (rn48) (mem_fmd ha)).mono ?_
  rintro e wx ⟨rfl, hwx⟩
  rw [hwx]
  clear hwx wx
  rw [hh]
  have RB : Hid (Rd w47 u1 z1) := (rn49)
  obtain ⟨hl0, aa, ca, hu0, _, _, _, h2a⟩ := (rn48)
  obtain ⟨hl1, ab, cb, hu1, _, _, _, h2b⟩ := (rn49)
  have H2a : Hid (AddrOf w47 aa z0) := h2a
  have H2b : Hid (AddrOf w47 ab z1) := h2b
  have BL : Hid (Below w.heap.size w w47) := bl60
  have LK : Hid (true = z0.all (fun x => z1.contains x)) := by rw [← hab0]; exact allIn_all ha
  have TK : Hid (adj (tid z1) = z1.any (fun x => z1.contains (-x))) := adj_opp hb
  have MF : Hid (∀ x ∈ z1, fmd x = true) := mem_fmd hb
  clear h2a h2b
  subst hu0
  subst hu1
  go_wp2
  go_loopg [9, 10] z0.length (fun g l i wr => ∃ k : Nat, k + g = z0.length ∧ i = .int .i64 k ∧ l = .bool (!(z0.take k).all (fun x => z1.contains x)) ∧ wr = w47)
  case atStart => exact ⟨0, by omega, rfl, by simp, rfl⟩
  case round =>
    obtain ⟨k, hk, rfl, rfl, rfl⟩ := hrel
    have HK : Hid (k + gk = z0.length) := hk
    by_cases hlt : k < z0.length
    · obtain ⟨bb, oo, e, hbb, hcell⟩ := H2a.out (by intro h; rw [h] at hlt; simp at hlt)
      have hck := hcell k hlt
      clear hcell
      subst e
      have HS : Hid ((z0.take (k + 1)).all (fun x => z1.contains x) = ((z0.take k).all (fun x => z1.contains x) && z1.contains (z0.getD k 0))) := all_take_gen z0 k hlt
      have HW : Hid (Calls Try.prog 17 #[.slice ab z1.length cb, .int .i64 (z0.getD k 0)] wr fun e w' => e = .returned (.bool (z1.contains (z0.getD k 0))) ∧ w' = wr) := within_any _ z1 _ wr RB.out
      clear hk
      generalize z1.contains (z0.getD k 0) = q at *
      generalize z0.getD k 0 = z at *
      generalize (z0.take k).all (fun x => z1.contains x) = p at *
      cases q
      · go_wp2_with fail
        refine HW.out.mono ?_
        rintro e wx ⟨rfl, hwx⟩
        rw [hwx]
        clear hwx wx
        go_wp2
        go_roundg (gk - 1)
        case measure => have := HK.out; omega
        case rel => exact ⟨k + 1, by have := HK.out; omega, by go_num, by rw [HS.out]; simp, rfl⟩
      · go_wp2_with fail
        refine HW.out.mono ?_
        rintro e wx ⟨rfl, hwx⟩
        rw [hwx]
        clear hwx wx
        go_wp2
        go_roundg (gk - 1)
        case measure => have := HK.out; omega
        case rel => exact ⟨k + 1, by have := HK.out; omega, by go_num, by rw [HS.out]; simp, rfl⟩
    · obtain rfl : k = z0.length := by omega
      have LK2 : Hid ((z0.take z0.length).all (fun x => z1.contains x) = true) := by rw [List.take_length]; exact LK.out.symm
      clear hk
      generalize (z0.take z0.length).all (fun x => z1.contains x) = lk at *
      go_wp2
      go_loopg [11, 12] z1.length (fun g l i wq => ∃ k : Nat, k + g = z1.length ∧ i = .int .i64 k ∧ l = .bool ((z1.take k).any (fun x => z1.contains (-x))) ∧ wq = wr)
      case atStart => exact ⟨0, by omega, rfl, by simp, rfl⟩
      case round =>
        obtain ⟨k, hk, rfl, rfl, hwq⟩ := hrel
        rw [hwq]
        clear hwq
        have HK : Hid (k + gk = z1.length) := hk
        by_cases hlt : k < z1.length
        · obtain ⟨bb, oo, e, hbb, hcell⟩ := H2b.out (by intro h; rw [h] at hlt; simp at hlt)
          have hck := hcell k hlt
          clear hcell
          subst e
          have hfz := fmd_range (MF.out (z1.getD k 0) (by rw [List.getD_eq_getElem?_getD, List.getElem?_eq_getElem hlt]; exact List.getElem_mem hlt))
          have hf1 := hfz.2.1
          have hf2 := hfz.2.2
          have HS : Hid ((z1.take (k + 1)).any (fun x => z1.contains (-x)) = ((z1.take k).any (fun x => z1.contains (-x)) || z1.contains (-(z1.getD k 0)))) := any_take_gen z1 k hlt
          have HW := within_any _ z1 (-(z1.getD k 0)) _ RB.out
          clear hk hfz
          have HW2 : Hid (Calls Try.prog 17 #[.slice (some ⟨bb, oo, none⟩) z1.length cb, .int .i64 (-(z1.getD k 0))] _ fun e w' => e = .returned (.bool (z1.contains (-(z1.getD k 0)))) ∧ w' = _) := HW
          clear HW
          generalize z1.contains (-(z1.getD k 0)) = q at *
          generalize z1.getD k 0 = z at *
          generalize (z1.take k).any (fun x => z1.contains (-x)) = p at *
          cases q
          · go_wp2_with fail
            refine HW2.out.mono ?_
            rintro e wx ⟨rfl, hwx⟩
            rw [hwx]
            clear hwx wx
            go_wp2
            go_roundg (gk - 1)
            case measure => have := HK.out; omega
            case rel => exact ⟨k + 1, by have := HK.out; omega, by go_num, by rw [HS.out]; simp, rfl⟩
          · go_wp2_with fail
            refine HW2.out.mono ?_
            rintro e wx ⟨rfl, hwx⟩
            rw [hwx]
            clear hwx wx
            go_wp2
            go_roundg (gk - 1)
            case measure => have := HK.out; omega
            case rel => exact ⟨k + 1, by have := HK.out; omega, by go_num, by rw [HS.out]; simp, rfl⟩
        · obtain rfl : k = z1.length := by omega
          have TK2 : Hid ((z1.take z1.length).any (fun x => z1.contains (-x)) = adj (tid z1)) := by rw [List.take_length]; exact TK.out.symm
          have hl2 : lk = true := LK2.out
          clear hk
          generalize (z1.take z1.length).any (fun x => z1.contains (-x)) = tk at *
          have RB' := RB.out
          have BL' := BL.out
          subst hl2
          go_wp2_with fail
          refine (copied_any _ z1 _ RB').mono ?_
          rintro e w91 ⟨v91, rfl, own91, bel91⟩
          go_wp2_with fail
          refine (taut_any v91 z1 w91 (own91.rd RB'.len)).mono ?_
          rintro e w92 ⟨rfl, bel92⟩
          go_wp2
          go_ret
          exact ⟨by rw [TK2.out]; simp, Below.step BL' (Below.step bel91 bel92)⟩

set_option maxHeartbeats 6400000 in
set_option maxRecDepth 100000 in
theorem walk_both (u0 u1 u2 : Value) (z0 z1 : List Int) (z2 : List Bool) (w : World) (r0 : Rd w u0 z0) (r1 : Rd w u1 z1) (r2 : RdB w u2 z2) (ha : z0.all fmd = true) (hb : z1.all fmd = true) (ba0 : Bool) (hab0 : allIn z0 (tid z1) = true) (hba0 : allIn z1 (tid z0) = ba0) (hh : hol z2 z0 = true) (hh2 : hol z2 z1 = true) :
    Calls Try.prog 6 #[u0, u1, u2] w fun e w' => e = .returned (.bool true) ∧ Below w.heap.size w w' := by
  have hab : (z0.all fmd && z1.all fmd && allIn z0 (tid z1)) = true := by rw [ha, hb]; simpa using hab0
  have hba : (z1.all fmd && z0.all fmd && allIn z1 (tid z0)) = ba0 := by rw [ha, hb]; simpa using hba0
  have hsm : (z0.all fmd && z1.all fmd && (tid z0 == tid z1)) = (true && ba0) := by rw [ha, hb, same_both ha hb, hab0, hba0]; simp
  have hsa : (z0.all fmd && z0.all fmd && allIn z0 (tid z0)) = true := by rw [ha, allIn_self ha]; rfl
  have hsb : (z1.all fmd && z1.all fmd && (tid z1 == tid z1)) = true := by rw [hb]; simp
  go_enter Try.func6, Try.ntmps6
  go_wp2_with fail
  refine (copied_any u0 z0 w (r0)).mono ?_
  rintro e w1 ⟨v1, rfl, own1, bel1⟩
  have rd1 := own1.rd ((r0).len)
  go_wp2_with fail
  refine (copied_any u1 z1 w1 ((r1).below bel1)).mono ?_
  rintro e w2 ⟨v2, rfl, own2, bel2⟩
  have rd2 := own2.rd (((r1).below bel1).len)
  go_wp2_with fail
  refine (subsumes_any v1 v2 z0 z1 w2 ((rd1).below bel2) (rd2)).mono ?_
  rintro e w3 ⟨rfl, bel3⟩
  rw [hab]
  have rn4 := (((r0).below bel1).below bel2).below bel3
  have rn5 := (((r1).below bel1).below bel2).below bel3
  have rn6 := (((r2).below bel1).below bel2).below bel3
  have rn7 := ((rd1).below bel2).below bel3
  have bl8 : Below w.heap.size w w3 := (Below.step (Below.step bel1 bel2) bel3)
  go_wp2_with fail
  refine (copied_any u1 z1 w3 (rn5)).mono ?_
  rintro e w9 ⟨v9, rfl, own9, bel9⟩
  have rd9 := own9.rd ((rn5).len)
  go_wp2_with fail
  refine (copied_any u0 z0 w9 ((rn4).below bel9)).mono ?_
  rintro e w10 ⟨v10, rfl, own10, bel10⟩
  have rd10 := own10.rd (((rn4).below bel9).len)
  go_wp2_with fail
  refine (subsumes_any v9 v10 z1 z0 w10 ((rd9).below bel10) (rd10)).mono ?_
  rintro e w11 ⟨rfl, bel11⟩
  rw [hba]
  have rn12 := (((rn4).below bel9).below bel10).below bel11
  have rn13 := (((rn5).below bel9).below bel10).below bel11
  have rn14 := (((rn6).below bel9).below bel10).below bel11
  have rn15 := (((rn7).below bel9).below bel10).below bel11
  have rn16 := ((((rd2).below bel3).below bel9).below bel10).below bel11
  have rn17 := ((rd9).below bel10).below bel11
  have bl18 : Below w.heap.size w w11 := (Below.step (Below.step (Below.step bl8 bel9) bel10) bel11)
  go_wp2_with fail
  refine (sound01_any u0 z0 w11 (rn12)).mono ?_
  rintro e wx ⟨rfl, hwx⟩
  rw [hwx]
  clear hwx wx
  rw [ha]
  go_wp2_with fail
  refine (sound01_any u1 z1 w11 (rn13)).mono ?_
  rintro e wx ⟨rfl, hwx⟩
  rw [hwx]
  clear hwx wx
  rw [hb]
  go_wp2_with fail
  refine (copied_any u0 z0 w11 (rn12)).mono ?_
  rintro e w19 ⟨v19, rfl, own19, bel19⟩
  have rd19 := own19.rd ((rn12).len)
  go_wp2_with fail
  refine (copied_any u1 z1 w19 ((rn13).below bel19)).mono ?_
  rintro e w20 ⟨v20, rfl, own20, bel20⟩
  have rd20 := own20.rd (((rn13).below bel19).len)
  go_wp2_with fail
  refine (same_any v19 v20 z0 z1 w20 ((rd19).below bel20) (rd20)).mono ?_
  rintro e w21 ⟨rfl, bel21⟩
  rw [hsm]
  have rn22 := (((rn12).below bel19).below bel20).below bel21
  have rn23 := (((rn13).below bel19).below bel20).below bel21
  have rn24 := (((rn14).below bel19).below bel20).below bel21
  have rn25 := (((rn15).below bel19).below bel20).below bel21
  have rn26 := (((rn16).below bel19).below bel20).below bel21
  have rn27 := (((rn17).below bel19).below bel20).below bel21
  have rn28 := ((((rd10).below bel11).below bel19).below bel20).below bel21
  have rn29 := ((rd19).below bel20).below bel21
  have bl30 : Below w.heap.size w w21 := (Below.step (Below.step (Below.step bl18 bel19) bel20) bel21)
  go_wp2_with fail
  refine (copied_any u0 z0 w21 (rn22)).mono ?_
  rintro e w31 ⟨v31, rfl, own31, bel31⟩
  have rd31 := own31.rd ((rn22).len)
  go_wp2_with fail
  refine (copied_any u0 z0 w31 ((rn22).below bel31)).mono ?_
  rintro e w32 ⟨v32, rfl, own32, bel32⟩
  have rd32 := own32.rd (((rn22).below bel31).len)
  go_wp2_with fail
  refine (subsumes_any v31 v32 z0 z0 w32 ((rd31).below bel32) (rd32)).mono ?_
  rintro e w33 ⟨rfl, bel33⟩
  rw [hsa]
  have rn34 := (((rn22).below bel31).below bel32).below bel33
  have rn35 := (((rn23).below bel31).below bel32).below bel33
  have rn36 := (((rn24).below bel31).below bel32).below bel33
  have rn37 := (((rn25).below bel31).below bel32).below bel33
  have rn38 := (((rn26).below bel31).below bel32).below bel33
  have rn39 := (((rn27).below bel31).below bel32).below bel33
  have rn40 := (((rn28).below bel31).below bel32).below bel33
  have rn41 := (((rn29).below bel31).below bel32).below bel33
  have rn42 := ((((rd20).below bel21).below bel31).below bel32).below bel33
  have rn43 := ((rd31).below bel32).below bel33
  have bl44 : Below w.heap.size w w33 := (Below.step (Below.step (Below.step bl30 bel31) bel32) bel33)
  go_wp2_with fail
  refine (copied_any u1 z1 w33 (rn35)).mono ?_
  rintro e w45 ⟨v45, rfl, own45, bel45⟩
  have rd45 := own45.rd ((rn35).len)
  go_wp2_with fail
  refine (copied_any u1 z1 w45 ((rn35).below bel45)).mono ?_
  rintro e w46 ⟨v46, rfl, own46, bel46⟩
  have rd46 := own46.rd (((rn35).below bel45).len)
  go_wp2_with fail
  refine (same_any v45 v46 z1 z1 w46 ((rd45).below bel46) (rd46)).mono ?_
  rintro e w47 ⟨rfl, bel47⟩
  rw [hsb]
  have rn48 := (((rn34).below bel45).below bel46).below bel47
  have rn49 := (((rn35).below bel45).below bel46).below bel47
  have rn50 := (((rn36).below bel45).below bel46).below bel47
  have rn51 := (((rn37).below bel45).below bel46).below bel47
  have rn52 := (((rn38).below bel45).below bel46).below bel47
  have rn53 := (((rn39).below bel45).below bel46).below bel47
  have rn54 := (((rn40).below bel45).below bel46).below bel47
  have rn55 := (((rn41).below bel45).below bel46).below bel47
  have rn56 := (((rn42).below bel45).below bel46).below bel47
  have rn57 := (((rn43).below bel45).below bel46).below bel47
  have rn58 := ((((rd32).below bel33).below bel45).below bel46).below bel47
  have rn59 := ((rd45).below bel46).below bel47
  have bl60 : Below w.heap.size w w47 := (Below.step (Below.step (Below.step bl44 bel45) bel46) bel47)
  go_wp2_with fail
  refine (holds01_any u2 u0 z2 z0 w47 (rn50) (rn48) (mem_fmd ha)).mono ?_
  rintro e wx ⟨rfl, hwx⟩
  rw [hwx]
  clear hwx wx
  rw [hh]
  go_wp2_with fail
  refine (holds01_any u2 u1 z2 z1 w47 (rn50) (rn49) (mem_fmd hb)).mono ?_
  rintro e wx ⟨rfl, hwx⟩
  rw [hwx]
  clear hwx wx
  rw [hh2]
  have RB : Hid (Rd w47 u1 z1) := (rn49)
  obtain ⟨hl0, aa, ca, hu0, _, _, _, h2a⟩ := (rn48)
  obtain ⟨hl1, ab, cb, hu1, _, _, _, h2b⟩ := (rn49)
  have H2a : Hid (AddrOf w47 aa z0) := h2a
  have H2b : Hid (AddrOf w47 ab z1) := h2b
  have BL : Hid (Below w.heap.size w w47) := bl60
  have LK : Hid (true = z0.all (fun x => z1.contains x)) := by rw [← hab0]; exact allIn_all ha
  have TK : Hid (adj (tid z1) = z1.any (fun x => z1.contains (-x))) := adj_opp hb
  have MF : Hid (∀ x ∈ z1, fmd x = true) := mem_fmd hb
  clear h2a h2b
  subst hu0
  subst hu1
  go_wp2
  go_loopg [9, 10] z0.length (fun g l i wr => ∃ k : Nat, k + g = z0.length ∧ i = .int .i64 k ∧ l = .bool (!(z0.take k).all (fun x => z1.contains x)) ∧ wr = w47)
  case atStart => exact ⟨0, by omega, rfl, by simp, rfl⟩
  case round =>
    obtain ⟨k, hk, rfl, rfl, rfl⟩ := hrel
    have HK : Hid (k + gk = z0.length) := hk
    by_cases hlt : k < z0.length
    · obtain ⟨bb, oo, e, hbb, hcell⟩ := H2a.out (by intro h; rw [h] at hlt; simp at hlt)
      have hck := hcell k hlt
      clear hcell
      subst e
      have HS : Hid ((z0.take (k + 1)).all (fun x => z1.contains x) = ((z0.take k).all (fun x => z1.contains x) && z1.contains (z0.getD k 0))) := all_take_gen z0 k hlt
      have HW : Hid (Calls Try.prog 17 #[.slice ab z1.length cb, .int .i64 (z0.getD k 0)] wr fun e w' => e = .returned (.bool (z1.contains (z0.getD k 0))) ∧ w' = wr) := within_any _ z1 _ wr RB.out
      clear hk
      generalize z1.contains (z0.getD k 0) = q at *
      generalize z0.getD k 0 = z at *
      generalize (z0.take k).all (fun x => z1.contains x) = p at *
      cases q
      · go_wp2_with fail
        refine HW.out.mono ?_
        rintro e wx ⟨rfl, hwx⟩
        rw [hwx]
        clear hwx wx
        go_wp2
        go_roundg (gk - 1)
        case measure => have := HK.out; omega
        case rel => exact ⟨k + 1, by have := HK.out; omega, by go_num, by rw [HS.out]; simp, rfl⟩
      · go_wp2_with fail
        refine HW.out.mono ?_
        rintro e wx ⟨rfl, hwx⟩
        rw [hwx]
        clear hwx wx
        go_wp2
        go_roundg (gk - 1)
        case measure => have := HK.out; omega
        case rel => exact ⟨k + 1, by have := HK.out; omega, by go_num, by rw [HS.out]; simp, rfl⟩
    · obtain rfl : k = z0.length := by omega
      have LK2 : Hid ((z0.take z0.length).all (fun x => z1.contains x) = true) := by rw [List.take_length]; exact LK.out.symm
      clear hk
      generalize (z0.take z0.length).all (fun x => z1.contains x) = lk at *
      go_wp2
      go_loopg [11, 12] z1.length (fun g l i wq => ∃ k : Nat, k + g = z1.length ∧ i = .int .i64 k ∧ l = .bool ((z1.take k).any (fun x => z1.contains (-x))) ∧ wq = wr)
      case atStart => exact ⟨0, by omega, rfl, by simp, rfl⟩
      case round =>
        obtain ⟨k, hk, rfl, rfl, hwq⟩ := hrel
        rw [hwq]
        clear hwq
        have HK : Hid (k + gk = z1.length) := hk
        by_cases hlt : k < z1.length
        · obtain ⟨bb, oo, e, hbb, hcell⟩ := H2b.out (by intro h; rw [h] at hlt; simp at hlt)
          have hck := hcell k hlt
          clear hcell
          subst e
          have hfz := fmd_range (MF.out (z1.getD k 0) (by rw [List.getD_eq_getElem?_getD, List.getElem?_eq_getElem hlt]; exact List.getElem_mem hlt))
          have hf1 := hfz.2.1
          have hf2 := hfz.2.2
          have HS : Hid ((z1.take (k + 1)).any (fun x => z1.contains (-x)) = ((z1.take k).any (fun x => z1.contains (-x)) || z1.contains (-(z1.getD k 0)))) := any_take_gen z1 k hlt
          have HW := within_any _ z1 (-(z1.getD k 0)) _ RB.out
          clear hk hfz
          have HW2 : Hid (Calls Try.prog 17 #[.slice (some ⟨bb, oo, none⟩) z1.length cb, .int .i64 (-(z1.getD k 0))] _ fun e w' => e = .returned (.bool (z1.contains (-(z1.getD k 0)))) ∧ w' = _) := HW
          clear HW
          generalize z1.contains (-(z1.getD k 0)) = q at *
          generalize z1.getD k 0 = z at *
          generalize (z1.take k).any (fun x => z1.contains (-x)) = p at *
          cases q
          · go_wp2_with fail
            refine HW2.out.mono ?_
            rintro e wx ⟨rfl, hwx⟩
            rw [hwx]
            clear hwx wx
            go_wp2
            go_roundg (gk - 1)
            case measure => have := HK.out; omega
            case rel => exact ⟨k + 1, by have := HK.out; omega, by go_num, by rw [HS.out]; simp, rfl⟩
          · go_wp2_with fail
            refine HW2.out.mono ?_
            rintro e wx ⟨rfl, hwx⟩
            rw [hwx]
            clear hwx wx
            go_wp2
            go_roundg (gk - 1)
            case measure => have := HK.out; omega
            case rel => exact ⟨k + 1, by have := HK.out; omega, by go_num, by rw [HS.out]; simp, rfl⟩
        · obtain rfl : k = z1.length := by omega
          have TK2 : Hid ((z1.take z1.length).any (fun x => z1.contains (-x)) = adj (tid z1)) := by rw [List.take_length]; exact TK.out.symm
          have hl2 : lk = true := LK2.out
          clear hk
          generalize (z1.take z1.length).any (fun x => z1.contains (-x)) = tk at *
          have RB' := RB.out
          have BL' := BL.out
          subst hl2
          go_wp2_with fail
          refine (copied_any _ z1 _ RB').mono ?_
          rintro e w91 ⟨v91, rfl, own91, bel91⟩
          go_wp2_with fail
          refine (taut_any v91 z1 w91 (own91.rd RB'.len)).mono ?_
          rintro e w92 ⟨rfl, bel92⟩
          go_wp2
          go_ret
          exact ⟨by rw [TK2.out]; simp, Below.step BL' (Below.step bel91 bel92)⟩

theorem walk (u0 u1 u2 : Value) (z0 z1 : List Int) (z2 : List Bool) (w : World) (r0 : Rd w u0 z0) (r1 : Rd w u1 z1) (r2 : RdB w u2 z2) :
    Calls Try.prog 6 #[u0, u1, u2] w fun e w' => e = .returned (.bool true) ∧ Below w.heap.size w w' := by
  cases ha : z0.all fmd
  · exact walk_a u0 u1 u2 z0 z1 z2 w r0 r1 r2 ha
  cases hb : z1.all fmd
  · exact walk_b u0 u1 u2 z0 z1 z2 w r0 r1 r2 ha hb
  cases hab : allIn z0 (tid z1)
  · exact walk_no u0 u1 u2 z0 z1 z2 w r0 r1 r2 ha hb _ _ hab rfl rfl
  cases hh : hol z2 z0
  · exact walk_yes u0 u1 u2 z0 z1 z2 w r0 r1 r2 ha hb _ hab rfl hh
  · exact walk_both u0 u1 u2 z0 z1 z2 w r0 r1 r2 ha hb _ hab rfl hh (hol_mono ha hab hh)

set_option maxRecDepth 100000 in
theorem lifted (os : Os) (started : os.Started) (H : Type) (enc : TypeId × Value → H) :
    ReturnsInHanded {} Try.checked os 6 .any (Rows.litsWeakerSpec.pre6 enc Try.prog Try.f6 Rows.litsWeakerRow.domain false) (Rows.litsWeakerSpec.post enc Try.prog Try.f6 false true false false) := by
  refine returnsInHanded_of_change_sized (C := Try.checked) own started (by kernel_rfl) Try.func6
    (ChangeSpec.witness6 (enc := enc) (C := Try.checked) false ⟨#[], #[.slice none 0 0, .slice none 0 0, .slice none 0 0], []⟩ 8 (by kernel_rfl) (by kernel_rfl) (by kernel_rfl) (by kernel_rfl)) ?_
  intro W base args ds gs before hval0 hW hcnd hsz0 _
  have hval : ∀ (j : Nat) t v, Try.f6.params[j]? = some t → args[j]? = some v → Value.okWide Try.prog W .any base t v := hval0
  have hsz : (DataW.weightsEach Try.prog (Try.f6.params.toList ++ Rows.litsWeakerSpec.plain.varTypes Try.prog) (ds ++ gs)).all (· ≤ reachBytes) = true := hsz0
  have hW' := hW
  obtain ⟨p, q, hA0, hV, rfl, hfz, hnd⟩ := hW
  have hA : DataW.TrodAll enc Try.prog W 0 (fun _ => true) true Try.f6.params.toList args.toList ds p := hA0
  rw [Try.params6] at hA hval hsz
  obtain ⟨v0, vs0, d0, ds0, p0, q0, hargs, rfl, rfl, h0, r0⟩ := trodAll_cons hA
  obtain ⟨v1, vs1, d1, ds1, p1, q1, rfl, rfl, rfl, h1, r1⟩ := trodAll_cons r0
  obtain ⟨v2, vs2, d2, ds2, p2, q2, rfl, rfl, rfl, h2, r2⟩ := trodAll_cons r1
  obtain ⟨rfl, rfl, rfl⟩ := trodAll_nil r2
  obtain rfl : args = #[v0, v1, v2] := by cases args; simp_all
  obtain ⟨rfl, rfl⟩ := trodVars_none hV
  obtain ⟨a0, len0, cap0, rfl⟩ := okWide_slice Try.underlying25 (hval 0 25 v0 rfl rfl)
  have k0 := h0
  have lt0 : ∀ x ∈ p0, x.block < W.heap.size := by obtain ⟨m, hm⟩ := k0; exact DataW.trod_lt m _ _ _ hm
  obtain ⟨z0, w0⟩ : ∃ zs, Rd W (.slice a0 len0 cap0) zs := by
    obtain ⟨fuel, hf⟩ := h0
    rcases open_ints Try.underlying25 Try.underlying3 (by kernel_rfl) hf with ⟨hcs, _⟩ | ⟨x, l, c, zs, hcs, _, hl, hm, hz, hx, hcell, hwz⟩
    · simp [Value.cells] at hcs
      obtain ⟨rfl, rfl, rfl⟩ := hcs
      exact ⟨[], Rd.nil _⟩
    · simp [Value.cells] at hcs
      obtain ⟨rfl, rfl, rfl⟩ := hcs
      have hd := congrArg Prod.fst hx
      simp only at hd
      subst hd
      have hs := sized_slice hsz (j := 0) (t := 25) (e := 3) rfl rfl Try.underlying25
      exact ⟨_, Rd.opened hl hm (by simpa using hz) hs hcell⟩
  obtain ⟨a1, len1, cap1, rfl⟩ := okWide_slice Try.underlying25 (hval 1 25 v1 rfl rfl)
  have k1 := h1
  have lt1 : ∀ x ∈ p1, x.block < W.heap.size := by obtain ⟨m, hm⟩ := k1; exact DataW.trod_lt m _ _ _ hm
  obtain ⟨z1, w1⟩ : ∃ zs, Rd W (.slice a1 len1 cap1) zs := by
    obtain ⟨fuel, hf⟩ := h1
    rcases open_ints Try.underlying25 Try.underlying3 (by kernel_rfl) hf with ⟨hcs, _⟩ | ⟨x, l, c, zs, hcs, _, hl, hm, hz, hx, hcell, hwz⟩
    · simp [Value.cells] at hcs
      obtain ⟨rfl, rfl, rfl⟩ := hcs
      exact ⟨[], Rd.nil _⟩
    · simp [Value.cells] at hcs
      obtain ⟨rfl, rfl, rfl⟩ := hcs
      have hd := congrArg Prod.fst hx
      simp only at hd
      subst hd
      have hs := sized_slice hsz (j := 1) (t := 25) (e := 3) rfl rfl Try.underlying25
      exact ⟨_, Rd.opened hl hm (by simpa using hz) hs hcell⟩
  obtain ⟨a2, len2, cap2, rfl⟩ := okWide_slice Try.underlying32 (hval 2 32 v2 rfl rfl)
  have k2 := h2
  have lt2 : ∀ x ∈ p2, x.block < W.heap.size := by obtain ⟨m, hm⟩ := k2; exact DataW.trod_lt m _ _ _ hm
  obtain ⟨z2, w2⟩ : ∃ zs, RdB W (.slice a2 len2 cap2) zs := by
    obtain ⟨fuel, hf⟩ := h2
    rcases Go.Deep.open_bools Try.underlying32 Try.underlying4 (by kernel_rfl) hf with ⟨hcs, _⟩ | ⟨x, l, c, B, hcs, _, hl, hm, hx, hcell⟩
    · simp [Value.cells] at hcs
      obtain ⟨rfl, rfl, rfl⟩ := hcs
      exact ⟨[], RdB.nil _⟩
    · simp [Value.cells] at hcs
      obtain ⟨rfl, rfl, rfl⟩ := hcs
      have hd := congrArg Prod.fst hx
      simp only [Go.Deep.boolRow] at hd
      subst hd
      have hs := sized_slice hsz (j := 2) (t := 32) (e := 4) rfl rfl Try.underlying32
      simp only [List.length_map, List.length_range] at hs
      rw [Nat.add_sub_cancel' hl] at hs
      exact ⟨_, RdB.opened (H := H) hl hs hcell⟩
  clear hA0 hval0 hsz0
  refine (walk _ _ _ z0 z1 z2 W w0 w1 w2).mono fun e W' ⟨he, bel⟩ => ?_
  subst he
  exact ⟨_, rfl, _, _, _, [], _, [], hW', trodAll_mk1 (shut_bool Try.underlying4 _), (trodAll_cons_mk (Below.trod laidOut (by kernel_rfl) (of_decide_eq_true (by kernel_rfl)) k0 bel lt0) (trodAll_cons_mk (Below.trod laidOut (by kernel_rfl) (of_decide_eq_true (by kernel_rfl)) k1 bel lt1) (trodAll_cons_mk (Below.trod laidOut (by kernel_rfl) (of_decide_eq_true (by kernel_rfl)) k2 bel lt2) trodAll_mk0))), rfl, bel.frame _, fun h => by cases h⟩

theorem over : Rows.litsWeakerRow.holds Try.pinned (OpenSpec.ofChange Rows.litsWeakerSpec) :=
  OpenClaim.holds_of_wide 6 Try.f6 rfl rfl rfl rfl rfl rfl rfl ⟨rfl, rfl, rfl, rfl, rfl⟩ rfl rfl rfl rfl rfl (by kernel_rfl) Try.func6 (by kernel_rfl)
    (of_decide_eq_true (by kernel_rfl)) (by unfold Func.isWrapper; first | (rw [if_pos (by decide +kernel)]; kernel_rfl) | (rw [if_neg (by decide +kernel)]; exact ⟨rfl, rfl⟩))
    (fun os started H enc _ => lifted os started H enc)

theorem proved : Rows.LitsWeakerSaid := over
end Go.Proofs.Ythplkllphpnaoab.litsWeaker
