/-
  The document's answer, walked: Sound, Has, Equal, Tidy.
-/
import Derived.Test.YtgngdohhlhlcpaaRef
import Derived.Test.YtgngdohhlhlcpaaTidy
set_option linter.unusedSimpArgs false
set_option linter.unusedVariables false
namespace Go.Proofs.Ytgngdohhlhlcpaa
open Go.RowKit

theorem refSound_any (v : Value) (zs : List Int) (w : World) (hr : Rd w v zs) :
    Calls Try.prog 42 #[v] w fun e w' => e = .returned (.bool (zs.all fmd)) ∧ w' = w := by
  have hl := hr.len
  rcases hr.cases with ⟨rfl, a, c, rfl, _, _⟩ | ⟨b, off, c, rfl, hpos, hc, hm, hb, hcell⟩
  · go_enter Try.func42, Try.ntmps42
    go_wp2
    refine wp_loop_rounds 1 ?_
    rw [rounds_succ]
    go_wp2
    go_ret
    exact ⟨rfl, rfl⟩
  · have HC : Hid (∀ j, j < zs.length → w.cell? ⟨b, off + j, none⟩ = some (.int .i64 (zs.getD j 0))) := hcell
    clear hcell hr
    go_enter Try.func42, Try.ntmps42
    go_wp2
    go_loopg [3] zs.length (fun g i wr => ∃ k : Nat, k + g = zs.length ∧ i = .int .i64 k ∧ (zs.take k).all fmd = true ∧ wr = w)
    case atStart => exact ⟨0, by omega, rfl, by simp, rfl⟩
    case round =>
      obtain ⟨k, hk, rfl, hall, rfl⟩ := hrel
      have HA : Hid ((zs.take k).all fmd = true) := hall
      have HK : Hid (k + gk = zs.length) := hk
      clear hall
      by_cases hlt : k < zs.length
      · have hck := HC.out k hlt
        have HS : Hid ((zs.take (k + 1)).all fmd = ((zs.take k).all fmd && fmd (zs.getD k 0))) := all_take_succ zs k hlt
        cases hf : fmd (zs.getD k 0)
        · have HF : Hid (zs.all fmd = false) := all_false_of hlt hf
          clear hk
          generalize zs.getD k 0 = z at *
          go_wp2_with (go_at_call 43; refine (refFormed_any _ _).mono ?_; rintro e w' ⟨rfl, rfl⟩)
          go_ret
          exact ⟨ret_bool HF.out.symm, rfl⟩
        · clear hk
          generalize zs.getD k 0 = z at *
          go_wp2_with (go_at_call 43; refine (refFormed_any _ _).mono ?_; rintro e w' ⟨rfl, rfl⟩)
          go_roundg (gk - 1)
          case measure => have := HK.out; omega
          case rel => exact ⟨k + 1, by have := HK.out; omega, by go_num, by rw [HS.out, HA.out, hf]; rfl, rfl⟩
      · obtain rfl : k = zs.length := by omega
        have HE : Hid (zs.all fmd = true) := by have := HA.out; rw [List.take_length] at this; exact this
        clear hk
        go_wp2
        go_ret
        exact ⟨ret_bool HE.out.symm, rfl⟩

theorem contains_take_succ (zs : List Int) (l : Int) (k : Nat) (h : k < zs.length) : (zs.take (k + 1)).contains l = ((zs.take k).contains l || (zs.getD k 0 == l)) := by
  rw [Bool.eq_iff_iff, Bool.or_eq_true, List.contains_iff_mem, List.contains_iff_mem, beq_iff_eq, mem_take_succ h l]
  constructor
  · rintro (p | p)
    · exact .inl p
    · exact .inr p.symm
  · rintro (p | p)
    · exact .inl p
    · exact .inr p.symm
theorem contains_true_of {zs : List Int} {l : Int} {k : Nat} (h : k < zs.length) (hf : (zs.getD k 0 == l) = true) : zs.contains l = true := by
  rw [List.contains_iff_mem]
  have e : zs[k] = l := by simpa [List.getD_eq_getElem?_getD, List.getElem?_eq_getElem h] using hf
  rw [← e]; exact List.getElem_mem h

theorem take_eq_succ {a b : List Int} {k : Nat} (ha : k < a.length) (hb : k < b.length) (h : a.take k = b.take k) (he : a.getD k 0 = b.getD k 0) : a.take (k + 1) = b.take (k + 1) := by
  have e : a[k] = b[k] := by simpa [List.getD_eq_getElem?_getD, List.getElem?_eq_getElem ha, List.getElem?_eq_getElem hb] using he
  rw [List.take_succ_eq_append_getElem ha, List.take_succ_eq_append_getElem hb, h, e]
theorem beq_false_at {a b : List Int} {k : Nat} (h : a.getD k 0 ≠ b.getD k 0) : (a == b) = false := by
  rw [beq_eq_false_iff_ne]; intro e; exact h (by rw [e])
theorem beq_false_len {a b : List Int} (h : a.length ≠ b.length) : (a == b) = false := by
  rw [beq_eq_false_iff_ne]; intro e; exact h (by rw [e])

theorem rd_take {w : World} {b off c : Nat} {zs : List Int} (h : Nat) (hh : h ≤ zs.length) (hl : zs.length * 8 ≤ 140737488351232) (hc : zs.length ≤ c) (hm : c ≤ maxLen) (hb : b < w.heap.size) (hcell : ∀ j, j < zs.length → w.cell? ⟨b, off + j, none⟩ = some (.int .i64 (zs.getD j 0))) : Rd w (.slice (some ⟨b, off, none⟩) h c) (zs.take h) := by
  have e : (zs.take h).length = h := by simp; omega
  refine ⟨by rw [e]; omega, _, c, by rw [e], by rw [e]; omega, hm, fun h => (by cases h), fun _ => ⟨b, off, rfl, hb, fun j hj => ?_⟩⟩
  rw [e] at hj
  rw [hcell j (by omega)]
  simp [List.getD_eq_getElem?_getD, List.getElem?_take, hj]
theorem rd_drop {w : World} {b off c : Nat} {zs : List Int} (h : Nat) (hh : h ≤ zs.length) (hl : zs.length * 8 ≤ 140737488351232) (hc : zs.length ≤ c) (hm : c ≤ maxLen) (hb : b < w.heap.size) (hcell : ∀ j, j < zs.length → w.cell? ⟨b, off + j, none⟩ = some (.int .i64 (zs.getD j 0))) : Rd w (.slice (some ⟨b, off + h, none⟩) (zs.length - h) (c - h)) (zs.drop h) := by
  have e : (zs.drop h).length = zs.length - h := by simp
  refine ⟨by rw [e]; omega, _, c - h, by rw [e], by rw [e]; omega, by omega, fun h => (by cases h), fun _ => ⟨b, off + h, rfl, hb, fun j hj => ?_⟩⟩
  rw [e] at hj
  rw [Nat.add_assoc, hcell (h + j) (by omega)]
  simp [List.getD_eq_getElem?_getD, List.getElem?_drop]
theorem tid_one_yes {z : Int} (h : fmd z = true) : tid [z] = [z] := by simp [tid, h, ins]
theorem tid_one_no {z : Int} (h : fmd z = false) : tid [z] = [] := by simp [tid, h]
theorem own_one (w : World) (z : Int) : Own w.heap.size (w.alloc (.cells #[.int .i64 z] 3)) (.slice (some ⟨w.heap.size, 0, none⟩) 1 1) [z] :=
  World.ownsRow_lit w #[.int .i64 z] 1 (Nat.le_refl _) (by unfold maxLen; omega) (by simp)

set_option maxHeartbeats 800000 in
theorem refTidy_any : ∀ (n : Nat) (v : Value) (zs : List Int) (w : World), zs.length = n → Rd w v zs →
    Calls Try.prog 34 #[v] w fun e w' => ∃ v', e = .returned v' ∧ Own w.heap.size w' v' (tid zs) ∧ Below w.heap.size w w' := by
  intro n
  induction n using Nat.strongRecOn with
  | _ n ih =>
    intro v zs w hn hr
    have IH : Hid (∀ m, m < n → ∀ (v : Value) (zs : List Int) (w : World), zs.length = m → Rd w v zs → Calls Try.prog 34 #[v] w fun e w' => ∃ v', e = .returned v' ∧ Own w.heap.size w' v' (tid zs) ∧ Below w.heap.size w w') := ih
    clear ih
    have hl := hr.len
    rcases hr.cases with ⟨rfl, a, c, rfl, _, _⟩ | ⟨b, off, c, rfl, hpos, hc, hm, hb, hcell⟩
    · go_enter Try.func34, Try.ntmps34
      go_wp2
      go_ret
      exact ⟨_, rfl, World.ownsRow_nil _ _ _ _, Below.refl _ _⟩
    · by_cases h1 : zs.length = 1
      · obtain ⟨z, rfl⟩ : ∃ z, zs = [z] := List.length_eq_one_iff.1 h1
        have hck : w.cell? ⟨b, off, none⟩ = some (.int .i64 z) := hcell 0 (by simp)
        clear hcell hr
        cases hf : fmd z
        · rw [tid_one_no hf]
          go_enter Try.func34, Try.ntmps34
          go_wp2_with (go_at_call 43; refine (refFormed_any _ _).mono ?_; rintro e w' ⟨rfl, rfl⟩)
          go_ret
          exact ⟨_, rfl, World.ownsRow_nil _ _ _ _, Below.refl _ _⟩
        · rw [tid_one_yes hf]
          go_enter Try.func34, Try.ntmps34
          go_wp2_with (go_at_call 43; refine (refFormed_any _ _).mono ?_; rintro e w' ⟨rfl, rfl⟩)
          go_ret
          exact ⟨_, rfl, own_one _ z, (Below.refl _ _).alloc (Nat.le_refl _) _⟩
      · have hn0 : ((zs.length : Int) == 0) = false := beq_eq_false_iff_ne.2 (by omega)
        have hn1 : ((zs.length : Int) == 1) = false := beq_eq_false_iff_ne.2 (by omega)
        have HN : Hid (zs.length = n) := hn
        have h2 : 2 ≤ zs.length := by omega
        have ht := rd_take (zs.length / 2) (by omega) hl hc hm hb hcell
        have hd := rd_drop (zs.length / 2) (by omega) hl hc hm hb hcell
        have c1 := IH.out (zs.length / 2) (by omega) _ (zs.take (zs.length / 2)) w (by simp; omega) ht
        clear hcell hr hn h1
        go_enter Try.func34, Try.ntmps34
        go_wp2_with fail
        refine c1.mono ?_
        rintro e w1 ⟨v1, rfl, own1, bel1⟩
        have c2 := IH.out (zs.length - zs.length / 2) (by have := HN.out; omega) _ (zs.drop (zs.length / 2)) w1 (by simp) (hd.below bel1)
        go_wp2_with fail
        refine c2.mono ?_
        rintro e w2 ⟨v2, rfl, own2, bel2⟩
        have c3 := merged_any v1 v2 (tid (zs.take (zs.length / 2))) (tid (zs.drop (zs.length / 2))) w2 ((own1.rd (tid8 _)).below bel2) (own2.rd (tid8 _)) (tid_rising _) (tid_rising _) tid_fmd tid_fmd
        rw [tid_halves] at c3
        go_wp2_with fail
        refine c3.mono ?_
        rintro e w3 ⟨v3, rfl, own3, bel3⟩
        go_wp2
        go_ret
        exact ⟨_, rfl, own3.mono (Below.step bel1 bel2).size, Below.step (Below.step bel1 bel2) bel3⟩

theorem refTidy (v : Value) (zs : List Int) (w : World) (hr : Rd w v zs) :
    Calls Try.prog 34 #[v] w fun e w' => ∃ v', e = .returned v' ∧ Own w.heap.size w' v' (tid zs) ∧ Below w.heap.size w w' := refTidy_any zs.length v zs w rfl hr

theorem refJoin_any (va vb : Value) (a b : List Int) (w : World) (ha : Rd w va a) (hb : Rd w vb b) :
    Calls Try.prog 38 #[va, vb] w fun e w' => ∃ v', e = .returned v' ∧ Own w.heap.size w' v' (tid (a ++ b)) ∧ Below w.heap.size w w' := by
  go_enter Try.func38, Try.ntmps38
  go_wp2_with fail
  refine (refTidy va a w ha).mono ?_
  rintro e w1 ⟨v1, rfl, own1, bel1⟩
  go_wp2_with fail
  refine (refTidy vb b w1 (hb.below bel1)).mono ?_
  rintro e w2 ⟨v2, rfl, own2, bel2⟩
  have c3 := merged_any v1 v2 (tid a) (tid b) w2 ((own1.rd (tid8 _)).below bel2) (own2.rd (tid8 _)) (tid_rising _) (tid_rising _) tid_fmd tid_fmd
  rw [tid_join] at c3
  go_wp2_with fail
  refine c3.mono ?_
  rintro e w3 ⟨v3, rfl, own3, bel3⟩
  go_wp2
  go_ret
  exact ⟨_, rfl, own3.mono (Below.step bel1 bel2).size, Below.step (Below.step bel1 bel2) bel3⟩

end Go.Proofs.Ytgngdohhlhlcpaa
