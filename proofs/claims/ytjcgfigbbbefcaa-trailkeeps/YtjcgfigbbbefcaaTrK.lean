/-
  trail: Look.
  KEEP: set on app at below new trans refl start ap kept rd rds mono
-/
import Derived.Test.YtjcgfigbbbefcaaTrY
set_option linter.unusedSimpArgs false
set_option linter.unusedVariables false
namespace Go.Proofs.Ytjcgfigbbbefcaa
open Go Go.RowKit

theorem rd_at {w : World} {v : Value} {zs : List Int} (h : Rd w v zs) : ∃ a c, v = .slice a zs.length c ∧ zs.length * 8 ≤ 140737488351232 ∧ ∀ j, j < zs.length → ∃ g off, a = some ⟨g, off, none⟩ ∧ g < w.heap.size ∧ w.cell? ⟨g, off + j, none⟩ = some (.int .i64 (zs.getD j 0)) := by
  rcases h.cases with ⟨rfl, a, c, rfl, hcm, hcn⟩ | ⟨g, off, c, rfl, hpos, hc, hm, hb, hcell⟩
  · exact ⟨a, c, rfl, by simp, fun j hj => by simp at hj⟩
  · exact ⟨_, c, rfl, h.len, fun j hj => ⟨g, off, rfl, hb, hcell j hj⟩⟩
theorem take_all {zs : List Int} {f : Int → Bool} {k : Nat} (h : k < zs.length) : (zs.take (k + 1)).all f = ((zs.take k).all f && f (zs.getD k 0)) := by
  rw [List.take_succ_eq_append_getElem h, List.all_append]
  simp [List.getD_eq_getElem?_getD, h]
theorem all_no {zs : List Int} {f : Int → Bool} {k : Nat} (h : k < zs.length) (hf : f (zs.getD k 0) = false) : zs.all f = false := by
  rw [List.all_eq_false]
  refine ⟨zs[k], List.getElem_mem h, ?_⟩
  have : zs.getD k 0 = zs[k] := by simp [List.getD_eq_getElem?_getD, h]
  rw [← this, hf]; simp

theorem trFits_any (b : Nat) (s : Sl) (n : Nat) (R : List Pl) (v : Value) (zs : List Int) (w : World) (h : Tr w b s n R) (hr : Rd w v zs) :
    Calls Try.prog 52 #[.pointer (some ⟨b, 0, none⟩), v] w fun e w' => e = .returned (.bool (zs.all (litN n))) ∧ w' = w := by
  obtain ⟨a0, c0, e0⟩ := row_form' h.q.v
  have hb := h.q.box
  rw [e0] at hb
  have HB : Hid (Bx4 w b 77 (.slice a0 n c0) s.F s.R s.L) := hb
  have HLt : Hid (∀ l, decide (1 ≤ varOf l ∧ varOf l ≤ n) = litN n l) := fun l => (varOf_lit h.n).symm
  obtain ⟨a, c, rfl, hl8, hcell⟩ := rd_at hr
  have HC : Hid (∀ j, j < zs.length → ∃ g off, a = some ⟨g, off, none⟩ ∧ g < w.heap.size ∧ w.cell? ⟨g, off + j, none⟩ = some (.int .i64 (zs.getD j 0))) := hcell
  clear h hb e0 hr hcell
  go_enter Try.func52, Try.ntmps52
  go_wp2
  go_loopg [9] zs.length (fun g i' wr => ∃ k : Nat, k + g = zs.length ∧ i' = .int .i64 k ∧ (zs.take k).all (litN n) = true ∧ wr = w)
  case atStart => exact ⟨0, by omega, rfl, by simp, rfl⟩
  case round =>
    obtain ⟨k, hk, rfl, hall, rfl⟩ := hrel
    have HK : Hid (k + gk = zs.length) := hk
    have HA : Hid ((zs.take k).all (litN n) = true) := hall
    clear hall
    by_cases hlt : k < zs.length
    · obtain ⟨g, off, rfl, hg, d0⟩ := HC.out k hlt
      have HT : Hid ((zs.take (k + 1)).all (litN n) = ((zs.take k).all (litN n) && litN n (zs.getD k 0))) := take_all hlt
      have HNo : Hid (litN n (zs.getD k 0) = false → zs.all (litN n) = false) := all_no hlt
      clear hk
      generalize zs.getD k 0 = z at *
      go_wp2_with fail
      refine (var_any _ _).mono ?_
      rintro e w1 ⟨rfl, rfl⟩
      go_wp2_with fail
      refine (trHas_any b n a0 c0 s.F s.R s.L _ w1 HB.out).mono ?_
      rw [HLt.out]
      rintro e w2 ⟨rfl, rfl⟩
      cases hz : litN n z with
      | true =>
        go_wp2
        go_roundg (gk - 1)
        case measure => have := HK.out; omega
        case rel => exact ⟨k + 1, by have := HK.out; omega, by go_num, by rw [HT.out, HA.out, hz]; rfl, rfl⟩
      | false =>
        have HE : Hid (zs.all (litN n) = false) := HNo.out hz
        go_wp2
        go_ret
        exact ⟨by rw [HE.out]; rfl, rfl⟩
    · obtain rfl : k = zs.length := by omega
      rw [List.take_length] at HA
      clear hk HK
      go_wp2
      go_ret
      exact ⟨by rw [HA.out]; rfl, rfl⟩

/-- what is open: the last one, and whether there were two unlike ones -/
def lkS (n : Nat) (R : List Pl) (st : Int × Bool) (l : Int) : Int × Bool := if valL n R l = 0 then (l, st.2 || (decide (st.1 ≠ 0) && decide (st.1 ≠ l))) else st
def lkF (n : Nat) (R : List Pl) (zs : List Int) : Int × Bool := zs.foldl (lkS n R) (0, false)
def tru (n : Nat) (R : List Pl) (l : Int) : Bool := decide (valL n R l = 1)
def lookF (n : Nat) (R : List Pl) (zs : List Int) : Int × Int :=
  if zs.all (litN n) then (match zs.find? (tru n R) with | some l => (1, l) | none => if (lkF n R zs).2 then (0, 0) else if (lkF n R zs).1 ≠ 0 then (2, (lkF n R zs).1) else (-1, 0)) else (0, 0)
theorem lkF_more {n : Nat} {R : List Pl} {zs : List Int} {k : Nat} (h : k < zs.length) : lkF n R (zs.take (k + 1)) = lkS n R (lkF n R (zs.take k)) (zs.getD k 0) := by
  unfold lkF
  rw [List.take_succ_eq_append_getElem h, List.foldl_append]
  simp [List.getD_eq_getElem?_getD, h]
theorem find_more {f : Int → Bool} {zs : List Int} {k : Nat} (h : k < zs.length) : (zs.take (k + 1)).find? f = ((zs.take k).find? f).or (if f (zs.getD k 0) then some (zs.getD k 0) else none) := by
  rw [List.take_succ_eq_append_getElem h, List.find?_append]
  congr 1
  simp [List.getD_eq_getElem?_getD, h, List.find?_cons]
  split <;> simp_all
theorem find_first {f : Int → Bool} {zs : List Int} {k : Nat} (h : k < zs.length) (h0 : (zs.take k).find? f = none) (h1 : f (zs.getD k 0) = true) : zs.find? f = some (zs.getD k 0) := by
  have e : zs.take (k + 1) ++ zs.drop (k + 1) = zs := List.take_append_drop _ _
  rw [← e, List.find?_append, find_more h, h0, h1]
  rw [e]; simp

set_option maxRecDepth 100000 in
set_option maxHeartbeats 3200000 in
theorem trLook_any (b : Nat) (s : Sl) (n : Nat) (R : List Pl) (v : Value) (zs : List Int) (w : World) (h : Tr w b s n R) (hr : Rd w v zs) :
    Calls Try.prog 27 #[.pointer (some ⟨b, 0, none⟩), v] w fun e w' => e = .returned (.tuple #[.int .i8 (lookF n R zs).1, .int .i64 (lookF n R zs).2]) ∧ w' = w := by
  have HT : Hid (Tr w b s n R) := h
  have HF : Hid (Calls Try.prog 52 #[.pointer (some ⟨b, 0, none⟩), v] w fun e w' => e = .returned (.bool (zs.all (litN n))) ∧ w' = w) := trFits_any b s n R v zs w h hr
  obtain ⟨a, c, rfl, hl8, hcell⟩ := rd_at hr
  have HC : Hid (∀ j, j < zs.length → ∃ g off, a = some ⟨g, off, none⟩ ∧ g < w.heap.size ∧ w.cell? ⟨g, off + j, none⟩ = some (.int .i64 (zs.getD j 0))) := hcell
  clear h hr hcell
  cases hall : zs.all (litN n) with
  | false =>
    have e1 : lookF n R zs = (0, 0) := by unfold lookF; rw [hall]; rfl
    rw [e1]
    go_enter Try.func27, Try.ntmps27
    go_wp2_with fail
    refine HF.out.mono ?_
    rw [hall]
    rintro e w1 ⟨rfl, rfl⟩
    go_wp2
    go_ret2
    exact ⟨rfl, rfl⟩
  | true =>
    have HA : Hid (lookF n R zs = (match zs.find? (tru n R) with | some l => (1, l) | none => if (lkF n R zs).2 then (0, 0) else if (lkF n R zs).1 ≠ 0 then (2, (lkF n R zs).1) else (-1, 0))) := by show _ = _; unfold lookF; rw [hall]; rfl
    go_enter Try.func27, Try.ntmps27
    go_wp2_with fail
    refine HF.out.mono ?_
    rw [hall]
    rintro e w1 ⟨rfl, rfl⟩
    clear HF hall
    go_wp2
    go_loopg [6, 7, 16] zs.length (fun g v6 v7 i' wr => ∃ k : Nat, k + g = zs.length ∧ i' = .int .i64 k ∧ v6 = .int .i64 (lkF n R (zs.take k)).1 ∧ v7 = .bool (lkF n R (zs.take k)).2 ∧ (zs.take k).find? (tru n R) = none ∧ wr = w1)
    case atStart => exact ⟨0, by omega, rfl, rfl, rfl, by simp, rfl⟩
    case round =>
      obtain ⟨k, hk, rfl, rfl, rfl, hnf, rfl⟩ := hrel
      have HK : Hid (k + gk = zs.length) := hk
      have HNf : Hid ((zs.take k).find? (tru n R) = none) := hnf
      clear hnf
      by_cases hlt : k < zs.length
      · obtain ⟨g, off, rfl, hg, d0⟩ := HC.out k hlt
        have HL : Hid (lkF n R (zs.take (k + 1)) = lkS n R (lkF n R (zs.take k)) (zs.getD k 0)) := lkF_more hlt
        have HFm : Hid ((zs.take (k + 1)).find? (tru n R) = ((zs.take k).find? (tru n R)).or (if tru n R (zs.getD k 0) then some (zs.getD k 0) else none)) := find_more hlt
        have HFf : Hid (tru n R (zs.getD k 0) = true → zs.find? (tru n R) = some (zs.getD k 0)) := find_first hlt HNf.out
        clear hk
        have hcs := valL_cases n R (zs.getD k 0)
        generalize zs.getD k 0 = z at *
        generalize hst : lkF n R (zs.take k) = st at *
        have HSt : Hid (lkF n R (zs.take k) = st) := hst
        clear hst
        obtain ⟨o, mr⟩ := st
        dsimp only at *
        rw [HNf.out] at HFm
        have HV := trValue_any b s n R z wr HT.out
        have HTr : Hid (tru n R z = decide (valL n R z = 1)) := rfl
        have HLs : Hid (lkS n R (o, mr) z = if valL n R z = 0 then (z, mr || (decide (o ≠ 0) && decide (o ≠ z))) else (o, mr)) := rfl
        rw [HLs.out] at HL
        rw [HTr.out] at HFm HFf
        clear HLs HTr
        have HV1 : Hid (Calls Try.prog 18 #[.pointer (some ⟨b, 0, none⟩), .int .i64 z] wr fun e w' => e = .returned (.int .i8 (valL n R z)) ∧ w' = wr) := HV
        clear HV
        generalize valL n R z = q at *
        rcases (show q = 1 ∨ q = 0 ∨ q = -1 by omega) with rfl | rfl | rfl
        · have HE : Hid (zs.find? (tru n R) = some z) := HFf.out rfl
          go_wp2_with fail
          refine HV1.out.mono ?_
          rintro e w2 ⟨rfl, rfl⟩
          go_wp2
          go_ret2
          exact ⟨by rw [HA.out, HE.out]; rfl, rfl⟩
        · have HFn : Hid ((zs.take (k + 1)).find? (tru n R) = none) := by show _ = _; rw [HFm.out]; rfl
          rw [if_pos rfl] at HL
          cases mr with
          | true =>
            go_wp2_with fail
            refine HV1.out.mono ?_
            rintro e w2 ⟨rfl, rfl⟩
            go_wp2
            go_roundg (gk - 1)
            case measure => have := HK.out; omega
            case rel => exact ⟨k + 1, by have := HK.out; omega, by go_num, by rw [HL.out], by rw [HL.out]; simp, HFn.out, rfl⟩
          | false =>
            by_cases ho : o = 0
            · subst ho
              go_wp2_with fail
              refine HV1.out.mono ?_
              rintro e w2 ⟨rfl, rfl⟩
              go_wp2
              go_roundg (gk - 1)
              case measure => have := HK.out; omega
              case rel => exact ⟨k + 1, by have := HK.out; omega, by go_num, by rw [HL.out], by rw [HL.out]; simp, HFn.out, rfl⟩
            · have ho2 : (o == 0) = false := by simp [ho]
              by_cases hz : o = z
              · subst hz
                go_wp2_with fail
                refine HV1.out.mono ?_
                rintro e w2 ⟨rfl, rfl⟩
                go_wp2
                go_roundg (gk - 1)
                case measure => have := HK.out; omega
                case rel => exact ⟨k + 1, by have := HK.out; omega, by go_num, by rw [HL.out], by rw [HL.out]; simp, HFn.out, rfl⟩
              · have hz2 : (o == z) = false := by simp [hz]
                go_wp2_with fail
                refine HV1.out.mono ?_
                rintro e w2 ⟨rfl, rfl⟩
                go_wp2
                go_roundg (gk - 1)
                case measure => have := HK.out; omega
                case rel => exact ⟨k + 1, by have := HK.out; omega, by go_num, by rw [HL.out], by rw [HL.out]; simp [ho, hz], HFn.out, rfl⟩
        · have HFn : Hid ((zs.take (k + 1)).find? (tru n R) = none) := by show _ = _; rw [HFm.out]; rfl
          rw [if_neg (by decide)] at HL
          go_wp2_with fail
          refine HV1.out.mono ?_
          rintro e w2 ⟨rfl, rfl⟩
          go_wp2
          go_roundg (gk - 1)
          case measure => have := HK.out; omega
          case rel => exact ⟨k + 1, by have := HK.out; omega, by go_num, by rw [HL.out], by rw [HL.out], HFn.out, rfl⟩
      · obtain rfl : k = zs.length := by omega
        rw [List.take_length] at HNf ⊢
        rw [HNf.out] at HA
        clear hk HK
        generalize lkF n R zs = st at *
        obtain ⟨o, mr⟩ := st
        cases mr with
        | true =>
          go_wp2
          go_ret2
          exact ⟨by rw [HA.out]; rfl, rfl⟩
        | false =>
          by_cases ho : o = 0
          · subst ho
            go_wp2
            go_ret2
            exact ⟨by rw [HA.out]; rfl, rfl⟩
          · have ho2 : (o == 0) = false := by simp [ho]
            have HE : Hid (lookF n R zs = (2, o)) := by show _ = _; rw [HA.out]; simp [ho]
            go_wp2
            go_ret2
            exact ⟨by rw [HE.out]; rfl, rfl⟩
end Go.Proofs.Ytjcgfigbbbefcaa
