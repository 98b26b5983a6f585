/-
  trail: what Look tells comes true, walked.
  KEEP: set on app at below new trans refl start ap kept rd rds mono
-/
import Derived.Test.YtjcgfigbbbefcaaTrK
import Derived.Test.YtjcgfigbbbefcaaTrU
set_option linter.unusedSimpArgs false
set_option linter.unusedVariables false
namespace Go.Proofs.Ytjcgfigbbbefcaa
open Go Go.RowKit

def alF (n : Nat) (R : List Pl) (zs : List Int) (o : Int) : Bool := zs.all (fun l => !(decide (valL n R l = 0)) || decide (l = o))
theorem alone_any (b : Nat) (s : Sl) (n : Nat) (R : List Pl) (v : Value) (zs : List Int) (o : Int) (w : World) (h : Tr w b s n R) (hr : Rd w v zs) :
    Calls Try.prog 28 #[.pointer (some ⟨b, 0, none⟩), v, .int .i64 o] w fun e w' => e = .returned (.bool (alF n R zs o)) ∧ w' = w := by
  have HT : Hid (Tr w b s n R) := h
  obtain ⟨a, c, rfl, hl8, hcell⟩ := rd_at hr
  have HC : Hid (∀ j, j < zs.length → ∃ g off, a = some ⟨g, off, none⟩ ∧ g < w.heap.size ∧ w.cell? ⟨g, off + j, none⟩ = some (.int .i64 (zs.getD j 0))) := hcell
  clear h hr hcell
  go_enter Try.func28, Try.ntmps28
  go_wp2
  go_loopg [7] zs.length (fun g i' wr => ∃ k : Nat, k + g = zs.length ∧ i' = .int .i64 k ∧ alF n R (zs.take k) o = true ∧ wr = w)
  case atStart => exact ⟨0, by omega, rfl, by simp [alF], rfl⟩
  case round =>
    obtain ⟨k, hk, rfl, hall, rfl⟩ := hrel
    have HK : Hid (k + gk = zs.length) := hk
    have HA : Hid (alF n R (zs.take k) o = true) := hall
    clear hall
    by_cases hlt : k < zs.length
    · obtain ⟨g, off, rfl, hg, d0⟩ := HC.out k hlt
      have HTk : Hid (alF n R (zs.take (k + 1)) o = (alF n R (zs.take k) o && (!(decide (valL n R (zs.getD k 0) = 0)) || decide (zs.getD k 0 = o)))) := take_all hlt
      have HNo : Hid ((!(decide (valL n R (zs.getD k 0) = 0)) || decide (zs.getD k 0 = o)) = false → alF n R zs o = false) := all_no (f := fun l => !(decide (valL n R l = 0)) || decide (l = o)) hlt
      clear hk
      generalize zs.getD k 0 = z at *
      have HV1 : Hid (Calls Try.prog 18 #[.pointer (some ⟨b, 0, none⟩), .int .i64 z] wr fun e w' => e = .returned (.int .i8 (valL n R z)) ∧ w' = wr) := trValue_any b s n R z wr HT.out
      rw [HA.out] at HTk
      generalize valL n R z = q at *
      by_cases hq : q = 0
      · subst hq
        by_cases hz : z = o
        · subst hz
          go_wp2_with fail
          refine HV1.out.mono ?_
          rintro e w2 ⟨rfl, rfl⟩
          go_wp2
          go_roundg (gk - 1)
          case measure => have := HK.out; omega
          case rel => exact ⟨k + 1, by have := HK.out; omega, by go_num, by rw [HTk.out]; simp, rfl⟩
        · have hz2 : (z == o) = false := by simp [hz]
          have HE : Hid (alF n R zs o = false) := HNo.out (by simp [hz])
          go_wp2_with fail
          refine HV1.out.mono ?_
          rintro e w2 ⟨rfl, rfl⟩
          go_wp2
          go_ret
          exact ⟨by rw [HE.out]; rfl, rfl⟩
      · have hq2 : (q == 0) = false := by simp [hq]
        go_wp2_with fail
        refine HV1.out.mono ?_
        rintro e w2 ⟨rfl, rfl⟩
        go_wp2
        go_roundg (gk - 1)
        case measure => have := HK.out; omega
        case rel => exact ⟨k + 1, by have := HK.out; omega, by go_num, by rw [HTk.out]; simp [hq], rfl⟩
    · obtain rfl : k = zs.length := by omega
      rw [List.take_length] at HA
      clear hk HK
      go_wp2
      go_ret
      exact ⟨by rw [HA.out]; rfl, rfl⟩

structure Lk (n : Nat) (R : List Pl) (zs : List Int) : Prop where
  no : (lkF n R zs).1 = 0 → ∀ l ∈ zs, valL n R l ≠ 0
  yes : (lkF n R zs).1 ≠ 0 → (lkF n R zs).1 ∈ zs ∧ valL n R (lkF n R zs).1 = 0
  two : (lkF n R zs).2 = false ↔ ∀ l ∈ zs, valL n R l = 0 → l = (lkF n R zs).1
theorem Lk.take {n : Nat} {R : List Pl} {zs : List Int} (h0 : ∀ l ∈ zs, l ≠ 0) : ∀ k, k ≤ zs.length → Lk n R (zs.take k)
  | 0, _ => ⟨fun _ l hl => by simp at hl, fun h => absurd rfl h, by simp [lkF]⟩
  | k + 1, hk => by
    have ih := Lk.take (n := n) (R := R) h0 k (by omega)
    have hlt : k < zs.length := by omega
    have e := lkF_more (n := n) (R := R) hlt
    have hz : zs.getD k 0 = zs[k] := by simp [List.getD_eq_getElem?_getD, hlt]
    rw [hz] at e
    have hz0 := h0 zs[k] (List.getElem_mem hlt)
    have et := List.take_succ_eq_append_getElem hlt
    obtain ⟨i1, i2, i3⟩ := ih
    rw [et] at e ⊢
    generalize zs[k] = z at *
    generalize zs.take k = ys at *
    clear et hk hlt hz
    unfold lkS at e
    by_cases hv : valL n R z = 0
    · rw [if_pos hv] at e
      constructor
      · rw [e]; intro h; exact absurd h hz0
      · rw [e]; intro _; exact ⟨by simp, hv⟩
      · rw [e]
        simp only [Bool.or_eq_false_iff, Bool.and_eq_false_iff, decide_eq_false_iff_not, List.mem_append, List.mem_singleton]
        rw [i3]
        constructor
        · rintro ⟨h1, h2⟩ l (hl | rfl) hlv
          · have h3 := h1 l hl hlv
            rcases h2 with h2 | h2
            · have := i1 (by simpa using h2) l hl; exact absurd hlv this
            · have : (lkF n R ys).1 = z := by simpa using h2
              rw [h3, this]
          · rfl
        · intro h
          by_cases ho : (lkF n R ys).1 = 0
          · exact ⟨fun l hl hlv => absurd hlv (i1 ho l hl), .inl (by simpa using ho)⟩
          · have h4 := i2 ho
            have h5 := h _ (.inl h4.1) h4.2
            exact ⟨fun l hl hlv => by rw [h5]; exact h l (.inl hl) hlv, .inr (by simpa using h5)⟩
    · rw [if_neg hv] at e
      constructor
      · rw [e]; intro h l hl
        rcases List.mem_append.1 hl with hl | hl
        · exact i1 h l hl
        · have : l = z := by simpa using hl
          subst this; exact hv
      · rw [e]; intro h
        have := i2 h
        exact ⟨List.mem_append.2 (.inl this.1), this.2⟩
      · rw [e, i3]
        constructor
        · intro h l hl hlv
          rcases List.mem_append.1 hl with hl | hl
          · exact h l hl hlv
          · have : l = z := by simpa using hl
            subst this; exact absurd hlv hv
        · intro h l hl hlv
          exact h l (List.mem_append.2 (.inl hl)) hlv
theorem Lk.of {n : Nat} {R : List Pl} {zs : List Int} (ha : zs.all (litN n) = true) : Lk n R zs := by
  have := Lk.take (n := n) (R := R) (zs := zs) (fun l hl => by
    have := List.all_eq_true.1 ha l hl
    exact (of_decide_eq_true this).1) zs.length (Nat.le_refl _)
  rwa [List.take_length] at this
theorem al_iff {n : Nat} {R : List Pl} {zs : List Int} {o : Int} : alF n R zs o = true ↔ ∀ l ∈ zs, valL n R l = 0 → l = o := by
  unfold alF
  rw [List.all_eq_true]
  constructor
  · intro h l hl hv
    have := h l hl
    simpa [hv] using this
  · intro h l hl
    by_cases hv : valL n R l = 0
    · simp [hv, h l hl hv]
    · simp [hv]
/-- what Look tells -/
theorem look_cases {n : Nat} {R : List Pl} {zs : List Int} (ha : zs.all (litN n) = true) :
    (∀ l, zs.find? (tru n R) = some l → lookF n R zs = (1, l)) ∧
    (zs.find? (tru n R) = none → (lkF n R zs).1 = 0 → lookF n R zs = (-1, 0)) ∧
    (zs.find? (tru n R) = none → (lkF n R zs).1 ≠ 0 → alF n R zs (lkF n R zs).1 = false → lookF n R zs = (0, 0)) ∧
    (zs.find? (tru n R) = none → (lkF n R zs).1 ≠ 0 → alF n R zs (lkF n R zs).1 = true → lookF n R zs = (2, (lkF n R zs).1)) := by
  have hk := Lk.of (R := R) ha
  refine ⟨?_, ?_, ?_, ?_⟩
  · intro l hl; unfold lookF; rw [if_pos ha, hl]
  · intro hn h0
    have h2 : (lkF n R zs).2 = false := hk.two.2 fun l hl hv => absurd hv (hk.no h0 l hl)
    unfold lookF; rw [if_pos ha, hn]; simp [h2, h0]
  · intro hn h0 hal
    have h2 : (lkF n R zs).2 = true := by
      cases h3 : (lkF n R zs).2 with
      | true => rfl
      | false => rw [al_iff.2 (hk.two.1 h3)] at hal; cases hal
    unfold lookF; rw [if_pos ha, hn]; simp [h2]
  · intro hn h0 hal
    have h2 : (lkF n R zs).2 = false := hk.two.2 (al_iff.1 hal)
    unfold lookF; rw [if_pos ha, hn]; simp [h2, h0]
/-- and where it tells a unit, it comes true -/
theorem look_comes {n : Nat} {R : List Pl} {zs : List Int} (ha : zs.all (litN n) = true) (hn : zs.find? (tru n R) = none) (h0 : (lkF n R zs).1 ≠ 0) :
    impE n R (lkF n R zs).1 3 = 0 ∧ lookF n (impF n R (lkF n R zs).1 3) zs = (1, (lkF n R zs).1) := by
  have hk := Lk.of (R := R) ha
  obtain ⟨hm, hv⟩ := hk.yes h0
  generalize (lkF n R zs).1 = o at *
  have hl : litN n o = true := List.all_eq_true.1 ha o hm
  have hr : refL n R o = 0 := by unfold refL; rw [if_pos hl, if_neg (by simpa using hv)]
  have he : impE n R o 3 = 0 := by unfold impE; rw [if_neg (by simpa using hr), if_neg (by decide)]
  refine ⟨he, ?_⟩
  have hf := (refL_zero hr).2
  have e1 : impF n R o 3 = R ++ [(⟨o, now R, 3⟩ : Pl)] := by unfold impF; rw [if_pos he]
  have h00 := of_decide_eq_true hl
  have hval : ∀ l, litN n l = true → tru n (R ++ [(⟨o, now R, 3⟩ : Pl)]) l = (tru n R l || decide (l = o)) := by
    intro l hll
    have hl0 := of_decide_eq_true hll
    unfold tru valL
    rw [if_pos hll, if_pos hll]
    unfold valV
    rw [fnd_snoc (p := ⟨o, now R, 3⟩) hf]
    by_cases hlo : l.natAbs = vr ⟨o, now R, 3⟩
    · rw [if_pos hlo]
      have hlo' : l.natAbs = o.natAbs := hlo
      rw [hlo', hf]
      simp only [sg]
      by_cases hx : l = o
      · subst hx
        by_cases hs : l < 0 <;> simp [hs]
      · have hno : l = -o := by omega
        subst hno
        by_cases hs : -o < 0
        · have : ¬ o < 0 := by omega
          have hs' : 0 < o := by omega
          simp [hs', this, hx]
        · have : o < 0 := by omega
          have hs' : ¬ 0 < o := by omega
          simp [hs', this, hx]
    · rw [if_neg hlo]
      have hx : l ≠ o := fun e => hlo (by rw [e]; rfl)
      simp [hx]
  rw [e1]
  have hfind : zs.find? (tru n (R ++ [(⟨o, now R, 3⟩ : Pl)])) = some o := by
    rw [List.find?_eq_none] at hn
    have h5 : ∀ l ∈ zs, tru n (R ++ [(⟨o, now R, 3⟩ : Pl)]) l = decide (l = o) := fun l hl => by
      rw [hval l (List.all_eq_true.1 ha l hl)]
      have := hn l hl
      simp at this
      simp [this]
    clear hk ha hn hval h0 hv e1
    induction zs with
    | nil => simp at hm
    | cons x r ih =>
      rw [List.find?_cons, h5 x (by simp)]
      by_cases hx : x = o
      · simp [hx]
      · simp only [hx, decide_false]
        refine ih ?_ (fun l hl => h5 l (by simp [hl]))
        rcases List.mem_cons.1 hm with e | e
        · exact absurd e.symm hx
        · exact e
  exact (look_cases ha).1 o hfind

theorem litN_no {n : Nat} {l : Int} (h : litN n l = false) : l = 0 ∨ (l ≠ 0 ∧ (n : Int) < l) ∨ (l ≠ 0 ∧ ¬ (n : Int) < l ∧ l < -(n : Int)) := by
  have h1 := of_decide_eq_false h
  omega
set_option maxRecDepth 100000 in
set_option maxHeartbeats 12800000 in
theorem trailLooks_walk (vars : Int) (v vc : Value) (ops : List TOp) (zs : List Int) (w : World) (hr : RdT w v ops) (hz : Rd w vc zs) :
    Calls Try.prog 7 #[.int .i64 vars, v, vc] w fun e w' => e = .returned (.bool true) ∧ Below w.heap.size w w' := by
  have HR : Hid (RdT w v ops) := hr
  have HZ : Hid (Rd w vc zs) := hz
  obtain ⟨aa, ca, rfl, -⟩ := hr
  obtain ⟨az, cz, rfl, hl8, -⟩ := rd_at hz
  clear hz
  have HN : Hid (nOf vars ≤ 40) := nOf_le vars
  have HNp : Hid (pkZ vars 41 = (nOf vars : Int)) := by
    have := pkZ_range vars (show (0 : Int) < 41 by decide)
    show _ = _
    unfold nOf; omega
  go_enter Try.func7, Try.ntmps7
  go_wp2_with fail
  refine (begun_any vars _ ops w HR.out).mono ?_
  generalize nOf vars = n at *
  have HOK : Hid (okT n (actF n 0 [] ops)) := actF_ok (okT.nil n)
  generalize actF n 0 [] ops = R at *
  rintro e w1 ⟨b, s, rfl, l1⟩
  have L1 : Hid (Ls w w1 b s n R) := l1
  clear l1
  go_wp2_with fail
  refine (live_any w1).mono ?_
  rintro e w2 ⟨rfl, bel2⟩
  have L2 : Hid (Ls w w2 b s n R) := L1.out.below bel2
  clear bel2 L1
  go_wp2_with fail
  refine (pick_any _ 41 w2 (by decide) (by decide)).mono ?_
  rw [HNp.out]
  rintro e w3 ⟨rfl, rfl⟩
  have hn40 := HN.out
  have HLk : Hid (Calls Try.prog 27 #[.pointer (some ⟨b, 0, none⟩), .slice az zs.length cz] w3 fun e w' => e = .returned (.tuple #[.int .i8 (lookF n R zs).1, .int .i64 (lookF n R zs).2]) ∧ w' = w3) := trLook_any b s n R _ zs w3 L2.out.tr (HZ.out.below L2.out.bel)
  have HC : Hid (∀ j, j < zs.length → ∃ g off, az = some ⟨g, off, none⟩ ∧ g < w3.heap.size ∧ w3.cell? ⟨g, off + j, none⟩ = some (.int .i64 (zs.getD j 0))) := by
    obtain ⟨a', c', e', _, h'⟩ := rd_at (HZ.out.below L2.out.bel)
    injection e' with e1 _ _
    subst e1
    exact h'
  have HB3 : Hid (Below w.heap.size w w3) := L2.out.bel
  go_wp2
  go_loopg [9, 10, 11, 12] zs.length (fun g v9 v10 v11 i' wr => ∃ k q : Nat, k + g = zs.length ∧ i' = .int .i64 k ∧ v9 = .int .i64 (((zs.take k).find? (tru n R)).getD 0) ∧ v10 = .int .i64 (lkF n R (zs.take k)).1 ∧ v11 = .int .i64 q ∧ q ≤ k ∧ (q = 0 ↔ (lkF n R (zs.take k)).1 = 0) ∧ (zs.take k).all (litN n) = true ∧ wr = w3)
  case atStart => exact ⟨0, 0, by omega, rfl, rfl, rfl, rfl, by omega, by simp [lkF], by simp, rfl⟩
  case round =>
    obtain ⟨k, q, hk, rfl, rfl, rfl, rfl, hqk, hq0, hall, rfl⟩ := hrel
    have HK : Hid (k + gk = zs.length) := hk
    have HA : Hid ((zs.take k).all (litN n) = true) := hall
    have HQ : Hid (q ≤ k ∧ (q = 0 ↔ (lkF n R (zs.take k)).1 = 0)) := ⟨hqk, hq0⟩
    clear hall hqk hq0
    by_cases hlt : k < zs.length
    · obtain ⟨g, off, rfl, hg, d0⟩ := HC.out k hlt
      have HTk : Hid ((zs.take (k + 1)).all (litN n) = ((zs.take k).all (litN n) && litN n (zs.getD k 0))) := take_all hlt
      have HNo : Hid (litN n (zs.getD k 0) = false → zs.all (litN n) = false) := all_no hlt
      have HL : Hid (lkF n R (zs.take (k + 1)) = lkS n R (lkF n R (zs.take k)) (zs.getD k 0)) := lkF_more hlt
      have HFm : Hid ((zs.take (k + 1)).find? (tru n R) = ((zs.take k).find? (tru n R)).or (if tru n R (zs.getD k 0) then some (zs.getD k 0) else none)) := find_more hlt
      have HF0 : Hid (∀ l, (zs.take k).find? (tru n R) = some l → l ≠ 0) := fun l hl => by
        have h1 := List.mem_of_find?_eq_some hl
        exact (of_decide_eq_true (List.all_eq_true.1 HA.out l h1)).1
      have hkl : k * 8 ≤ 140737488351232 := by omega
      have hql := HQ.out.1
      clear hk
      generalize zs.getD k 0 = z at *
      rw [HA.out] at HTk
      generalize hst : lkF n R (zs.take k) = st at *
      have HSt : Hid (lkF n R (zs.take k) = st) := hst
      clear hst
      obtain ⟨o, mr⟩ := st
      dsimp only at *
      generalize hfd : (zs.take k).find? (tru n R) = fd at *
      have HFd : Hid ((zs.take k).find? (tru n R) = fd) := hfd
      clear hfd
      have HV1 : Hid (Calls Try.prog 18 #[.pointer (some ⟨b, 0, none⟩), .int .i64 z] wr fun e w' => e = .returned (.int .i8 (valL n R z)) ∧ w' = wr) := trValue_any b s n R z wr L2.out.tr
      have HTr : Hid (tru n R z = decide (valL n R z = 1)) := rfl
      have HLs : Hid (lkS n R (o, mr) z = if valL n R z = 0 then (z, mr || (decide (o ≠ 0) && decide (o ≠ z))) else (o, mr)) := rfl
      rw [HLs.out] at HL
      rw [HTr.out] at HFm
      clear HLs HTr
      cases hz : litN n z with
      | false =>
        have HE : Hid (lookF n R zs = (0, 0)) := by show _ = _; unfold lookF; rw [HNo.out hz]; rfl
        rw [HE.out] at HLk
        rcases litN_no hz with rfl | ⟨h1, h2⟩ | ⟨h1, h2, h3⟩
        · go_wp2_with fail
          refine HLk.out.mono ?_
          rintro e w4 ⟨rfl, rfl⟩
          go_wp2
          go_ret
          exact ⟨rfl, HB3.out⟩
        · go_wp2_with fail
          refine HLk.out.mono ?_
          rintro e w4 ⟨rfl, rfl⟩
          go_wp2
          go_ret
          exact ⟨rfl, HB3.out⟩
        · go_wp2_with fail
          refine HLk.out.mono ?_
          rintro e w4 ⟨rfl, rfl⟩
          go_wp2
          go_ret
          exact ⟨rfl, HB3.out⟩
      | true =>
        have hl0 := of_decide_eq_true hz
        rw [hz] at HTk
        have hz0 : z ≠ 0 := hl0.1
        have hz1 : ¬ (n : Int) < z := by omega
        have hz2 : ¬ z < -(n : Int) := by omega
        have hcs := valL_cases n R z
        generalize valL n R z = val at *
        clear hl0
        rcases (show val = 1 ∨ val = 0 ∨ val = -1 by omega) with rfl | rfl | rfl
        · rw [if_neg (by decide)] at HL
          cases fd with
          | none =>
            go_wp2_with fail
            refine HV1.out.mono ?_
            rintro e w4 ⟨rfl, rfl⟩
            go_wp2_with fail
            refine HV1.out.mono ?_
            rintro e w5 ⟨rfl, rfl⟩
            go_wp2
            go_roundg (gk - 1)
            case measure => have := HK.out; omega
            case rel => exact ⟨k + 1, q, by have := HK.out; omega, by go_num, by rw [HFm.out]; rfl, by rw [HL.out], rfl, by omega, by rw [HL.out]; exact HQ.out.2, by rw [HTk.out]; rfl, rfl⟩
          | some f =>
            have hf0 : (f == 0) = false := by simp [HF0.out f rfl]
            go_wp2_with fail
            refine HV1.out.mono ?_
            rintro e w4 ⟨rfl, rfl⟩
            go_wp2_with fail
            refine HV1.out.mono ?_
            rintro e w5 ⟨rfl, rfl⟩
            go_wp2
            go_roundg (gk - 1)
            case measure => have := HK.out; omega
            case rel => exact ⟨k + 1, q, by have := HK.out; omega, by go_num, by rw [HFm.out]; rfl, by rw [HL.out], rfl, by omega, by rw [HL.out]; exact HQ.out.2, by rw [HTk.out]; rfl, rfl⟩
        · rw [if_pos rfl] at HL
          by_cases ho : z = o
          · subst ho
            go_wp2_with fail
            refine HV1.out.mono ?_
            rintro e w4 ⟨rfl, rfl⟩
            go_wp2_with fail
            refine HV1.out.mono ?_
            rintro e w5 ⟨rfl, rfl⟩
            go_wp2
            go_roundg (gk - 1)
            case measure => have := HK.out; omega
            case rel => exact ⟨k + 1, q, by have := HK.out; omega, by go_num, by rw [HFm.out]; simp, by rw [HL.out], rfl, by omega, by rw [HL.out]; exact HQ.out.2, by rw [HTk.out]; rfl, rfl⟩
          · have ho2 : (z == o) = false := by simp [ho]
            go_wp2_with fail
            refine HV1.out.mono ?_
            rintro e w4 ⟨rfl, rfl⟩
            go_wp2_with fail
            refine HV1.out.mono ?_
            rintro e w5 ⟨rfl, rfl⟩
            go_wp2
            go_roundg (gk - 1)
            case measure => have := HK.out; omega
            case rel => exact ⟨k + 1, q + 1, by have := HK.out; omega, by go_num, by rw [HFm.out]; simp, by rw [HL.out], by go_num, by omega, by rw [HL.out]; simp [hz0], by rw [HTk.out]; rfl, rfl⟩
        · rw [if_neg (by decide)] at HL
          go_wp2_with fail
          refine HV1.out.mono ?_
          rintro e w4 ⟨rfl, rfl⟩
          go_wp2_with fail
          refine HV1.out.mono ?_
          rintro e w5 ⟨rfl, rfl⟩
          go_wp2
          go_roundg (gk - 1)
          case measure => have := HK.out; omega
          case rel => exact ⟨k + 1, q, by have := HK.out; omega, by go_num, by rw [HFm.out]; simp, by rw [HL.out], rfl, by omega, by rw [HL.out]; exact HQ.out.2, by rw [HTk.out]; rfl, rfl⟩
    · obtain rfl : k = zs.length := by omega
      clear hk HK
      rw [List.take_length] at HA HQ ⊢
      obtain ⟨c1, c2, c3, c4⟩ := look_cases (R := R) HA.out
      have HCm : Hid (zs.find? (tru n R) = none → (lkF n R zs).1 ≠ 0 → impE n R (lkF n R zs).1 3 = 0 ∧ lookF n (impF n R (lkF n R zs).1 3) zs = (1, (lkF n R zs).1)) := look_comes (R := R) HA.out
      have HF0 : Hid (∀ l, zs.find? (tru n R) = some l → l ≠ 0) := fun l hl => by
        have h1 := List.mem_of_find?_eq_some hl
        exact (of_decide_eq_true (List.all_eq_true.1 HA.out l h1)).1
      have HAl : Hid (∀ o, Calls Try.prog 28 #[.pointer (some ⟨b, 0, none⟩), .slice az zs.length cz, .int .i64 o] wr fun e w' => e = .returned (.bool (alF n R zs o)) ∧ w' = wr) := fun o => alone_any b s n R _ zs o wr L2.out.tr (HZ.out.below L2.out.bel)
      cases hfd : zs.find? (tru n R) with
      | some f =>
        have HE : Hid (lookF n R zs = (1, f)) := c1 f hfd
        rw [HE.out] at HLk
        have hf0 := HF0.out f hfd
        have hf1 : (f == 0) = false := by simp [hf0]
        clear c1 c2 c3 c4 hfd
        generalize lkF n R zs = st at *
        dsimp only [Option.getD]
        go_wp2_with fail
        refine HLk.out.mono ?_
        rintro e w4 ⟨rfl, rfl⟩
        go_wp2
        go_ret
        exact ⟨by simp, HB3.out⟩
      | none =>
        dsimp only [Option.getD]
        have hq0 := HQ.out.2
        by_cases ho : (lkF n R zs).1 = 0
        · have HE : Hid (lookF n R zs = (-1, 0)) := c2 hfd ho
          rw [HE.out] at HLk
          have hq : q = 0 := hq0.2 ho
          subst hq
          rw [ho]
          clear c1 c2 c3 c4 hfd hq0
          go_wp2_with fail
          refine HLk.out.mono ?_
          rintro e w4 ⟨rfl, rfl⟩
          go_wp2
          go_ret
          exact ⟨rfl, HB3.out⟩
        · have hq : ¬ q = 0 := fun h => ho (hq0.1 h)
          have hqb : ((q : Int) == 0) = false := by simp; omega
          cases hal : alF n R zs (lkF n R zs).1 with
          | false =>
            have HE : Hid (lookF n R zs = (0, 0)) := c3 hfd ho hal
            rw [HE.out] at HLk
            have HAo := HAl.out (lkF n R zs).1
            rw [hal] at HAo
            have HAo1 : Hid (Calls Try.prog 28 #[.pointer (some ⟨b, 0, none⟩), .slice az zs.length cz, .int .i64 (lkF n R zs).1] wr fun e w' => e = .returned (.bool false) ∧ w' = wr) := HAo
            clear c1 c2 c3 c4 hfd hq0 HAo HAl ho hal
            generalize (lkF n R zs).1 = o at *
            go_wp2_with fail
            refine HLk.out.mono ?_
            rintro e w4 ⟨rfl, rfl⟩
            go_wp2_with fail
            refine HAo1.out.mono ?_
            rintro e w5 ⟨rfl, rfl⟩
            go_wp2
            go_ret
            exact ⟨rfl, HB3.out⟩
          | true =>
            have HE : Hid (lookF n R zs = (2, (lkF n R zs).1)) := c4 hfd ho hal
            rw [HE.out] at HLk
            have HAo := HAl.out (lkF n R zs).1
            rw [hal] at HAo
            have HAo1 : Hid (Calls Try.prog 28 #[.pointer (some ⟨b, 0, none⟩), .slice az zs.length cz, .int .i64 (lkF n R zs).1] wr fun e w' => e = .returned (.bool true) ∧ w' = wr) := HAo
            have HCo : Hid (impE n R (lkF n R zs).1 3 = 0 ∧ lookF n (impF n R (lkF n R zs).1 3) zs = (1, (lkF n R zs).1)) := HCm.out hfd ho
            clear c1 c2 c3 c4 hfd hq0 HAo HAl ho hal HE HQ HCm
            generalize (lkF n R zs).1 = o at *
            go_wp2_with fail
            refine HLk.out.mono ?_
            rintro e w4 ⟨rfl, rfl⟩
            go_wp2_with fail
            refine HAo1.out.mono ?_
            rintro e w5 ⟨rfl, rfl⟩
            go_wp2_with fail
            refine (trImply_any b s n R o 3 w5 L2.out.tr).mono ?_
            rw [HCo.out.1]
            rintro e w6 ⟨rfl, s6, ht6, hm6⟩
            have L6 : Hid (Ls w w6 b s6 n (impF n R o 3)) := L2.out.mv ht6 hm6
            have HLk6 : Hid (Calls Try.prog 27 #[.pointer (some ⟨b, 0, none⟩), .slice az zs.length cz] w6 fun e w' => e = .returned (.tuple #[.int .i8 1, .int .i64 o]) ∧ w' = w6) := by
              have := trLook_any b s6 n _ _ zs w6 L6.out.tr (HZ.out.below L6.out.bel)
              rw [HCo.out.2] at this
              exact this
            have HB6 : Hid (Below w.heap.size w w6) := L6.out.bel
            clear ht6 hm6 L6
            go_wp2_with fail
            refine HLk6.out.mono ?_
            rintro e w7 ⟨rfl, rfl⟩
            go_wp2
            go_ret
            exact ⟨by simp, HB6.out⟩
end Go.Proofs.Ytjcgfigbbbefcaa
