/-
  trail, the statements' helpers: Pick, live, act, begun.
  KEEP: set on app at below new trans refl start ap kept rd rds mono
-/
import Derived.Test.YtjcgfigbbbefcaaTrA
set_option linter.unusedSimpArgs false
set_option linter.unusedVariables false
namespace Go.Proofs.Ytjcgfigbbbefcaa
open Go Go.RowKit

def pkZ (z k : Int) : Int := if z.tmod k < 0 then z.tmod k + k else z.tmod k
theorem pkZ_range (z : Int) {k : Int} (hk : 0 < k) : 0 ≤ pkZ z k ∧ pkZ z k < k := by
  have h1 : z.tmod k < k := Int.tmod_lt_of_pos z hk
  have h2 : -k < z.tmod k := by
    have := Int.tmod_lt_of_pos (-z) hk
    rw [Int.neg_tmod] at this; omega
  unfold pkZ; split <;> omega
theorem pick_any (z k : Int) (w : World) (hk : 0 < k) (hk2 : k ≤ 1000) :
    Calls Try.prog 11 #[.int .i64 z, .int .i64 k] w fun e w' => e = .returned (.int .i64 (pkZ z k)) ∧ w' = w := by
  have h1 : z.tmod k < k := Int.tmod_lt_of_pos z hk
  have h2 : -k < z.tmod k := by
    have := Int.tmod_lt_of_pos (-z) hk
    rw [Int.neg_tmod] at this; omega
  have hk0 : k ≠ 0 := by omega
  have hkb : (k == 0) = false := by simp [hk0]
  have hwr : IntKind.i64.wrap (z.tmod k) = z.tmod k := by rw [IntKind.wrap_i64]; omega
  by_cases hn : z.tmod k < 0
  · have HE : Hid (pkZ z k = z.tmod k + k) := by show _ = _; unfold pkZ; rw [if_pos hn]
    rw [HE.out]
    go_enter Try.func11, Try.ntmps11
    go_wp2
    go_ret
    exact ⟨rfl, rfl⟩
  · have HE : Hid (pkZ z k = z.tmod k) := by show _ = _; unfold pkZ; rw [if_neg hn]
    rw [HE.out]
    go_enter Try.func11, Try.ntmps11
    go_wp2
    go_ret
    exact ⟨rfl, rfl⟩

theorem live_any (w : World) : Calls Try.prog 25 #[] w fun e w' => e = .returned (.bool true) ∧ Below w.heap.size w w' := by
  go_enter Try.func25, Try.ntmps25
  go_wp2_with fail
  refine (trNew_any 2 w (by decide)).mono ?_
  rintro e w1 ⟨b, s, rfl, ht, bel1, hnw⟩
  have L1 : Hid (Ls w w1 b s 2 []) := ⟨bel1, ht, hnw⟩
  clear ht bel1 hnw
  go_wp2_with fail
  refine (trDecide_any b s 2 [] (-2) w1 L1.out.tr).mono ?_
  rw [show refL 2 [] (-2) = 0 by decide, show decF 2 [] (-2) = [⟨-2, 1, -1⟩] by decide]
  rintro e w2 ⟨rfl, s2, ht2, hm2⟩
  have L2 : Hid (Ls w w2 b s2 2 [⟨-2, 1, -1⟩]) := L1.out.mv ht2 hm2
  clear ht2 hm2 L1
  go_wp2_with fail
  refine (trImply_any b s2 2 [⟨-2, 1, -1⟩] 1 5 w2 L2.out.tr).mono ?_
  rw [show impE 2 [⟨-2, 1, -1⟩] 1 5 = 0 by decide, show impF 2 [⟨-2, 1, -1⟩] 1 5 = [⟨-2, 1, -1⟩, ⟨1, 1, 5⟩] by decide]
  rintro e w3 ⟨rfl, s3, ht3, hm3⟩
  have L3 : Hid (Ls w w3 b s3 2 [⟨-2, 1, -1⟩, ⟨1, 1, 5⟩]) := L2.out.mv ht3 hm3
  clear ht3 hm3 L2
  go_wp2_with fail
  refine (trValue_any b s3 2 _ 2 w3 L3.out.tr).mono ?_
  rw [show valL 2 [⟨-2, 1, -1⟩, ⟨1, 1, 5⟩] 2 = -1 by decide]
  rintro e w4 ⟨rfl, rfl⟩
  go_wp2_with fail
  refine (trValue_any b s3 2 _ 1 w4 L3.out.tr).mono ?_
  rw [show valL 2 [⟨-2, 1, -1⟩, ⟨1, 1, 5⟩] 1 = 1 by decide]
  rintro e w5 ⟨rfl, rfl⟩
  go_wp2_with fail
  refine (trLevel_tr b s3 2 _ w5 L3.out.tr).mono ?_
  rw [show now [⟨-2, 1, -1⟩, ⟨1, 1, 5⟩] = 1 by decide]
  rintro e w6 ⟨rfl, rfl⟩
  go_wp2_with fail
  refine (trReason_any b s3 2 _ 1 w6 L3.out.tr).mono ?_
  rw [show reaL 2 [⟨-2, 1, -1⟩, ⟨1, 1, 5⟩] 1 = 5 by decide]
  rintro e w7 ⟨rfl, bel7⟩
  have L7 := L3.out.below bel7
  have HB : Hid (Below w.heap.size w w7) := L7.bel
  clear L7 bel7 L3
  go_wp2
  go_ret
  exact ⟨rfl, HB.out⟩

/-- a call of a script -/
structure TOp where
  on : Int
  kind : Int
  n : Int
  m : Int
  c : List Int
/-- a script that is read -/
def RdT (W : World) (s : Value) (ops : List TOp) : Prop :=
  ∃ a c, s = .slice a ops.length c ∧ ops.length ≤ c ∧ c ≤ maxLen ∧ ops.length * 40 ≤ 140737488351232 ∧ ∀ (j : Nat) (hj : j < ops.length), ∃ b off u, a = some ⟨b, off, none⟩ ∧ b < W.heap.size ∧
    W.cell? ⟨b, off + j * 5, none⟩ = some (.int .i64 ops[j].on) ∧ W.cell? ⟨b, off + j * 5 + 1, none⟩ = some (.int .i64 ops[j].kind) ∧ W.cell? ⟨b, off + j * 5 + 2, none⟩ = some (.int .i64 ops[j].n) ∧
    W.cell? ⟨b, off + j * 5 + 3, none⟩ = some (.int .i64 ops[j].m) ∧ W.cell? ⟨b, off + j * 5 + 4, none⟩ = some u ∧ Rd W u ops[j].c
theorem RdT.below {W W' : World} {s : Value} {ops : List TOp} (h : RdT W s ops) (hb : Below W.heap.size W W') : RdT W' s ops := by
  obtain ⟨a, c, e, h1, h2, h5, h3⟩ := h
  refine ⟨a, c, e, h1, h2, h5, fun j hj => ?_⟩
  obtain ⟨b, off, u, e1, hl, c0, c1, c2, c3, c4, hr⟩ := h3 j hj
  have hc : ∀ o, W'.cell? ⟨b, o, none⟩ = W.cell? ⟨b, o, none⟩ := fun o => hb.cell (p := ⟨b, o, none⟩) hl
  exact ⟨b, off, u, e1, Nat.lt_of_lt_of_le hl hb.size, by rw [hc]; exact c0, by rw [hc]; exact c1, by rw [hc]; exact c2, by rw [hc]; exact c3, by rw [hc]; exact c4, hr.below hb⟩

/-- what one call of a script makes of a trail -/
def actS (n : Nat) (fl : Int) (R : List Pl) (o : TOp) : List Pl :=
  if pkZ o.kind 3 = 0 then decF n R o.n else if pkZ o.kind 3 = 1 then impF n R o.n o.m else backF R (if o.n < fl then fl else o.n)
def actF (n : Nat) (fl : Int) (R : List Pl) (ops : List TOp) : List Pl := ops.foldl (actS n fl) R
theorem actF_take {n : Nat} {fl : Int} {R : List Pl} {ops : List TOp} {i : Nat} (h : i < ops.length) : actF n fl R (ops.take (i + 1)) = actS n fl (actF n fl R (ops.take i)) ops[i] := by
  unfold actF
  rw [List.take_succ_eq_append_getElem h, List.foldl_append]; rfl

set_option maxHeartbeats 3200000 in
theorem act_any (b : Nat) (s : Sl) (n : Nat) (R : List Pl) (v : Value) (ops : List TOp) (fl : Int) (w0 w : World) (h : Ls w0 w b s n R) (hr : RdT w0 v ops) :
    Calls Try.prog 26 #[.pointer (some ⟨b, 0, none⟩), v, .int .i64 fl] w fun e w' => e = .returned (.tuple #[]) ∧ ∃ s', Ls w0 w' b s' n (actF n fl R ops) ∧ Mv w b s w' s' := by
  have HL : Hid (Ls w0 w b s n R) := h
  have HR : Hid (RdT w0 v ops) := hr
  obtain ⟨a, c, rfl, h1, h2, h5, h3⟩ := hr
  have H3 : Hid (∀ (W : World) (j : Nat) (hj : j < ops.length), Below w0.heap.size w0 W → ∃ b off, a = some ⟨b, off, none⟩ ∧
    W.cell? ⟨b, off + j * 5 + 1, none⟩ = some (.int .i64 ops[j].kind) ∧ W.cell? ⟨b, off + j * 5 + 2, none⟩ = some (.int .i64 ops[j].n) ∧ W.cell? ⟨b, off + j * 5 + 3, none⟩ = some (.int .i64 ops[j].m)) := by
    intro W j hj hW
    obtain ⟨b, off, u, e1, hl, c0, c1, c2, c3, c4, hr⟩ := h3 j hj
    have hc : ∀ o, W.cell? ⟨b, o, none⟩ = w0.cell? ⟨b, o, none⟩ := fun o => hW.cell (p := ⟨b, o, none⟩) hl
    exact ⟨b, off, e1, by rw [hc]; exact c1, by rw [hc]; exact c2, by rw [hc]; exact c3⟩
  clear h h3
  go_enter Try.func26, Try.ntmps26
  go_wp2
  go_loopg [6] ops.length (fun g i' wr => ∃ (i : Nat) (s' : Sl), i + g = ops.length ∧ i' = .int .i64 i ∧ Ls w0 wr b s' n (actF n fl R (ops.take i)) ∧ Mv w b s wr s')
  case atStart => exact ⟨0, s, by omega, rfl, by simpa [actF] using HL.out, Mv.refl _ _ _⟩
  case round =>
    obtain ⟨i, s', hi, rfl, hl, hm⟩ := hrel
    have HI : Hid (i + gk = ops.length) := hi
    have HLi : Hid (Ls w0 wr b s' n (actF n fl R (ops.take i))) := hl
    have HMi : Hid (Mv w b s wr s') := hm
    clear hi hl hm
    by_cases hlt : i < ops.length
    · have HA : Hid (actF n fl R (ops.take (i + 1)) = actS n fl (actF n fl R (ops.take i)) ops[i]) := actF_take hlt
      obtain ⟨bo, off, rfl, c1, c2, c3⟩ := H3.out wr i hlt HLi.out.bel
      have hp := pkZ_range ops[i].kind (show (0 : Int) < 3 by decide)
      have HP : Hid (∀ S, actS n fl S ops[i] = if pkZ ops[i].kind 3 = 0 then decF n S ops[i].n else if pkZ ops[i].kind 3 = 1 then impF n S ops[i].n ops[i].m else backF S (if ops[i].n < fl then fl else ops[i].n)) := fun S => rfl
      rw [HP.out] at HA
      clear HP
      generalize ops[i].n = x at *
      generalize ops[i].m = y at *
      generalize actF n fl R (ops.take i) = S at *
      go_wp2_with fail
      refine (pick_any _ 3 wr (by decide) (by decide)).mono ?_
      rintro e w1 ⟨rfl, rfl⟩
      generalize pkZ ops[i].kind 3 = p at *
      rcases (show p = 0 ∨ p = 1 ∨ p = 2 by omega) with rfl | rfl | rfl
      · rw [if_pos rfl] at HA
        go_wp2_with fail
        refine (trDecide_any b s' n S x w1 HLi.out.tr).mono ?_
        rintro e w2 ⟨rfl, s2, ht2, hm2⟩
        have HF : Hid (_ ∧ _) := ⟨HLi.out.mv ht2 hm2, HMi.out.trans hm2⟩
        clear ht2 hm2
        go_wp2
        go_roundg (gk - 1)
        case measure => have := HI.out; omega
        case rel => exact ⟨i + 1, s2, by have := HI.out; omega, by go_num, by rw [HA.out]; exact HF.out.1, HF.out.2⟩
      · rw [if_neg (by decide), if_pos rfl] at HA
        have HIm : Hid (∀ W, Below w1.heap.size w1 W → Calls Try.prog 29 #[.pointer (some ⟨b, 0, none⟩), .int .i64 x, .int .i64 y] W fun e w' => e = .returned (.int .i64 (impE n S x y)) ∧ ∃ s3, Tr w' b s3 n (impF n S x y) ∧ Mv W b s' w' s3) := fun W hW => trImply_any b s' n S x y W (HLi.out.tr.below hW)
        go_upto_region 11 with fail
        go_region_law (go_simp; go_at_call 29; refine (HIm.out _ (by first | exact Below.refl _ _ | exact (Below.refl _ _).drew)).mono ?_; intro e w9 hh; obtain ⟨he, s3, ht3, hm3⟩ := hh; rw [he]; clear he; have HF : Hid (Ls w0 w9 b s3 n (impF n S x y) ∧ Mv w b s w9 s3) := ⟨(HLi.out.below (Below.refl _ _).drew).mv ht3 hm3, (HMi.out.trans (Mv.below (Below.refl _ _).drew)).trans hm3⟩; clear ht3 hm3; dsimp only)
        all_goals
          go_wp2
          go_roundg (gk - 1)
          case measure => have := HI.out; omega
          case rel => exact ⟨i + 1, s3, by have := HI.out; omega, by go_num, by rw [HA.out]; exact HF.out.1, HF.out.2⟩
      · rw [if_neg (by decide), if_neg (by decide)] at HA
        by_cases hx : x < fl
        · rw [if_pos hx] at HA
          go_wp2_with fail
          refine (trBack_any b s' n S fl w1 HLi.out.tr).mono ?_
          rintro e w2 ⟨u2, s2, rfl, _, ht2, hm2, _⟩
          have HF : Hid (_ ∧ _) := ⟨HLi.out.mv ht2 hm2, HMi.out.trans hm2⟩
          clear ht2 hm2
          go_wp2
          go_roundg (gk - 1)
          case measure => have := HI.out; omega
          case rel => exact ⟨i + 1, s2, by have := HI.out; omega, by go_num, by rw [HA.out]; exact HF.out.1, HF.out.2⟩
        · rw [if_neg hx] at HA
          go_wp2_with fail
          refine (trBack_any b s' n S x w1 HLi.out.tr).mono ?_
          rintro e w2 ⟨u2, s2, rfl, _, ht2, hm2, _⟩
          have HF : Hid (_ ∧ _) := ⟨HLi.out.mv ht2 hm2, HMi.out.trans hm2⟩
          clear ht2 hm2
          go_wp2
          go_roundg (gk - 1)
          case measure => have := HI.out; omega
          case rel => exact ⟨i + 1, s2, by have := HI.out; omega, by go_num, by rw [HA.out]; exact HF.out.1, HF.out.2⟩
    · obtain rfl : i = ops.length := by have := HI.out; omega
      rw [List.take_length] at HLi
      go_wp2
      go_end0
      exact ⟨rfl, s', HLi.out, HMi.out⟩
end Go.Proofs.Ytjcgfigbbbefcaa
