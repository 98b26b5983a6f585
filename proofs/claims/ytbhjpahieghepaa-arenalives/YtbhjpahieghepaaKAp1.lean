/-
  arena.Live and the iterator that it answers, walked.
  KEEP: set on app at below new trans refl start ap kept rd rds mono own row cells lt box lo ml ms c0 f0 form max find eq ma some none more map keep mv c kill kst book drew alloc step block cell
-/
import Derived.Test.YtbhjpahieghepaaJArK
import Derived.Test.YtbhjpahieghepaaRangeV
import Derived.Test.YtbhjpahieghepaaShelf
import Derived.Stop.RegionWithIn
import Derived.Sort.LoopGhostIn
import Derived.Sort.AtCallIn
set_option linter.unusedSimpArgs false
set_option linter.unusedVariables false
namespace Go.Proofs.Ytbhjpahieghepaa
open Go Go.RowKit Go.Maps Go.Shelf

attribute [local go_sem] Oper.semAt_some

def LvA (w : World) (v : Value) (S : List Seg) (e : Ending) (w' : World) : Prop :=
  ∃ B u g, e = .returned (.func (.func 28) #[] #[.pointer (some ⟨B, 0, none⟩)]) ∧ w'.heap[B]? = some (.cells #[u] 69 (0, 0)) ∧ w'.ownsRow w.heap.size 73 2 u (lv 0 S).length (rowsC g (lv 0 S)) ∧ w.heap.size ≤ B ∧ Below w.heap.size w w' ∧ (S = [] ∨ ∃ c, v = .slice (some ⟨g, 0, none⟩) (flat S).length c)
set_option maxRecDepth 100000 in
theorem live_any (b : Nat) (v : Value) (S : List Seg) (w : World) (h : Ar w b v S) (hl : (flat S).length * 8 ≤ 140737488351232) (hl2 : (flat S).length * 32 ≤ 140737488351232) :
    Calls Try.prog 8 #[.pointer (some ⟨b, 0, none⟩)] w fun e w' => LvA w v S e w' := by
  have hmf : ∀ (fn : Fn) (first cap : Array Value) (w : World), (Instr.makeFunc fn first cap).run Try.prog w = .ok (.func fn first cap) w := fun _ _ _ _ => rfl
  go_enter Try.func8, Try.ntmps8
  go_wp2_with fail
  refine (standing_any b v S _ h hl hl2).mono ?_
  rintro e w1 ⟨u, g0, rfl, o1, b1, s1⟩
  obtain ⟨ua, uc, hu⟩ := row_form2 o1
  subst hu
  have HF : Hid (LvA w v S (.returned (.func (.func 28) #[] #[.pointer (some ⟨w1.heap.size, 0, none⟩)])) (w1.alloc (.cells #[.slice ua (lv 0 S).length uc] 69))) := ⟨_, _, _, rfl, World.alloc_heap_new _ _, World.ownsRow.alloc o1 _, b1.size, Below.step b1 (below_box _ _), s1⟩
  clear o1 b1 s1
  go_wp2
  go_ret
  exact HF.out
/-- a place, a slice value, and what it reads -/
abbrev Itl := Int × Value × List Int
def Itl.proj (x : Itl) : Int × List Int := (x.1, x.2.2)
/-- what lies behind an item that is yielded: it is the next one; its slice is new -/
def VL (n₀ : Nat) (R : List (Int × List Int)) (pre : List Itl) (x : Itl) (W : World) : Prop :=
  (pre ++ [x]).map Itl.proj <+: R ∧ Own n₀ W x.2.1 x.2.2
/-- some blocks are as they were -/
structure Kq (Q : Nat → Prop) (A B : World) : Prop where
  size : A.heap.size ≤ B.heap.size
  block : ∀ k, Q k → B.heap[k]? = A.heap[k]?
theorem Kq.refl (Q : Nat → Prop) (A : World) : Kq Q A A := ⟨Nat.le_refl _, fun _ _ => rfl⟩
theorem Kq.trans {Q : Nat → Prop} {A B C : World} (h : Kq Q A B) (k : Kq Q B C) : Kq Q A C := ⟨Nat.le_trans h.size k.size, fun i hi => (k.block i hi).trans (h.block i hi)⟩
theorem Kq.of_below {Q : Nat → Prop} {A B : World} (h : Below A.heap.size A B) (hQ : ∀ k, Q k → k < A.heap.size) : Kq Q A B := ⟨h.size, fun k hk => h.block k (hQ k hk)⟩
theorem grown_of_below4 {w w' : World} (h : Below w.heap.size w w') : w.grownBy w' none := ⟨h.os, h.tape, h.output, h.size, fun k hk _ => h.block k hk⟩
theorem abides_below4 {β : Type} {B : Nat} {J : β → World → Prop} (hJ : AbidesFrom B J) {s : β} {w w' : World} (h : J s w) (hb : Below w.heap.size w w') : J s w' := hJ s w w' none h (grown_of_below4 hb) (fun r e => by cases e)
theorem two_ways4 {e : Ending} {P1 P2 : Prop} (h : (e = .returned (.bool true) ∧ P1) ∨ (e = .returned (.bool false) ∧ P2)) : ∃ b : Bool, e = .returned (.bool b) ∧ (b = true → P1) ∧ (b = false → P2) := by
  rcases h with ⟨rfl, h⟩ | ⟨rfl, h⟩
  · exact ⟨true, rfl, fun _ => h, fun e => by cases e⟩
  · exact ⟨false, rfl, (fun e => by cases e), fun _ => h⟩
/-- the live clauses as they are read -/
def rdL (L : List (Int × List Int × Bool)) : List (Int × List Int) := L.map fun x => (x.1, x.2.1)
theorem clone4 {Q : Nat → Prop} {W : World} {g k : Nat} {L : List (Int × List Int × Bool)} (hrd : ∀ W', Kq Q W W' → ∀ k (hk : k < L.length), ∀ j, j < L[k].2.1.length → W'.cell? ⟨g, L[k].1.toNat + 1 + j, none⟩ = some (.int .i64 (L[k].2.1.getD j 0))) (hk : k < L.length) (h8 : L[k].2.1.length * 8 ≤ 140737488351232) :
    ∀ W', Kq Q W W' → Calls Try.prog 29 #[cutV g L[k].1.toNat L[k].2.1.length] W' fun e w' => ∃ v', e = .returned v' ∧ Own W'.heap.size w' v' L[k].2.1 ∧ Below W'.heap.size W' w' := fun W' hW => by
  have hc := hrd W' hW k hk
  generalize L[k].2.1 = ls at *
  generalize L[k].1.toNat = a0 at *
  refine (Try.slices_Clone_int g (if ls.length = 0 then 0 else a0 + 1) ls.length ls.length ls W' (Nat.le_refl _) (by omega) (fun j hj => by rw [if_neg (by omega)]; exact hc j hj)).mono fun e w' ⟨v', h1, h2, h3, h4⟩ => ⟨v', h1, ?_, h4⟩
  rw [List.take_length] at h2
  exact h2
set_option maxRecDepth 100000 in
set_option maxHeartbeats 4000000 in
theorem live_in (n : Nat) (hn : 1 ≤ n) (l B g uc : Nat) (ua : Option Addr) (Q : Nat → Prop) (L : List (Int × List Int × Bool)) (W : World)
    (J Jx : List Itl → World → Prop) (hJ : AbidesFrom W.heap.size J)
    (hY : ∀ pre x W0 W1, J pre W0 → W.heap.size ≤ W0.heap.size → Below W0.heap.size W0 W1 → VL W0.heap.size (rdL L) pre x W1 → YieldAt Fence.wide (n - 1) Try.prog l #[.int .i64 x.1, x.2.1] W1 fun e W' =>
      (e = .returned (.bool true) ∧ J (pre ++ [x]) W' ∧ Kq Q W1 W') ∨ (e = .returned (.bool false) ∧ Jx (pre ++ [x]) W'))
    (hQ : ∀ k, Q k → k < W.heap.size) (hB : Q B) (hbx : W.heap[B]? = some (.cells #[.slice ua L.length uc] 69 (0, 0)))
    (hrow : ∀ W', Kq Q W W' → ∀ k (hk : k < L.length), ∃ g0, ua = some ⟨g0, 0, none⟩ ∧ W'.cell? ⟨g0, k * 2, none⟩ = some (.int .i64 L[k].1) ∧ W'.cell? ⟨g0, k * 2 + 1, none⟩ = some (cutV g L[k].1.toNat L[k].2.1.length))
    (hrd : ∀ W', Kq Q W W' → ∀ k (hk : k < L.length), ∀ j, j < L[k].2.1.length → W'.cell? ⟨g, L[k].1.toNat + 1 + j, none⟩ = some (.int .i64 (L[k].2.1.getD j 0)))
    (h8 : ∀ k (hk : k < L.length), L[k].2.1.length * 8 ≤ 140737488351232) (hLn : L.length ≤ 1099511627776) (h0 : J [] W) :
    CallsIn Fence.wide n Try.prog 28 #[.func (.yield l) #[] #[], .pointer (some ⟨B, 0, none⟩)] W fun e W' => (∃ v, e = .returned v) ∧
      ((∃ xs, xs.map Itl.proj = rdL L ∧ J xs W') ∨ (∃ pre, pre.map Itl.proj <+: rdL L ∧ Jx pre W')) := by
  have c0 : W.cell? ⟨B, 0, none⟩ = some (.slice ua L.length uc) := by simp [World.cell?, hbx]
  have HY : Hid (∀ pre x W0 W1, J pre W0 → W.heap.size ≤ W0.heap.size → Below W0.heap.size W0 W1 → VL W0.heap.size (rdL L) pre x W1 → YieldAt Fence.wide (n - 1) Try.prog l #[.int .i64 x.1, x.2.1] W1 fun e W' =>
      (e = .returned (.bool true) ∧ J (pre ++ [x]) W' ∧ Kq Q W1 W') ∨ (e = .returned (.bool false) ∧ Jx (pre ++ [x]) W')) := hY
  have HJ : Hid (AbidesFrom W.heap.size J) := hJ
  have HQ : Hid (∀ k, Q k → k < W.heap.size) := hQ
  have HRow : Hid (∀ W', Kq Q W W' → ∀ k (hk : k < L.length), ∃ g0, ua = some ⟨g0, 0, none⟩ ∧ W'.cell? ⟨g0, k * 2, none⟩ = some (.int .i64 L[k].1) ∧ W'.cell? ⟨g0, k * 2 + 1, none⟩ = some (cutV g L[k].1.toNat L[k].2.1.length)) := hrow
  have HRd : Hid (∀ W', Kq Q W W' → ∀ k (hk : k < L.length), ∀ j, j < L[k].2.1.length → W'.cell? ⟨g, L[k].1.toNat + 1 + j, none⟩ = some (.int .i64 (L[k].2.1.getD j 0))) := hrd
  have H8 : Hid (∀ k (hk : k < L.length), L[k].2.1.length * 8 ≤ 140737488351232) := h8
  clear hY hJ hQ hrow hrd h8 hB hbx
  refine callsIn_of_wp Try.func28 rfl trivial ?_ rfl
  simp only [Try.ntmps28, List.size_toArray, List.length_cons, List.length_nil, Nat.reduceAdd, Nat.reduceSub, Array.replicate_succ, Array.replicate_zero, List.push_toArray, List.append_toArray, List.nil_append, List.cons_append]
  gi_wp2
  gi_loopg [7] L.length (fun q i wr => ∃ (k : Nat) (pre : List Itl), k + q = L.length ∧ i = .int .i64 k ∧ pre.map Itl.proj = rdL (L.take k) ∧ Hid (J pre wr) ∧ Hid (Kq Q W wr))
  case atStart => exact ⟨0, [], by omega, rfl, rfl, h0, Kq.refl _ _⟩
  case round =>
    obtain ⟨k, pre, hk, rfl, hpre, HJs, HKq⟩ := hrel
    have HK : Hid (k + gk = L.length) := hk
    have HP : Hid (pre.map Itl.proj = rdL (L.take k)) := hpre
    clear hpre h0 hk
    by_cases hlt : k < L.length
    · obtain ⟨g0, hua, d0, d1⟩ := HRow.out wr HKq.out k hlt
      subst hua
      have HCl := (show Hid _ from clone4 (HRd.out) hlt (H8.out k hlt))
      have HN : Hid (rdL (L.take (k + 1)) = rdL (L.take k) ++ [(L[k].1, L[k].2.1)]) := by
        show _ = _
        unfold rdL
        rw [List.take_succ_eq_append_getElem hlt, List.map_append]
        rfl
      have HPx : Hid (rdL (L.take (k + 1)) <+: rdL L) := by
        show _ <+: _
        unfold rdL
        exact (List.take_prefix _ _).map _
      have HLT : Hid (k < L.length) := hlt
      generalize L[k].1 = at0 at *
      generalize L[k].2.1 = ls at *
      unfold cutV at d1 HCl
      generalize (if ls.length = 0 then 0 else at0.toNat + 1) = of at *
      have hsw : W.heap.size ≤ wr.heap.size := HKq.out.size
      have hb2 : Below wr.heap.size wr (wr.alloc (.cells #[.int .i64 at0, .slice (some ⟨g, of, none⟩) ls.length ls.length] 73)) := below_box _ _
      have e0 := (Bx2.new wr 73 (.int .i64 at0) (.slice (some ⟨g, of, none⟩) ls.length ls.length)).c0
      have e1 := (Bx2.new wr 73 (.int .i64 at0) (.slice (some ⟨g, of, none⟩) ls.length ls.length)).c1
      have HBx : Hid (Bx2 (wr.alloc (.cells #[.int .i64 at0, .slice (some ⟨g, of, none⟩) ls.length ls.length] 73)) wr.heap.size 73 (.int .i64 at0) (.slice (some ⟨g, of, none⟩) ls.length ls.length)) := Bx2.new _ _ _ _
      have HB2 : Hid (Below wr.heap.size wr (wr.alloc (.cells #[.int .i64 at0, .slice (some ⟨g, of, none⟩) ls.length ls.length] 73))) := hb2
      clear hb2
      gi_wp2
      generalize wr.alloc (.cells #[.int .i64 at0, .slice (some ⟨g, of, none⟩) ls.length ls.length] 73) = w2 at *
      have hs2 : wr.heap.size ≤ w2.heap.size := HB2.out.size
      have HW2 : Hid (Below w2.heap.size w2 w2.drew) := (Below.refl _ _).drew
      have HK2 : Hid (Kq Q W w2.drew) := HKq.out.trans (Kq.of_below (Below.step HB2.out HW2.out) (fun k hk => Nat.lt_of_lt_of_le (HQ.out k hk) hsw))
      have HJ2 : Hid (J pre w2.drew) := abides_below4 HJ.out HJs.out (Below.step HB2.out HW2.out)
      have HCl2 : Hid (Calls Try.prog 29 #[.slice (some ⟨g, of, none⟩) ls.length ls.length] w2.drew fun e w' => ∃ v', e = .returned v' ∧ Own w2.drew.heap.size w' v' ls ∧ Below w2.drew.heap.size w2.drew w') := HCl.out _ HK2.out
      have HPX : Hid (pre.map Itl.proj ++ [(at0, ls)] <+: rdL L) := by
        show _ <+: _
        rw [HP.out, ← HN.out]
        exact HPx.out
      gi_region_with (first
        | (refine ⟨trivial, ?_⟩; gi_at_call 29; refine (callsIn_wide.2 HCl2.out).mono ?_; rintro e w3 ⟨v3, rfl, own3, bel3⟩; have e0' : w3.cell? ⟨wr.heap.size, 0, none⟩ = some (.int .i64 at0) := ((HBx.out.below HW2.out).below bel3).c0; have HK3 : Hid (Kq Q W w3) := HK2.out.trans (Kq.of_below bel3 (fun k hk => Nat.lt_of_lt_of_le (HQ.out k hk) HK2.out.size)); obtain ⟨fn, tmps, assign, body, hy, hR⟩ := HY.out pre (at0, v3, ls) w2.drew w3 HJ2.out HK2.out.size bel3 ⟨by rw [List.map_append]; exact HPX.out, own3⟩; dsimp only at hy; clear own3 bel3)
        | (refine hR.mono ?_; rintro e w7 h7; obtain ⟨q7, rfl, h8, h9⟩ := two_ways4 h7; clear h7 hR hy))
      all_goals
        cases q7
        · have hx := h9 rfl
          clear h8 h9
          gi_wp2
          refine bodyPost_ret (results_none rfl _ _ _) rfl ?_
          exact ⟨⟨_, rfl⟩, .inr ⟨_, by rw [List.map_append]; exact HPX.out, hx⟩⟩
        · obtain ⟨hJ7, hk7⟩ := h8 rfl
          clear h8 h9
          gi_wp2
          gi_roundg (gk - 1)
          case measure => have := HK.out; have := HLT.out; omega
          case rel => exact ⟨k + 1, pre ++ [(at0, v3, ls)], by have := HK.out; have := HLT.out; omega, by go_num, by rw [List.map_append, HN.out, HP.out]; rfl, hJ7, HK3.out.trans hk7⟩
    · obtain rfl : k = L.length := by have := HK.out; omega
      have HE : Hid (pre.map Itl.proj = rdL L) := by have := HP.out; rw [List.take_length] at this; exact this
      clear hlt
      gi_wp2
      go_end0
      exact ⟨⟨_, rfl⟩, .inl ⟨pre, HE.out, HJs.out⟩⟩
end Go.Proofs.Ytbhjpahieghepaa
