/-
  told, meant and alike of the laws, walked.
-/
import Derived.Test.YthplkllphpnaoabApartW
import Derived.Test.YthplkllphpnaoabRefD
import Derived.Laws.OwnMore
set_option linter.unusedSimpArgs false
set_option linter.unusedVariables false
namespace Go.Proofs.Ythplkllphpnaoab
open Go Go.RowKit Go.Shelf

attribute [local go_sem] Oper.semAt_some

theorem refEqual_self (va vb : Value) (a : List Int) (w : World) (ha : Rd w va a) (hb : Rd w vb a) :
    Calls Try.prog 54 #[va, vb] w fun e w' => e = .returned (.bool true) ∧ Below w.heap.size w w' := by
  have := refEqual_any va vb a a w ha hb
  rw [show (a == a) = true from beq_self_eq_true a] at this
  exact this

/-- lists with what they hold, no two in one block -/
abbrev Lst := Value × List Int
def ApartL (L : List Lst) : Prop := L.Pairwise (fun x y => x.1.ownBlock = none ∨ x.1.ownBlock ≠ y.1.ownBlock)
theorem ApartL.nil : ApartL [] := List.Pairwise.nil
theorem ApartL.snoc {B : Nat} {w w' : World} {L : List Lst} {v : Value} {z : List Int} (h : ApartL L) (ho : ∀ x ∈ L, Own B w x.1 x.2) (hv : Own w.heap.size w' v z) : ApartL (L ++ [(v, z)]) := by
  unfold ApartL
  rw [List.pairwise_append]
  refine ⟨h, List.pairwise_singleton _ _, fun x hx y hy => ?_⟩
  simp only [List.mem_singleton] at hy
  subst hy
  cases e : x.1.ownBlock with
  | none => exact .inl rfl
  | some b =>
    refine .inr fun e' => ?_
    have h1 := (World.ownsRow.lt (ho x hx) b e).2
    have h2 := (World.ownsRow.lt hv b e'.symm).1
    omega
theorem rows_snoc {B : Nat} {w w' : World} {L : List Lst} {v : Value} {z : List Int} (ho : ∀ x ∈ L, Own B w x.1 x.2) (hb : Below w.heap.size w w') (hv : Own w.heap.size w' v z) (hB : B ≤ w.heap.size) : ∀ x ∈ L ++ [(v, z)], Own B w' x.1 x.2 := fun x hx => by
  rcases List.mem_append.1 hx with hx | hx
  · exact (ho x hx).below hb
  · simp only [List.mem_singleton] at hx
    subst hx
    exact hv.mono hB
theorem rows_grown {B : Nat} {w w' : World} {L : List Lst} (ho : ∀ x ∈ L, Own B w x.1 x.2) (hg : w.grownBy w' none) : ∀ x ∈ L, Own B w' x.1 x.2 := fun x hx => World.ownsRow.kept (ho x hx) hg (none_or _)
theorem cell_many_new (w : World) (xs : Array Value) (t : TypeId) : ∀ j u, xs.toList[j]? = some u → (w.alloc (.cells xs t)).cell? ((⟨w.heap.size, 0, none⟩ : Addr).add j) = some u := by
  intro j u hj
  rw [Addr.add_lit, World.cell?_alloc_at _ _ _ _ rfl]
  simpa using hj

/-- what the calls that answer lists tell -/
def said (a b : List Int) (l v : Int) : List (List Int) := [tid a, tid a, wout (tid a) l, wout (tid a) l, tid (a ++ b), tid (a ++ b), (resolveOf a b v).2, (resolveOf a b v).2]
theorem wout_le (t : List Int) (l : Int) : (wout t l).length ≤ t.length := by
  unfold wout
  first
    | exact List.length_filter_le _ _
    | exact List.length_erase_le ..

/-- a row of lists that hold S, of the call's own, behind it -/
def Says (w : World) (S : List (List Int)) (ap : Bool) (rv : Value) (w' : World) : Prop :=
  ∃ L : List Lst, w'.ownsRow w.heap.size 25 1 rv L.length (L.map Prod.fst) ∧ (∀ x ∈ L, Own w.heap.size w' x.1 x.2) ∧ (ap = true → ApartL L) ∧ L.map Prod.snd = S ∧ Below w.heap.size w w'

set_option maxRecDepth 100000 in
set_option maxHeartbeats 2000000 in
theorem told_any (va vb : Value) (a b : List Int) (l v : Int) (w : World) (ha : Rd w va a) (hb : Rd w vb b) :
    Calls Try.prog 28 #[va, vb, .int .i64 l, .int .i64 v] w fun e w' => ∃ rv, e = .returned rv ∧ Says w (said a b l v) true rv w' := by
  obtain ⟨iL, hiL, hL0, hL1, hL2⟩ := info_parts infoL
  have HA : Hid (∀ W, Below w.heap.size w W → Rd W va a) := fun W h => ha.below h
  have HB : Hid (∀ W, Below w.heap.size w W → Rd W vb b) := fun W h => hb.below h
  clear ha hb
  go_enter Try.func28, Try.ntmps28
  go_wp2_with fail
  refine (tidy_any va a w (HA.out _ (Below.refl _ _))).mono ?_
  rintro e w1 ⟨v1, rfl, own1, bel1⟩
  have b1 : Below w.heap.size w w1 := bel1
  have ro1 := rows_snoc (L := []) (B := w.heap.size) (w := w) (fun x hx => by cases hx) bel1 own1 (Nat.le_refl _)
  have ap1 := ApartL.nil.snoc (B := w.heap.size) (w := w) (fun x hx => by cases hx) own1
  go_wp2_with fail
  refine (tidy_any va a w1 (HA.out _ b1)).mono ?_
  rintro e w2 ⟨v2, rfl, own2, bel2⟩
  have b2 := Below.step b1 bel2
  have ro2 := rows_snoc ro1 bel2 own2 b1.size
  have ap2 := ap1.snoc ro1 own2
  go_wp2_with fail
  refine (without_any va a l w2 (HA.out _ b2)).mono ?_
  rintro e w3 ⟨v3, rfl, own3, bel3⟩
  have b3 := Below.step b2 bel3
  have ro3 := rows_snoc ro2 bel3 own3 b2.size
  have ap3 := ap2.snoc ro2 own3
  go_wp2_with fail
  refine (without_any va a l w3 (HA.out _ b3)).mono ?_
  rintro e w4 ⟨v4, rfl, own4, bel4⟩
  have b4 := Below.step b3 bel4
  have ro4 := rows_snoc ro3 bel4 own4 b3.size
  have ap4 := ap3.snoc ro3 own4
  go_wp2_with fail
  refine (join_any sortSaid compactSaid va vb a b w4 (HA.out _ b4) (HB.out _ b4)).mono ?_
  rintro e w5 ⟨v5, rfl, own5, bel5⟩
  have b5 := Below.step b4 bel5
  have ro5 := rows_snoc ro4 bel5 own5 b4.size
  have ap5 := ap4.snoc ro4 own5
  go_wp2_with fail
  refine (join_any sortSaid compactSaid va vb a b w5 (HA.out _ b5) (HB.out _ b5)).mono ?_
  rintro e w6 ⟨v6, rfl, own6, bel6⟩
  have b6 := Below.step b5 bel6
  have ro6 := rows_snoc ro5 bel6 own6 b5.size
  have ap6 := ap5.snoc ro5 own6
  go_wp2_with fail
  refine (resolve_any va vb a b v w6 (HA.out _ b6) (HB.out _ b6)).mono ?_
  rintro e w7 ⟨v7, rfl, own7, bel7⟩
  have b7 := Below.step b6 bel7
  have ro7 := rows_snoc ro6 bel7 own7 b6.size
  have ap7 := ap6.snoc ro6 own7
  go_wp2_with fail
  refine (resolve_any va vb a b v w7 (HA.out _ b7) (HB.out _ b7)).mono ?_
  rintro e w8 ⟨v8, rfl, own8, bel8⟩
  have b8 : Hid (Below w.heap.size w w8) := Below.step b7 bel8
  have ro8 := rows_snoc ro7 bel8 own8 b7.size
  have ap8 := ap7.snoc ro7 own8
  simp only [List.nil_append, List.cons_append] at ro8 ap8
  obtain ⟨a1, c1, e1⟩ := own_slice own1
  obtain ⟨a2, c2, e2⟩ := own_slice own2
  obtain ⟨a3, c3, e3⟩ := own_slice own3
  obtain ⟨a4, c4, e4⟩ := own_slice own4
  obtain ⟨a5, c5, e5⟩ := own_slice own5
  obtain ⟨a6, c6, e6⟩ := own_slice own6
  obtain ⟨a7, c7, e7⟩ := own_slice own7
  obtain ⟨a8, c8, e8⟩ := own_slice own8
  subst e1 e2 e3 e4 e5 e6 e7 e8
  obtain ⟨L, hL⟩ : ∃ L : List Lst, [(Value.slice a1 (tid a).length c1, tid a), (.slice a2 (tid a).length c2, tid a), (.slice a3 (wout (tid a) l).length c3, wout (tid a) l), (.slice a4 (wout (tid a) l).length c4, wout (tid a) l), (.slice a5 (tid (a ++ b)).length c5, tid (a ++ b)), (.slice a6 (tid (a ++ b)).length c6, tid (a ++ b)), (.slice a7 (resolveOf a b v).2.length c7, (resolveOf a b v).2), (.slice a8 (resolveOf a b v).2.length c8, (resolveOf a b v).2)] = L := ⟨_, rfl⟩
  rw [hL] at ro8 ap8
  have RO : Hid (∀ x ∈ L, Own w.heap.size w8 x.1 x.2) := ro8
  have AP : Hid (ApartL L) := ap8
  have HS : Hid (L.map Prod.snd = said a b l v) := by show _ = _; rw [← hL]; rfl
  have HF : Hid (L.map Prod.fst = [.slice a1 (tid a).length c1, .slice a2 (tid a).length c2, .slice a3 (wout (tid a) l).length c3, .slice a4 (wout (tid a) l).length c4, .slice a5 (tid (a ++ b)).length c5, .slice a6 (tid (a ++ b)).length c6, .slice a7 (resolveOf a b v).2.length c7, .slice a8 (resolveOf a b v).2.length c8]) := by show _ = _; rw [← hL]; rfl
  have HLN : Hid (L.length = 8) := by show _ = _; rw [← hL]; rfl
  have sw : w.heap.size ≤ w8.heap.size := b8.out.size
  clear hL ro1 ro2 ro3 ro4 ro5 ro6 ro7 ro8 ap1 ap2 ap3 ap4 ap5 ap6 ap7 ap8 own1 own2 own3 own4 own5 own6 own7 own8 bel1 bel2 bel3 bel4 bel5 bel6 bel7 bel8 b1 b2 b3 b4 b5 b6 b7
  generalize (tid a).length = n1 at *
  generalize (wout (tid a) l).length = n3 at *
  generalize (tid (a ++ b)).length = n5 at *
  generalize (resolveOf a b v).2.length = n7 at *
  go_wp2_with (at_builtin; refine wpList_append_own _ rfl _ _ 43 rfl w.heap.size 25 iL (.slice none 0 0) 1 24 Try.underlying43 hiL hL0 hL1 hL2 rfl (by decide) (.slice none 0 0) 0 [] rfl (World.ownsRow_nil _ _ _ _) ⟨w8.heap.size, 0, none⟩ 8 8 [.slice a1 n1 c1, .slice a2 n1 c2, .slice a3 n3 c3, .slice a4 n3 c4, .slice a5 n5 c5, .slice a6 n5 c6, .slice a7 n7 c7, .slice a8 n7 c8] rfl rfl (cell_many_new _ _ _) (by simp [Value.oneCell']) (by unfold maxLen; omega) (by omega) (by simp; omega) ?_; intro x' w' own' gr2 hn')
  go_ret
  have hga : w8.grownBy w' none := (World.grownBy_alloc _ _ none).trans gr2
  refine ⟨_, rfl, L, by rw [HLN.out, HF.out]; exact own', rows_grown RO.out hga, fun _ => AP.out, HS.out, b8.out.grown hga (Nat.le_trans (Nat.le_refl _) sw) (fun b e => by cases e)⟩

set_option maxRecDepth 100000 in
set_option maxHeartbeats 2000000 in
theorem meant_any (va vb : Value) (a b : List Int) (l v : Int) (w : World) (ha : Rd w va a) (hb : Rd w vb b) :
    Calls Try.prog 27 #[va, vb, .int .i64 l, .int .i64 v] w fun e w' => ∃ rv, e = .returned rv ∧ Says w (said a b l v) false rv w' := by
  have HA : Hid (∀ W, Below w.heap.size w W → Rd W va a) := fun W h => ha.below h
  have HB : Hid (∀ W, Below w.heap.size w W → Rd W vb b) := fun W h => hb.below h
  have la := ha.len
  have lb := hb.len
  clear ha hb
  go_enter Try.func27, Try.ntmps27
  go_wp2_with fail
  refine (copied_any va a w (HA.out _ (Below.refl _ _))).mono ?_
  rintro e w1 ⟨v1, rfl, own1, bel1⟩
  have b1 : Below w.heap.size w w1 := bel1
  go_wp2_with fail
  refine (refTidy v1 a w1 (own1.rd la)).mono ?_
  rintro e w2 ⟨v2, rfl, own2, bel2⟩
  have b2 := Below.step b1 bel2
  go_wp2_with fail
  refine (copied_any va a w2 (HA.out _ b2)).mono ?_
  rintro e w3 ⟨v3, rfl, own3, bel3⟩
  have b3 := Below.step b2 bel3
  go_wp2_with fail
  refine (refWithout_any v3 a l w3 (own3.rd la)).mono ?_
  rintro e w4 ⟨v4, rfl, own4, bel4⟩
  have b4 := Below.step b3 bel4
  go_wp2_with fail
  refine (copied_any va a w4 (HA.out _ b4)).mono ?_
  rintro e w5 ⟨v5, rfl, own5, bel5⟩
  have b5 := Below.step b4 bel5
  go_wp2_with fail
  refine (copied_any vb b w5 (HB.out _ b5)).mono ?_
  rintro e w6 ⟨v6, rfl, own6, bel6⟩
  have b6 := Below.step b5 bel6
  go_wp2_with fail
  refine (refJoin_any v5 v6 a b w6 ((own5.rd la).below bel6) (own6.rd lb)).mono ?_
  rintro e w7 ⟨v7, rfl, own7, bel7⟩
  have b7 := Below.step b6 bel7
  go_wp2_with fail
  refine (copied_any va a w7 (HA.out _ b7)).mono ?_
  rintro e w8 ⟨v8, rfl, own8, bel8⟩
  have b8 := Below.step b7 bel8
  go_wp2_with fail
  refine (copied_any vb b w8 (HB.out _ b8)).mono ?_
  rintro e w9 ⟨v9, rfl, own9, bel9⟩
  have b9 := Below.step b8 bel9
  go_wp2_with fail
  refine (refResolve_any v8 v9 a b v w9 ((own8.rd la).below bel9) (own9.rd lb)).mono ?_
  rintro e w10 ⟨v10, rfl, own10, bel10⟩
  have b10 := Below.step b9 bel10
  have b27 : Below w2.heap.size w2 w10 := Below.step (Below.step (Below.step (Below.step (Below.step (Below.step (Below.step bel3 bel4) bel5) bel6) bel7) bel8) bel9) bel10
  have b47 : Below w4.heap.size w4 w10 := Below.step (Below.step (Below.step (Below.step (Below.step bel5 bel6) bel7) bel8) bel9) bel10
  have b77 : Below w7.heap.size w7 w10 := Below.step (Below.step bel8 bel9) bel10
  have o2 : Own w.heap.size w10 v2 (tid a) := (own2.below b27).mono b1.size
  have o4 : Own w.heap.size w10 v4 (wout (tid a) l) := (own4.below b47).mono b3.size
  have o7 : Own w.heap.size w10 v7 (tid (a ++ b)) := (own7.below b77).mono b6.size
  have o10 : Own w.heap.size w10 v10 (resolveOf a b v).2 := own10.mono b9.size
  obtain ⟨a2, c2, e2⟩ := own_slice own2
  obtain ⟨a4, c4, e4⟩ := own_slice own4
  obtain ⟨a7, c7, e7⟩ := own_slice own7
  obtain ⟨a10, c10, e10⟩ := own_slice own10
  subst e2 e4 e7 e10
  have sw : w.heap.size ≤ w10.heap.size := b10.size
  clear own1 own2 own3 own4 own5 own6 own7 own8 own9 own10 bel1 bel2 bel3 bel4 bel5 bel6 bel7 bel8 bel9 bel10 b1 b2 b3 b4 b5 b6 b7 b8 b9 b27 b47 b77 HA HB
  go_wp2
  go_ret
  have hga := World.grownBy_alloc w10 (.cells #[Value.slice a2 (tid a).length c2, .slice a2 (tid a).length c2, .slice a4 (wout (tid a) l).length c4, .slice a4 (wout (tid a) l).length c4, .slice a7 (tid (a ++ b)).length c7, .slice a7 (tid (a ++ b)).length c7, .slice a10 (resolveOf a b v).2.length c10, .slice a10 (resolveOf a b v).2.length c10] 25) none
  refine ⟨_, rfl, [(.slice a2 (tid a).length c2, tid a), (.slice a2 (tid a).length c2, tid a), (.slice a4 (wout (tid a) l).length c4, wout (tid a) l), (.slice a4 (wout (tid a) l).length c4, wout (tid a) l), (.slice a7 (tid (a ++ b)).length c7, tid (a ++ b)), (.slice a7 (tid (a ++ b)).length c7, tid (a ++ b)), (.slice a10 (resolveOf a b v).2.length c10, (resolveOf a b v).2), (.slice a10 (resolveOf a b v).2.length c10, (resolveOf a b v).2)], ?_, rows_grown ?_ hga, (fun e => by cases e), rfl, b10.grown hga (Nat.le_trans (Nat.le_refl _) sw) (fun b e => by cases e)⟩
  · exact World.ownsRow_lit w10 #[Value.slice a2 (tid a).length c2, .slice a2 (tid a).length c2, .slice a4 (wout (tid a) l).length c4, .slice a4 (wout (tid a) l).length c4, .slice a7 (tid (a ++ b)).length c7, .slice a7 (tid (a ++ b)).length c7, .slice a10 (resolveOf a b v).2.length c10, .slice a10 (resolveOf a b v).2.length c10] 8 sw (by unfold maxLen; omega) rfl
  · intro x hx
    simp only [List.mem_cons, List.not_mem_nil, or_false] at hx
    rcases hx with rfl | rfl | rfl | rfl | rfl | rfl | rfl | rfl <;> assumption

theorem row_get {B k : Nat} {wr : World} {rv : Value} {L : List Lst} {x : Lst} (h : wr.ownsRow B 25 1 rv L.length (L.map Prod.fst)) (hx : L[k]? = some x) :
    ∃ g cap, rv = .slice (some ⟨g, 0, none⟩) L.length cap ∧ L.length ≤ cap ∧ wr.cell? ⟨g, k, none⟩ = some x.1 := by
  have hk : k < L.length := (List.getElem?_eq_some_iff.1 hx).1
  rcases h.2 with ⟨_, hn⟩ | ⟨g, cap, cur, hv, hb, hh, hnc, hcm, hcs, ht⟩
  · omega
  · subst hv
    refine ⟨g, cap, rfl, hnc, (h.cellAt k (by omega)).trans ?_⟩
    rw [List.getElem?_map, hx]
    rfl

set_option maxRecDepth 100000 in
set_option maxHeartbeats 2000000 in
theorem alike_any (B1 B2 : Nat) (r1 r2 : Value) (L1 L2 : List Lst) (w : World) (h1 : w.ownsRow B1 25 1 r1 L1.length (L1.map Prod.fst)) (o1 : ∀ x ∈ L1, Own B1 w x.1 x.2) (h2 : w.ownsRow B2 25 1 r2 L2.length (L2.map Prod.fst)) (o2 : ∀ x ∈ L2, Own B2 w x.1 x.2)
    (he : L1.map Prod.snd = L2.map Prod.snd) (hl : ∀ x ∈ L1, x.2.length * 8 ≤ 140737488351232) (hK : L1.length ≤ 4294967296) :
    Calls Try.prog 29 #[r1, r2] w fun e w' => e = .returned (.bool true) ∧ Below w.heap.size w w' := by
  have hll : L2.length = L1.length := by have := congrArg List.length he; simpa using this.symm
  have hrow : Hid (∀ W, Below w.heap.size w W → ∀ k, k < L1.length → ∃ g1 c1 g2 c2 x1 x2 T, r1 = .slice (some ⟨g1, 0, none⟩) L1.length c1 ∧ L1.length ≤ c1 ∧ W.cell? ⟨g1, k, none⟩ = some x1 ∧ r2 = .slice (some ⟨g2, 0, none⟩) L1.length c2 ∧ L1.length ≤ c2 ∧ W.cell? ⟨g2, k, none⟩ = some x2 ∧ Rd W x1 T ∧ Rd W x2 T) := fun W hW k hk => by
    have e1 : L1[k]? = some L1[k] := List.getElem?_eq_getElem hk
    have e2 : L2[k]? = some (L2[k]'(by omega)) := List.getElem?_eq_getElem (by omega)
    have es : (L1[k]).2 = (L2[k]'(by omega)).2 := by
      have := congrArg (fun l => l[k]?) he
      simp only [List.getElem?_map, e1, e2, Option.map_some, Option.some.injEq] at this
      exact this
    have hW1 : W.ownsRow B1 25 1 r1 L1.length (L1.map Prod.fst) := World.ownsRow.kept h1 (grown_of_below hW) (none_or _)
    have hW2 : W.ownsRow B2 25 1 r2 L2.length (L2.map Prod.fst) := World.ownsRow.kept h2 (grown_of_below hW) (none_or _)
    obtain ⟨g1, c1, p1, p2, p3⟩ := row_get hW1 e1
    obtain ⟨g2, c2, p4, p5, p6⟩ := row_get hW2 e2
    rw [hll] at p4 p5
    have m1 := List.getElem_mem hk
    have m2 := List.getElem_mem (show k < L2.length by omega)
    have q1 := (o1 _ m1).below hW
    have q2 := (o2 _ m2).below hW
    rw [← es] at q2
    exact ⟨g1, c1, g2, c2, _, _, (L1[k]).2, p1, p2, p3, p4, p5, p6, q1.rd (hl _ m1), q2.rd (hl _ m1)⟩
  obtain ⟨ar, cr, rfl⟩ := row_slice h1
  obtain ⟨asx, csx, e⟩ := row_slice h2
  rw [hll] at e
  subst e
  clear h1 o1 h2 o2 he hl hll
  generalize L1.length = K at *
  clear L1 L2
  go_enter Try.func29, Try.ntmps29
  go_wp2
  go_loopg [5] K (fun g i wr => ∃ k : Nat, k + g = K ∧ i = .int .i64 k ∧ Below w.heap.size w wr)
  case atStart => exact ⟨0, by omega, rfl, Below.refl _ _⟩
  case round =>
  obtain ⟨k, hk, rfl, bel⟩ := hrel
  have HK' : Hid (k + gk = K) := hk
  by_cases hlt : k < K
  · obtain ⟨g1, c1, g2, c2, x1, x2, T, e1, p2, p3, e2, p5, p6, rd1, rd2⟩ := hrow.out wr bel k hlt
    simp only [Value.slice.injEq, true_and] at e1 e2
    obtain ⟨rfl, rfl⟩ := e1
    obtain ⟨rfl, rfl⟩ := e2
    have R1 : Hid (Rd wr x1 T) := rd1
    have R2 : Hid (Rd wr x2 T) := rd2
    obtain ⟨_, ax1, cx1, rfl, -⟩ := id rd1
    obtain ⟨_, ax2, cx2, rfl, -⟩ := id rd2
    have BE : Hid (Below w.heap.size w wr) := bel
    clear rd1 rd2 bel hk
    go_wp2
    go_region_with (go_at_call 54; refine (refEqual_self _ _ T _ (R1.out.below (Below.refl _ _).drew) (R2.out.below (Below.refl _ _).drew)).mono ?_; rintro e w9 ⟨rfl, bel9⟩)
    all_goals
      go_wp2
      go_roundg (gk - 1)
      case measure => have := HK'.out; omega
      case rel => exact ⟨k + 1, by have := HK'.out; omega, by go_num, BE.out.trans ((Below.step (Below.refl _ _).drew bel9).mono BE.out.size)⟩
  have e : K = k := by omega
  subst e
  clear hk hlt HK'
  go_wp2
  go_ret
  exact ⟨rfl, bel⟩

end Go.Proofs.Ythplkllphpnaoab
