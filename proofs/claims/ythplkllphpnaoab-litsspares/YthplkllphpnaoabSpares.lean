/-
  LitsSpares, walked.
-/
import Derived.Test.YthplkllphpnaoabTold
import Derived.Test.YthplkllphpnaoabKit
import Derived.Test.YthplkllphpnaoabReso
import Derived.Sort.CutIn
import Derived.Deep.CutRange
set_option linter.unusedSimpArgs false
set_option linter.unusedVariables false
namespace Go.Proofs.Ythplkllphpnaoab
open Go Go.RowKit Go.Shelf

attribute [local go_sem] Oper.semAt_some

theorem func_not_nil (gf : Nat) (lb : Array Value) (w : World) : (binOp BinOp.eql 39 (Value.func (Fn.func gf) #[] lb) Value.nilFunc).run Try.prog w = .ok (.bool false) w := by rfl
theorem Mid.sub {lo hi lo' hi' : Nat} {A B : World} (h : Mid lo hi A B) (h1 : lo ≤ lo') (h2 : hi' ≤ hi) : Mid lo' hi' A B := ⟨h.size, fun k a b => h.block k (by omega) (by omega)⟩
/-- the front of a list that is lent -/
theorem front_rd {B : Nat} {w : World} {g n cap : Nat} {Z : List Int} (h : Own B w (.slice (some ⟨g, 0, none⟩) n cap) Z) (hn : Z.length = n) {m : Nat} (hm : m ≤ n) (h8 : m * 8 ≤ 140737488351232) : Rd w (.slice (some ⟨g, 0, none⟩) m cap) (Z.take m) := by
  have hl : (Z.take m).length = m := by rw [List.length_take]; omega
  rcases h.2 with ⟨e, _⟩ | ⟨g', cap', cur, e, hb, hh, hnc, hcm, hcs, ht⟩
  · cases e
  · cases e
    refine ⟨by rw [hl]; exact h8, some ⟨g, 0, none⟩, cap, by rw [hl], by rw [hl]; omega, hcm, (fun e => by cases e), fun hne => ⟨g, 0, rfl, (Array.getElem?_eq_some_iff.1 hh).1, fun j hj => ?_⟩⟩
    rw [hl] at hj
    obtain ⟨g2, cap2, e2, -, hc⟩ := own_at h (i := j) (by omega)
    cases e2
    rw [Nat.zero_add, hc, List.getD_eq_getElem?_getD, List.getD_eq_getElem?_getD, List.getElem?_take_of_lt hj]
theorem ownsRow_from {base e s : Nat} {w w' : World} {v : Value} {n : Nat} {xs : List Value} {row : Option Nat} (h : w.ownsRow base e s v n xs) (hg : w.grownBy w' row) (hr : ∀ r, row = some r → ∃ o : Obj, w.heap[r]? = some o ∧ o.isCells = false) : w'.ownsRow base e s v n xs := by
  refine ⟨h.1, ?_⟩
  rcases h.2 with hn | ⟨g, cap, cur, hv, hb, hh, r⟩
  · exact .inl hn
  · refine .inr ⟨g, cap, cur, hv, hb, ?_, r⟩
    rw [hg.block g (Array.getElem?_eq_some_iff.1 hh).1 (fun e => by
      obtain ⟨o, ho, hc⟩ := hr g e.symm
      rw [hh] at ho
      cases ho
      cases hc)]
    exact hh
theorem ownsRow_mid {base lo hi : Nat} {e size : Nat} {w w' : World} {v : Value} {n : Nat} {xs : List Value} (h : w.ownsRow base e size v n xs) (hm : Mid lo hi w w') (hl : lo ≤ base) (hh : w.heap.size ≤ hi) : w'.ownsRow base e size v n xs := by
  refine ⟨h.1, ?_⟩
  rcases h.2 with hn | ⟨g, cap, cur, hv, hb', hg, r⟩
  · exact .inl hn
  · exact .inr ⟨g, cap, cur, hv, hb', by rw [hm.block g (Nat.le_trans hl hb') (Nat.lt_of_lt_of_le (Array.getElem?_eq_some_iff.1 hg).1 hh)]; exact hg, r⟩
theorem ne_block {g g' n c : Nat} (h : g ≠ g') : (Value.slice (some ⟨g, 0, none⟩) n c).ownBlock ≠ some g' := fun e => h (by simpa [Value.ownBlock] using e)
theorem mid_of_grown {g lo : Nat} {A B : World} (hg : A.grownBy B (some g)) (h : g < lo) : Mid lo A.heap.size A B := ⟨hg.size, fun k h1 h2 => hg.block k h2 (by intro e; cases e; omega)⟩
theorem Mid.then {lo : Nat} {A B C : World} (h : Mid lo A.heap.size A B) (k : Mid lo B.heap.size B C) : Mid lo A.heap.size A C := h.trans (k.sub (Nat.le_refl _) h.size)
/-- all lists that came, in a row that a box holds -/
structure Al (bL : Nat) (wA : World) (W : World) (rv : Value) (L : List Lst) : Prop where
  box : Boxed W wA.heap.size 43 rv
  row : W.ownsRow (wA.heap.size + 1) 25 1 rv L.length (L.map Prod.fst)
  own : ∀ x ∈ L, Own bL W x.1 x.2
  n8 : ∀ x ∈ L, x.2.length * 8 ≤ 140737488353280
  ap : ApartL L
  bel : Below wA.heap.size wA W
theorem Al.app {bL : Nat} {wA W Wa w1 : World} {rv rv' : Value} {L L' : List Lst} (h : Al bL wA W rv L) (hga : W.grownBy Wa none) (own' : w1.ownsRow (wA.heap.size + 1) 25 1 rv' (L.length + L'.length) (L.map Prod.fst ++ L'.map Prod.fst)) (hg : Wa.grownBy w1 rv.ownBlock)
    (hL : ∀ x ∈ L', Own bL W x.1 x.2) (h8 : ∀ x ∈ L', x.2.length * 8 ≤ 140737488353280) (hap : ApartL (L ++ L')) :
    Boxed w1 wA.heap.size 43 rv ∧ Al bL wA (w1.setCell ⟨wA.heap.size, 0, none⟩ rv') rv' (L ++ L') ∧ KeepsOthers W (w1.setCell ⟨wA.heap.size, 0, none⟩ rv') ∧ Below wA.heap.size W (w1.setCell ⟨wA.heap.size, 0, none⟩ rv') := by
  have bxa := h.box.kept hga (by simp)
  have rowa := World.ownsRow.kept h.row hga (none_or _)
  have bx1 := bxa.kept hg (bxa.not_row (by decide) rowa)
  have sW : wA.heap.size ≤ W.heap.size := h.bel.size
  have bb : Below wA.heap.size W (w1.setCell ⟨wA.heap.size, 0, none⟩ rv') :=
    (((Below.refl _ W).grown hga sW (fun b e => by cases e)).grown hg (Nat.le_trans sW hga.size) (fun b e => by have := (World.ownsRow.lt rowa b e).1; omega)).setCell (p := ⟨wA.heap.size, 0, none⟩) (Nat.le_refl _) _
  refine ⟨bx1, ⟨bx1.set rv', ?_, fun x hx => ?_, fun x hx => ?_, hap, h.bel.trans bb⟩, ?_, bb⟩
  · rw [List.length_append, List.map_append]
    exact own'.kept (grownBy_setCell' w1 _ rv') (.inr (bx1.not_row (by decide) own').symm)
  · have o0 : Own bL W x.1 x.2 := by
      rcases List.mem_append.1 hx with hx | hx
      · exact h.own x hx
      · exact hL x hx
    have o1 : Own bL w1 x.1 x.2 := ownsRow_apart (by decide) (World.ownsRow.kept o0 hga (none_or _)) rowa hg
    exact World.ownsRow.kept o1 (grownBy_setCell' w1 _ rv') (.inr (bx1.not_row (by decide) o1).symm)
  · rcases List.mem_append.1 hx with hx | hx
    · exact h.n8 x hx
    · exact h8 x hx
  · refine ((KeepsOthers.of_grownBy hga (fun _ _ e _ => by cases e)).trans (KeepsOthers.of_grownBy hg fun j o ej hj => ?_)).trans (KeepsOthers.setCell _ _ _)
    rcases rowa.2 with ⟨rfl, _⟩ | ⟨g, cap, cur, rfl, _, hgb, _⟩
    · cases ej
    · cases ej
      rw [hgb] at hj
      cases hj
      rfl
theorem Al.from {bL B : Nat} {wA : World} {rv : Value} {L : List Lst} (hB : wA.heap.size ≤ B) : OwnFrom B (fun (_ : Unit) W => Al bL wA W rv L) := fun _ X Y row h hg hr =>
  ⟨h.box.kept hg (fun e' => by obtain ⟨_, o, ho, hc⟩ := hr _ e'.symm; rw [show X.heap[wA.heap.size]? = _ from h.box] at ho; cases ho; cases hc), ownsRow_from h.row hg (fun r e => (hr r e).2), fun x hx => own_from (h.own x hx) hg (fun r e => (hr r e).2), h.n8, h.ap, h.bel.grown hg h.bel.size (fun k e => Nat.le_trans hB (hr k e).1)⟩
theorem Al.mono {bL bL' : Nat} {wA W : World} {rv : Value} {L : List Lst} (h : Al bL wA W rv L) (hb : bL' ≤ bL) : Al bL' wA W rv L := ⟨h.box, h.row, fun x hx => (h.own x hx).mono hb, h.n8, h.ap, h.bel⟩
theorem Al.drew {bL : Nat} {wA W : World} {rv : Value} {L : List Lst} (h : Al bL wA W rv L) : Al bL wA W.drew rv L := ⟨h.box, h.row, h.own, h.n8, h.ap, h.bel.drew⟩
theorem lists_one {bL : Nat} {W : World} {L : List Lst} (h : ∀ x ∈ L, Own bL W x.1 x.2) : ∀ u ∈ L.map Prod.fst, u.oneCell' = true := fun u hu => by
  obtain ⟨x, hx, rfl⟩ := List.mem_map.1 hu
  obtain ⟨a, c, e⟩ := own_slice (h x hx)
  rw [e]
  rfl
theorem ApartL.append {L L' : List Lst} (h : ApartL L) (h' : ApartL L') {s : Nat} (h1 : ∀ x ∈ L, ∀ b, x.1.ownBlock = some b → b < s) (h2 : ∀ x ∈ L', ∀ b, x.1.ownBlock = some b → s ≤ b) : ApartL (L ++ L') := by
  unfold ApartL
  rw [List.pairwise_append]
  refine ⟨h, h', fun x hx y hy => ?_⟩
  cases e : x.1.ownBlock with
  | none => exact .inl rfl
  | some b => exact .inr fun e' => by have := h1 x hx b e; have := h2 y hy b e'.symm; omega
theorem ApartL.ahead {L L' : List Lst} (h : ApartL L) (h' : ApartL L') {s : Nat} (h1 : ∀ x ∈ L, ∀ b, x.1.ownBlock = some b → s ≤ b) (h2 : ∀ x ∈ L', ∀ b, x.1.ownBlock = some b → b < s) : ApartL (L ++ L') := by
  unfold ApartL
  rw [List.pairwise_append]
  refine ⟨h, h', fun x hx y hy => ?_⟩
  cases e : x.1.ownBlock with
  | none => exact .inl rfl
  | some b => exact .inr fun e' => by have := h1 x hx b e; have := h2 y hy b e'.symm; omega
theorem Al.apart {bL : Nat} {wA W : World} {rv : Value} {L : List Lst} (h : Al bL wA W rv L) (hbA : bL ≤ wA.heap.size + 1) (hb : bL ≤ W.heap.size) (hK : L.length ≤ 4294967296) :
    Calls Try.prog 34 #[rv] W fun e w' => e = .returned (.bool true) ∧ Below bL W w' ∧ KeepsOthers W w' := by
  have hget : ∀ j, (hj : j < L.length) → L.getD j default = L[j] := fun j hj => by rw [List.getD_eq_getElem?_getD, List.getElem?_eq_getElem hj]; rfl
  refine apart_any bL rv L.length (fun j => (L.getD j default).1) (fun j => (L.getD j default).2.length) W hb ?_ (fun j hj => ?_) (fun i j hi hj hij => ?_) hK (fun j hj => ?_)
  · have e : (List.range L.length).map (fun j => (L.getD j default).1) = L.map Prod.fst := by
      apply List.ext_getElem?
      intro j
      rw [List.getElem?_map, List.getElem?_map]
      by_cases hj : j < L.length
      · rw [List.getElem?_range hj, List.getElem?_eq_getElem hj]
        simp only [Option.map_some]
        rw [hget j hj]
      · rw [List.getElem?_eq_none (by simp; omega), List.getElem?_eq_none (by omega)]
        rfl
    rw [e]
    refine ⟨h.row.1, ?_⟩
    rcases h.row.2 with hn | ⟨g, cap, cur, hv, hb', hg, r⟩
    · exact .inl hn
    · exact .inr ⟨g, cap, cur, hv, by omega, hg, r⟩
  · refine ⟨L[j].2, ?_, by rw [hget j hj]⟩
    rw [hget j hj]
    exact h.own _ (List.getElem_mem hj)
  · rw [hget i hi, hget j hj]
    have hp := List.pairwise_iff_getElem.1 h.ap
    rcases Nat.lt_or_gt_of_ne hij with q | q
    · exact hp i j hi hj q
    · rcases hp j i hj hi q with p | p
      · cases e : (L[i]).1.ownBlock with
        | none => exact .inl rfl
        | some b => exact .inr (by rw [p]; simp)
      · exact .inr fun e => p e.symm
  · rw [hget j hj]
    exact h.n8 _ (List.getElem_mem hj)
theorem ownFrom_mark {β : Type} {B D : Nat} {o : Obj} (hD : D < B) : OwnFrom B (fun (_ : β) W => W.heap[D]? = some o) := fun _ A _ row hs hg hr =>
  (hg.block D (Array.getElem?_eq_some_iff.1 hs).1 (fun e => by have := (hr D e.symm).1; omega)).trans hs
theorem rd42 (w : World) : Rd (w.alloc (.cells #[.int .i64 4, .int .i64 2] 3)) (.slice (some ⟨w.heap.size, 0, none⟩) 2 2) [4, 2] := by
  refine ⟨by decide, some ⟨w.heap.size, 0, none⟩, 2, rfl, Nat.le_refl _, by unfold maxLen; omega, (fun e => by cases e), fun _ => ⟨w.heap.size, 0, rfl, by simp, fun j hj => ?_⟩⟩
  match j, hj with
  | 0, _ => simp
  | 1, _ => simp
theorem cell_two_new (w : World) (x y : Value) (t : TypeId) : ∀ j u, [x, y][j]? = some u → (w.alloc (.cells #[x, y] t)).cell? ((⟨w.heap.size, 0, none⟩ : Addr).add j) = some u := by
  intro j u hj
  match j, hj with
  | 0, hj => simp at hj; subst hj; simp [Addr.add]
  | 1, hj => simp at hj; subst hj; simp [Addr.add]
theorem row_addr {B : Nat} {W : World} {a : Option Addr} {c : Nat} {L : List Lst} (h : W.ownsRow B 25 1 (.slice a 8 c) L.length (L.map Prod.fst)) (hL : L.length = 8) : ∃ g, a = some ⟨g, 0, none⟩ := by
  rcases h.2 with ⟨_, hn⟩ | ⟨g, cap, cur, hv, _⟩
  · omega
  · simp only [Value.slice.injEq] at hv
    exact ⟨g, hv.1⟩
theorem Says.drew {w w' : World} {S : List (List Int)} {ap : Bool} {rv : Value} (h : Says w.drew S ap rv w') : Says w S ap rv w' := by
  obtain ⟨L, h1, h2, h3, h4, h5⟩ := h
  exact ⟨L, h1, h2, h3, h4, Below.step (Below.refl _ _).drew h5⟩
theorem said8 (a b : List Int) (l v : Int) : ∀ z ∈ said a b l v, z.length * 8 ≤ 140737488351232 := by
  intro z hz
  unfold said at hz
  simp only [List.mem_cons, List.not_mem_nil, or_false] at hz
  have h1 := tid8 a
  have h2 : (wout (tid a) l).length ≤ (tid a).length := List.length_filter_le _ _
  have h3 := tid8 (a ++ b)
  have h4 := resolve8 a b v
  rcases hz with rfl | rfl | rfl | rfl | rfl | rfl | rfl | rfl <;> omega
theorem lists8 {L : List Lst} {S : List (List Int)} (h : L.map Prod.snd = S) (hS : ∀ z ∈ S, z.length * 8 ≤ 140737488351232) : ∀ x ∈ L, x.2.length * 8 ≤ 140737488351232 := fun x hx => hS _ (h ▸ List.mem_map_of_mem hx)

set_option maxRecDepth 100000 in
set_option maxHeartbeats 16000000 in
theorem spares_any (u0 u1 : Value) (l : Int) (z0 z1 : List Int) (w : World) (r0 : Rd w u0 z0) (r1 : Rd w u1 z1) (wl : (Lit.int .i64 l).wf = true) :
    Calls Try.prog 7 #[u0, u1, .int .i64 l] w fun e w' => e = .returned (.bool true) ∧ Below w.heap.size w w' := by
  have hR := resAll_len z0 z1
  have hl0 := r0.len
  have hl1 := r1.len
  obtain ⟨iL, hiL, hL0, hL1, hL2⟩ := info_parts infoL
  have HA : Hid (∀ W, Below w.heap.size w W → Rd W u0 z0) := fun W h => r0.below h
  have HB : Hid (∀ W, Below w.heap.size w W → Rd W u1 z1) := fun W h => r1.below h
  obtain ⟨-, au0, cu0, e0, -⟩ := id r0
  obtain ⟨-, au1, cu1, e1, -⟩ := id r1
  subst e0 e1
  clear r0 r1
  refine calls_marks 12 Try.func7 rfl ?_
  simp only [Try.ntmps7, List.size_toArray, List.length_cons, List.length_nil, Nat.reduceAdd, Nat.reduceSub, Array.replicate_succ, Array.replicate_zero, List.push_toArray, List.append_toArray, List.nil_append, List.cons_append]
  go_upto_region 2 with fail
  go_cut [26] from 21 to 26 (fun t wx => ∃ q : Bool, t = .bool q ∧ (q = true → l < 0 ∧ -1048576 ≤ l) ∧ w = wx)
  case first =>
    by_cases h1 : l < 0
    · have d1 : decide (l < 0) = true := decide_eq_true h1
      by_cases h2 : -1048576 ≤ l
      · have d2 : decide (-1048576 ≤ l) = true := decide_eq_true h2
        go_wp2_with fail
        go_meet
        exact ⟨true, rfl, fun _ => ⟨h1, h2⟩, rfl⟩
      · have d2 : decide (-1048576 ≤ l) = false := decide_eq_false h2
        go_wp2_with fail
        go_meet
        exact ⟨false, rfl, (fun e => by cases e), rfl⟩
    · have d1 : decide (l < 0) = false := decide_eq_false h1
      go_wp2_with fail
      go_meet
      exact ⟨false, rfl, (fun e => by cases e), rfl⟩
  case rest =>
  obtain ⟨q, rfl, hq, rfl⟩ := hcut
  go_upto_if 26 with fail
  go_cut [7] from 27 to 28 (fun t wx => ∃ vv : Int, t = .int .i64 vv ∧ w = wx)
  case first =>
    cases q
    · go_wp2_with fail
      go_meet
      exact ⟨_, rfl, rfl⟩
    · obtain ⟨q1, q2⟩ := hq rfl
      go_wp2_with fail
      go_meet
      exact ⟨_, rfl, rfl⟩
  case rest =>
  obtain ⟨vv, rfl, rfl⟩ := hcut
  clear hq
  go_wp2_with fail
  refine (lent_any _ z0 w (HA.out _ (Below.refl _ _))).mono ?_
  rintro e w1 ⟨x, rfl, ox1, bel1⟩
  go_wp2_with fail
  refine (lent_any _ z1 w1 (HB.out _ bel1)).mono ?_
  rintro e w2 ⟨y, rfl, oy2, bel2⟩
  have lx : (z0 ++ m64).length = z0.length + 64 := by rw [List.length_append, m64_len]
  have ly : (z1 ++ m64).length = z1.length + 64 := by rw [List.length_append, m64_len]
  obtain ⟨gx, cx, ex, -, hgx1, hgx0, hcx, -⟩ := own_holds ox1 (by intro h; rw [h] at lx; simp at lx)
  obtain ⟨gy, cy, ey, -, hgy1, hgy0, hcy, -⟩ := own_holds oy2 (by intro h; rw [h] at ly; simp at ly)
  rw [lx] at ex hcx
  rw [ly] at ey hcy
  subst ex ey
  have b2 : Below w.heap.size w w2 := Below.step bel1 bel2
  have s01 : w.heap.size ≤ w1.heap.size := bel1.size
  have s12 : w1.heap.size ≤ w2.heap.size := bel2.size
  have OX : Hid (∀ W, Below w2.heap.size w2 W → Own w.heap.size W (.slice (some ⟨gx, 0, none⟩) (z0.length + 64) cx) (z0 ++ m64)) := fun W h => (ox1.below bel2).below h
  have OY : Hid (∀ W, Below w2.heap.size w2 W → Own w1.heap.size W (.slice (some ⟨gy, 0, none⟩) (z1.length + 64) cy) (z1 ++ m64)) := fun W h => oy2.below h
  have HA2 : Hid (∀ W, Below w2.heap.size w2 W → Rd W (.slice au0 z0.length cu0) z0) := fun W h => HA.out W (Below.step b2 h)
  have HB2 : Hid (∀ W, Below w2.heap.size w2 W → Rd W (.slice au1 z1.length cu1) z1) := fun W h => HB.out W (Below.step b2 h)
  have t0 : (z0 ++ m64).take z0.length = z0 := List.take_left
  have t1 : (z1 ++ m64).take z1.length = z1 := List.take_left
  have RX : Hid (∀ W, Below w2.heap.size w2 W → Rd W (.slice (some ⟨gx, 0, none⟩) z0.length cx) z0) := fun W h => by
    have := front_rd (OX.out W h) lx (Nat.le_add_right _ _) hl0
    rwa [t0] at this
  have RY : Hid (∀ W, Below w2.heap.size w2 W → Rd W (.slice (some ⟨gy, 0, none⟩) z1.length cy) z1) := fun W h => by
    have := front_rd (OY.out W h) ly (Nat.le_add_right _ _) hl1
    rwa [t1] at this
  have BW2 : Hid (Below w.heap.size w w2) := b2
  clear ox1 oy2 bel1 bel2 b2 lx ly t0 t1 HA HB
  go_wp2_with fail
  refine (meant_any _ _ z0 z1 l vv w2 (HA2.out _ (Below.refl _ _)) (HB2.out _ (Below.refl _ _))).mono ?_
  rintro e w3 ⟨want, rfl, sw3⟩
  obtain ⟨Lw, rowW, ownW, -, sayW, b23⟩ := sw3
  obtain ⟨aw, cw, ew⟩ := row_slice rowW
  have hLw : Lw.length = 8 := by have := congrArg List.length sayW; simpa [said] using this
  rw [hLw] at ew
  subst ew
  have RW3 : Hid (w3.ownsRow w2.heap.size 25 1 (.slice aw 8 cw) Lw.length (Lw.map Prod.fst)) := rowW
  have OW3 : Hid (∀ x ∈ Lw, Own w2.heap.size w3 x.1 x.2) := ownW
  have SW : Hid (Lw.map Prod.snd = said z0 z1 l vv) := sayW
  have B23 : Hid (Below w2.heap.size w2 w3) := b23
  have s23 : w2.heap.size ≤ w3.heap.size := b23.size
  clear rowW ownW sayW b23
  go_upto_region 7 with fail
  go_cut [11] from 38 to 48 (fun t wx => Says w3 (said z0 z1 l vv) true t wx)
  case first =>
    go_region_with (go_at_call 28; refine (told_any _ _ z0 z1 l vv _ ((RX.out _ B23.out).below (Below.refl _ _).drew) ((RY.out _ B23.out).below (Below.refl _ _).drew)).mono ?_; rintro e w4 ⟨got, rfl, sg⟩)
    all_goals
      go_wp2_with fail
      go_meet
      exact sg.drew
  case rest =>
  obtain ⟨Lg, rowG, ownG, apG, sayG, b34⟩ := hcut
  obtain ⟨ag, cg, eg⟩ := row_slice rowG
  have hLg : Lg.length = 8 := by have := congrArg List.length sayG; simpa [said] using this
  rw [hLg] at eg
  subst eg
  generalize wc = w4 at *
  have b24 : Below w2.heap.size w2 w4 := Below.step B23.out b34
  have RWA : Hid (∀ W, Below w4.heap.size w4 W → W.ownsRow w2.heap.size 25 1 (.slice aw 8 cw) Lw.length (Lw.map Prod.fst)) := fun W h => World.ownsRow.kept RW3.out (grown_of_below (Below.step b34 h)) (none_or _)
  have OWA : Hid (∀ W, Below w4.heap.size w4 W → ∀ x ∈ Lw, Own w2.heap.size W x.1 x.2) := fun W h x hx => (OW3.out x hx).below (Below.step b34 h)
  have RGA : Hid (∀ W, Below w4.heap.size w4 W → W.ownsRow w3.heap.size 25 1 (.slice ag 8 cg) Lg.length (Lg.map Prod.fst)) := fun W h => World.ownsRow.kept rowG (grown_of_below h) (none_or _)
  have OGA : Hid (∀ W, Below w4.heap.size w4 W → ∀ x ∈ Lg, Own w3.heap.size W x.1 x.2) := fun W h x hx => (ownG x hx).below h
  have APG : Hid (ApartL Lg) := apG rfl
  have SG : Hid (Lg.map Prod.snd = said z0 z1 l vv) := sayG
  have KX : Hid (∀ W, Below w4.heap.size w4 W → Calls Try.prog 30 #[.slice (some ⟨gx, 0, none⟩) (z0.length + 64) cx, .slice au0 z0.length cu0] W fun e w' => e = .returned (.bool true) ∧ Below W.heap.size W w') := fun W h => kept_any _ _ _ z0 W (OX.out W (Below.step b24 h)) (HA2.out W (Below.step b24 h))
  have KY : Hid (∀ W, Below w4.heap.size w4 W → Calls Try.prog 30 #[.slice (some ⟨gy, 0, none⟩) (z1.length + 64) cy, .slice au1 z1.length cu1] W fun e w' => e = .returned (.bool true) ∧ Below W.heap.size W w') := fun W h => kept_any _ _ _ z1 W (OY.out W (Below.step b24 h)) (HB2.out W (Below.step b24 h))
  have RX4 : Hid (∀ W, Below w4.heap.size w4 W → Rd W (.slice (some ⟨gx, 0, none⟩) z0.length cx) z0) := fun W h => RX.out W (Below.step b24 h)
  have RY4 : Hid (∀ W, Below w4.heap.size w4 W → Rd W (.slice (some ⟨gy, 0, none⟩) z1.length cy) z1) := fun W h => RY.out W (Below.step b24 h)
  have B24 : Hid (Below w2.heap.size w2 w4) := b24
  have s34 : w3.heap.size ≤ w4.heap.size := b34.size
  clear rowG ownG apG sayG b34 b24 RW3 OW3 B23 RX RY HA2 HB2
  go_wp2_with fail
  refine (alike_any w3.heap.size w2.heap.size _ _ Lg Lw w4 (RGA.out _ (Below.refl _ _)) (OGA.out _ (Below.refl _ _)) (RWA.out _ (Below.refl _ _)) (OWA.out _ (Below.refl _ _)) (by rw [SG.out, SW.out]) (lists8 SG.out (said8 _ _ _ _)) (by rw [hLg]; omega)).mono ?_
  rintro e w5 ⟨rfl, bel5⟩
  go_wp2_with fail
  refine (KX.out w5 bel5).mono ?_
  rintro e w6 ⟨rfl, bel6⟩
  have b6 := Below.step bel5 bel6
  go_wp2_with fail
  refine (KY.out w6 b6).mono ?_
  rintro e w7 ⟨rfl, bel7⟩
  have b7 := Below.step b6 bel7
  clear bel5 bel6 bel7 b6
  go_wp2_with fail
  refine (sound_any _ z0 w7 (RX4.out w7 b7)).mono ?_
  rintro e wx ⟨rfl, hwx⟩
  rw [hwx]
  clear hwx wx
  go_wp2_with fail
  refine (has_any _ z0 l w7 (RX4.out w7 b7)).mono ?_
  rintro e wx ⟨rfl, hwx⟩
  rw [hwx]
  clear hwx wx
  go_wp2_with fail
  refine (taut_any _ z0 w7 (RX4.out w7 b7)).mono ?_
  rintro e w8 ⟨rfl, bel8⟩
  have B8 : Hid (Below w4.heap.size w4 w8) := Below.step b7 bel8
  clear b7 bel8
  go_upto_region 13 with fail
  go_cut [] from 81 to 89 (fun wx => Below w4.heap.size w4 wx)
  case first =>
    go_region_with (go_at_call 24; refine (same_any _ _ z0 z1 _ ((RX4.out _ B8.out).below (Below.refl _ _).drew) ((RY4.out _ B8.out).below (Below.refl _ _).drew)).mono ?_; rintro e w9 ⟨rfl, bel9⟩)
    all_goals
      go_wp2_with fail
      go_meet
      exact Below.step (Below.step B8.out (Below.refl _ _).drew) bel9
  case rest =>
  clear B8
  generalize wc = w9 at *
  have B9 : Hid (Below w4.heap.size w4 w9) := hcut
  clear hcut
  go_upto_region 14 with fail
  go_cut [] from 90 to 98 (fun wx => Below w4.heap.size w4 wx)
  case first =>
    go_region_with (go_at_call 23; refine (subsumes_any _ _ z0 z1 _ ((RX4.out _ B9.out).below (Below.refl _ _).drew) ((RY4.out _ B9.out).below (Below.refl _ _).drew)).mono ?_; rintro e w10 ⟨rfl, bel10⟩)
    all_goals
      go_wp2_with fail
      go_meet
      exact Below.step (Below.step B9.out (Below.refl _ _).drew) bel10
  case rest =>
  clear B9
  generalize wc = w10 at *
  have B10 : Hid (Below w4.heap.size w4 w10) := hcut
  clear hcut
  go_upto_region 15 with fail
  go_cut [12] from 99 to 107 (fun t wx => GivesW w10.heap.size (resAll z0 z1) t wx ∧ Below w10.heap.size w10 wx)
  case first =>
    go_region_with (go_at_call 22; refine (resolvents_anyW _ _ z0 z1 _ ((RX4.out _ B10.out).below (Below.refl _ _).drew) ((RY4.out _ B10.out).below (Below.refl _ _).drew)).mono ?_; rintro e w11 ⟨f, rfl, gv, bel11⟩)
    all_goals
      go_wp2_with fail
      go_meet
      exact ⟨gv, Below.step (Below.refl _ _).drew bel11⟩
  case rest =>
  obtain ⟨gv, b1011⟩ := hcut
  generalize wc = w11 at *
  obtain ⟨gf, lb, rfl, heg, hseq⟩ := gv
  have HSEQ : Hid (∀ n, 1 ≤ n → SeqW Fence.wide n Try.prog gf lb (fun x : Itm => #[.int .i64 x.1, x.2.1]) (fun m => VV m (resAll z0 z1)) (Mid w10.heap.size w11.heap.size) (fun xs => xs.map Itm.proj = resAll z0 z1) (fun pre => pre.map Itm.proj <+: resAll z0 z1) w11) := hseq
  have b11 : Below w4.heap.size w4 w11 := Below.step B10.out b1011
  have s410 : w4.heap.size ≤ w10.heap.size := B10.out.size
  have s1011 : w10.heap.size ≤ w11.heap.size := b1011.size
  clear hseq b1011 B10
  go_wp2_with fail
  rw [func_not_nil]
  go_wp2_with fail
  refine (KX.out w11 b11).mono ?_
  rintro e w12 ⟨rfl, bel12⟩
  go_wp2_with fail
  refine (KY.out w12 (Below.step b11 bel12)).mono ?_
  rintro e w13 ⟨rfl, bel13⟩
  have b1113 : Below w11.heap.size w11 w13 := Below.step bel12 bel13
  have b13 : Below w4.heap.size w4 w13 := Below.step b11 b1113
  have b213 : Below w2.heap.size w2 w13 := Below.step B24.out b13
  have bw13 : Below w.heap.size w w13 := Below.step BW2.out b213
  go_wp2_with fail
  refine (over_any w.heap.size _ (z0 ++ m64) w13 (OX.out w13 b213) (by rw [List.length_append, m64_len]; omega)).mono ?_
  rintro e w14 ⟨⟨vo1, rfl⟩, ⟨Z0, hZ0, ox14⟩, g14⟩
  rw [List.length_append, m64_len] at hZ0
  have g14' : w13.grownBy w14 (some gx) := g14
  have oy14 : Own w1.heap.size w14 (.slice (some ⟨gy, 0, none⟩) (z1.length + 64) cy) (z1 ++ m64) := World.ownsRow.kept (OY.out w13 b213) g14' (.inr (ne_block (by omega)))
  go_wp2_with fail
  refine (over_any w1.heap.size _ (z1 ++ m64) w14 oy14 (by rw [List.length_append, m64_len]; omega)).mono ?_
  rintro e w15 ⟨⟨vo2, rfl⟩, ⟨Z1, hZ1, oy15⟩, g15⟩
  rw [List.length_append, m64_len] at hZ1
  have g15' : w14.grownBy w15 (some gy) := g15
  have ox15 : Own w.heap.size w15 (.slice (some ⟨gx, 0, none⟩) (z0.length + 64) cx) Z0 := World.ownsRow.kept ox14 g15' (.inr (ne_block (by omega)))
  have M : Mid w2.heap.size w13.heap.size w13 w15 := (mid_of_grown g14' (by omega)).then (mid_of_grown g15' hgy1)
  have s13 : w11.heap.size ≤ w13.heap.size := b1113.size
  have bw15 : Below w.heap.size w w15 := (bw13.grown g14' bw13.size (fun b e => by cases e; exact hgx0)).grown g15' (Nat.le_trans bw13.size g14'.size) (fun b e => by cases e; omega)
  have s15 : w13.heap.size ≤ w15.heap.size := M.size
  have RW5 : Hid (∀ W, Below w15.heap.size w15 W → W.ownsRow w2.heap.size 25 1 (.slice aw 8 cw) Lw.length (Lw.map Prod.fst)) := fun W h => World.ownsRow.kept (ownsRow_mid (RWA.out w13 b13) M (Nat.le_refl _) (Nat.le_refl _)) (grown_of_below h) (none_or _)
  have OW5 : Hid (∀ W, Below w15.heap.size w15 W → ∀ x ∈ Lw, Own w2.heap.size W x.1 x.2) := fun W h x hx => Own.below (ownsRow_mid (OWA.out w13 b13 x hx) M (Nat.le_refl _) (Nat.le_refl _)) h
  have RG5 : Hid (∀ W, Below w15.heap.size w15 W → W.ownsRow w3.heap.size 25 1 (.slice ag 8 cg) Lg.length (Lg.map Prod.fst)) := fun W h => World.ownsRow.kept (ownsRow_mid (RGA.out w13 b13) M s23 (Nat.le_refl _)) (grown_of_below h) (none_or _)
  have OG5 : Hid (∀ W, Below w15.heap.size w15 W → ∀ x ∈ Lg, Own w3.heap.size W x.1 x.2) := fun W h x hx => Own.below (ownsRow_mid (OGA.out w13 b13 x hx) M s23 (Nat.le_refl _)) h
  have RX5 : Hid (∀ W, Below w15.heap.size w15 W → Rd W (.slice (some ⟨gx, 0, none⟩) z0.length cx) (Z0.take z0.length)) := fun W h => (front_rd ox15 hZ0 (Nat.le_add_right _ _) hl0).below h
  have RY5 : Hid (∀ W, Below w15.heap.size w15 W → Rd W (.slice (some ⟨gy, 0, none⟩) z1.length cy) (Z1.take z1.length)) := fun W h => (front_rd oy15 hZ1 (Nat.le_add_right _ _) hl1).below h
  have OX5 : Hid (∀ W, Below w15.heap.size w15 W → Own w.heap.size W (.slice (some ⟨gx, 0, none⟩) (z0.length + 64) cx) Z0) := fun W h => ox15.below h
  have OY5 : Hid (∀ W, Below w15.heap.size w15 W → Own w1.heap.size W (.slice (some ⟨gy, 0, none⟩) (z1.length + 64) cy) Z1) := fun W h => oy15.below h
  have MS5 : Hid (∀ W, Below w15.heap.size w15 W → Mid w10.heap.size w11.heap.size w11 W) := fun W h => ((Mid.of_below b1113 (Nat.le_refl _)).trans (M.sub (by omega) s13)).trans (Mid.of_below h (by omega))
  have BW5 : Hid (Below w.heap.size w w15) := bw15
  have HEG : Hid (∀ args w, (callFunc gf args).run Try.prog w = .ok (.enter gf args) w) := heg
  clear RWA OWA RGA OGA KX KY RX4 RY4 B24 OX OY BW2 bel12 bel13 b11 b1113 b13 b213 bw13 bw15 ox14 oy14 ox15 oy15 g14 g14' g15 g15' M heg
  obtain ⟨zz0, hzz0⟩ : ∃ zz, Z0.take z0.length = zz := ⟨_, rfl⟩
  obtain ⟨zz1, hzz1⟩ : ∃ zz, Z1.take z1.length = zz := ⟨_, rfl⟩
  rw [hzz0] at RX5
  rw [hzz1] at RY5
  clear hzz0 hzz1
  go_upto_region 20 with fail
  go_cut [13] from 126 to 136 (fun t wx => Says w15 (said zz0 zz1 l vv) false t wx)
  case first =>
    go_region_with (go_at_call 27; refine (meant_any _ _ zz0 zz1 l vv _ (RX5.out _ (Below.refl _ _).drew) (RY5.out _ (Below.refl _ _).drew)).mono ?_; rintro e w16 ⟨wt, rfl, sg⟩)
    all_goals
      go_wp2_with fail
      go_meet
      exact sg.drew
  case rest =>
  obtain ⟨Lw2, rowW2, ownW2, -, sayW2, b1516⟩ := hcut
  obtain ⟨aw2, cw2, ew2⟩ := row_slice rowW2
  have hLw2 : Lw2.length = 8 := by have := congrArg List.length sayW2; simpa [said] using this
  rw [hLw2] at ew2
  subst ew2
  generalize wc = w16 at *
  have RW2 : Hid (w16.ownsRow w15.heap.size 25 1 (.slice aw2 8 cw2) Lw2.length (Lw2.map Prod.fst)) := rowW2
  have OW2 : Hid (∀ x ∈ Lw2, Own w15.heap.size w16 x.1 x.2) := ownW2
  have SW2 : Hid (Lw2.map Prod.snd = said zz0 zz1 l vv) := sayW2
  have B16 : Hid (Below w15.heap.size w15 w16) := b1516
  have s16 : w15.heap.size ≤ w16.heap.size := b1516.size
  clear rowW2 ownW2 sayW2 b1516
  go_upto_region 21 with fail
  go_cut [14] from 137 to 147 (fun t wx => Says w16 (said zz0 zz1 l vv) true t wx)
  case first =>
    go_region_with (go_at_call 28; refine (told_any _ _ zz0 zz1 l vv _ ((RX5.out _ B16.out).below (Below.refl _ _).drew) ((RY5.out _ B16.out).below (Below.refl _ _).drew)).mono ?_; rintro e w17 ⟨gt, rfl, sg⟩)
    all_goals
      go_wp2_with fail
      go_meet
      exact sg.drew
  case rest =>
  obtain ⟨Lg2, rowG2, ownG2, apG2, sayG2, b1617⟩ := hcut
  obtain ⟨ag2, cg2, eg2⟩ := row_slice rowG2
  have hLg2 : Lg2.length = 8 := by have := congrArg List.length sayG2; simpa [said] using this
  rw [hLg2] at eg2
  subst eg2
  generalize wc = w17 at *
  have APG2 : Hid (ApartL Lg2) := apG2 rfl
  have SG2 : Hid (Lg2.map Prod.snd = said zz0 zz1 l vv) := sayG2
  have b1517 : Below w15.heap.size w15 w17 := Below.step B16.out b1617
  have RG2 : Hid (∀ W, Below w17.heap.size w17 W → W.ownsRow w16.heap.size 25 1 (.slice ag2 8 cg2) Lg2.length (Lg2.map Prod.fst)) := fun W h => World.ownsRow.kept rowG2 (grown_of_below h) (none_or _)
  have OG2 : Hid (∀ W, Below w17.heap.size w17 W → ∀ x ∈ Lg2, Own w16.heap.size W x.1 x.2) := fun W h x hx => (ownG2 x hx).below h
  have s17 : w16.heap.size ≤ w17.heap.size := b1617.size
  go_wp2_with fail
  refine (alike_any w3.heap.size w2.heap.size _ _ Lg Lw w17 (RG5.out _ b1517) (OG5.out _ b1517) (RW5.out _ b1517) (OW5.out _ b1517) (by rw [SG.out, SW.out]) (lists8 SG.out (said8 _ _ _ _)) (by rw [hLg]; omega)).mono ?_
  rintro e w18 ⟨rfl, bel18⟩
  have b1618 : Below w16.heap.size w16 w18 := Below.step b1617 bel18
  go_wp2_with fail
  refine (alike_any w16.heap.size w15.heap.size _ _ Lg2 Lw2 w18 (RG2.out _ bel18) (OG2.out _ bel18) (World.ownsRow.kept RW2.out (grown_of_below b1618) (none_or _)) (fun x hx => (OW2.out x hx).below b1618) (by rw [SG2.out, SW2.out]) (lists8 SG2.out (said8 _ _ _ _)) (by rw [hLg2]; omega)).mono ?_
  rintro e w19 ⟨rfl, bel19⟩
  have b1719 : Below w17.heap.size w17 w19 := Below.step bel18 bel19
  have b1519 : Below w15.heap.size w15 w19 := Below.step b1517 b1719
  have s19 : w17.heap.size ≤ w19.heap.size := b1719.size
  have RGA : Hid (∀ W, Below w19.heap.size w19 W → W.ownsRow w3.heap.size 25 1 (.slice ag 8 cg) Lg.length (Lg.map Prod.fst)) := fun W h => RG5.out W (Below.step b1519 h)
  have RGB : Hid (∀ W, Below w19.heap.size w19 W → W.ownsRow w16.heap.size 25 1 (.slice ag2 8 cg2) Lg2.length (Lg2.map Prod.fst)) := fun W h => RG2.out W (Below.step b1719 h)
  have OGA : Hid (∀ W, Below w19.heap.size w19 W → ∀ x ∈ Lg, Own w2.heap.size W x.1 x.2) := fun W h x hx => (OG5.out W (Below.step b1519 h) x hx).mono s23
  have OGB : Hid (∀ W, Below w19.heap.size w19 W → ∀ x ∈ Lg2, Own w2.heap.size W x.1 x.2) := fun W h x hx => (OG2.out W (Below.step b1719 h) x hx).mono (by omega)
  have G8A : Hid (∀ x ∈ Lg, x.2.length * 8 ≤ 140737488353280) := fun x hx => Nat.le_trans (lists8 SG.out (said8 _ _ _ _) x hx) (by omega)
  have G8B : Hid (∀ x ∈ Lg2, x.2.length * 8 ≤ 140737488353280) := fun x hx => Nat.le_trans (lists8 SG2.out (said8 _ _ _ _) x hx) (by omega)
  have APT : Hid (ApartL (Lg ++ Lg2)) := APG.out.append APG2.out (s := w15.heap.size) (fun x hx b e => (World.ownsRow.lt (OG5.out w15 (Below.refl _ _) x hx) b e).2) (fun x hx b e => Nat.le_trans s16 (World.ownsRow.lt (OG2.out w17 (Below.refl _ _) x hx) b e).1)
  have OXA : Hid (∀ W, Below w19.heap.size w19 W → Own w.heap.size W (.slice (some ⟨gx, 0, none⟩) (z0.length + 64) cx) Z0) := fun W h => OX5.out W (Below.step b1519 h)
  have OYA : Hid (∀ W, Below w19.heap.size w19 W → Own w1.heap.size W (.slice (some ⟨gy, 0, none⟩) (z1.length + 64) cy) Z1) := fun W h => OY5.out W (Below.step b1519 h)
  have MSA : Hid (∀ W, Below w19.heap.size w19 W → Mid w10.heap.size w11.heap.size w11 W) := fun W h => MS5.out W (Below.step b1519 h)
  have BWA : Hid (Below w.heap.size w w19) := BW5.out.trans (b1519.mono BW5.out.size)
  obtain ⟨gg, rfl⟩ := row_addr (RGA.out _ (Below.refl _ _)) hLg
  obtain ⟨gg2, rfl⟩ := row_addr (RGB.out _ (Below.refl _ _)) hLg2
  have s215 : w2.heap.size ≤ w19.heap.size := by omega
  have s119 : w11.heap.size ≤ w19.heap.size := by omega
  clear RW5 OW5 RG5 OG5 RX5 RY5 OX5 OY5 MS5 BW5 RW2 OW2 SW2 B16 b1517 b1617 b1618 bel18 bel19 b1719 b1519 RG2 OG2 rowG2 ownG2 apG2 sayG2 APG APG2 SG SW SG2
  go_upto_region 25 with fail
  have al20 : Al w2.heap.size w19 (w19.alloc (.cells #[.slice none 0 0] 43)) (.slice none 0 0) [] := ⟨Boxed.new _ _ _, World.ownsRow_nil _ _ _ _, (fun x hx => by cases hx), (fun x hx => by cases hx), ApartL.nil, (Below.refl _ _).alloc (Nat.le_refl _) _⟩
  have z20 : (w19.alloc (.cells #[.slice none 0 0] 43)).heap.size = w19.heap.size + 1 := by simp
  generalize (w19.alloc (.cells #[.slice none 0 0] 43)) = W20 at *
  have c20 := al20.box.cell
  have N20 : Hid (∀ j u, (Lg.map Prod.fst)[j]? = some u → W20.cell? ((⟨gg, 0, none⟩ : Addr).add j) = some u) := World.ownsRow.cells (RGA.out W20 al20.bel) rfl
  have A20 : Hid (Al w2.heap.size w19 W20 (.slice none 0 0) []) := al20
  have O20 : Hid (∀ u ∈ Lg.map Prod.fst, u.oneCell' = true) := lists_one (OGA.out W20 al20.bel)
  have D20 : Hid (∀ x ∈ Lg, Own w2.heap.size W20 x.1 x.2) := OGA.out W20 al20.bel
  have AP1 : Hid (ApartL ([] ++ Lg)) := (List.pairwise_append.1 APT.out).1
  clear al20
  go_upto_region 26 with (at_builtin; refine wpList_append_own _ rfl _ _ 43 rfl (w19.heap.size + 1) 25 iL (.slice none 0 0) 1 24 Try.underlying43 hiL hL0 hL1 hL2 rfl (by decide) (.slice none 0 0) 0 [] rfl (World.ownsRow_nil _ _ _ _) ⟨gg, 0, none⟩ 8 cg (Lg.map Prod.fst) rfl (by rw [List.length_map, hLg]) N20.out O20.out (by unfold maxLen; omega) (by omega) (Nat.le_of_eq z20.symm) ?_; intro v21 w21 own21 gr21 hn21; obtain ⟨bx21, al21, -, -⟩ := A20.out.app (Wa := W20) (rv' := v21) (L' := Lg) ⟨rfl, rfl, rfl, Nat.le_refl _, fun _ _ _ => rfl⟩ (by rw [hLg]; exact own21) gr21 D20.out G8A.out AP1.out; have c21 := bx21.cell; have f21 := bx21.frozen; obtain ⟨a21, k21, e21⟩ := row_slice own21; subst e21; have A21 : Hid (Al w2.heap.size w19 (w21.setCell ⟨w19.heap.size, 0, none⟩ (.slice a21 8 k21)) (.slice a21 8 k21) Lg) := al21; clear al21 bx21 own21 gr21 hn21)
  clear c20 N20 A20 O20 D20 AP1 z20
  generalize (w21.setCell ⟨w19.heap.size, 0, none⟩ (.slice a21 8 k21)) = W22 at *
  have al22 := A21.out
  have c22 := al22.box.cell
  have N22 : Hid (∀ j u, (Lg2.map Prod.fst)[j]? = some u → W22.cell? ((⟨gg2, 0, none⟩ : Addr).add j) = some u) := World.ownsRow.cells (RGB.out W22 al22.bel) rfl
  have O22 : Hid (∀ u ∈ Lg2.map Prod.fst, u.oneCell' = true) := lists_one (OGB.out W22 al22.bel)
  have D22 : Hid (∀ x ∈ Lg2, Own w2.heap.size W22 x.1 x.2) := OGB.out W22 al22.bel
  have R22 : Hid (W22.ownsRow (w19.heap.size + 1) 25 1 (.slice a21 8 k21) Lg.length (Lg.map Prod.fst)) := al22.row
  have s22 : w19.heap.size + 1 ≤ W22.heap.size := al22.box.lt
  clear al22
  go_upto_region 27 with (at_builtin; refine wpList_append_own _ rfl _ _ 43 rfl (w19.heap.size + 1) 25 iL (.slice none 0 0) 1 24 Try.underlying43 hiL hL0 hL1 hL2 rfl (by decide) _ Lg.length (Lg.map Prod.fst) rfl R22.out ⟨gg2, 0, none⟩ 8 cg2 (Lg2.map Prod.fst) rfl (by rw [List.length_map, hLg2]) N22.out O22.out (by rw [hLg]; unfold maxLen; omega) (by rw [hLg]; omega) s22 ?_; intro v23 w23 own23 gr23 hn23; obtain ⟨bx23, al23, -, -⟩ := A21.out.app (Wa := W22) (rv' := v23) (L' := Lg2) ⟨rfl, rfl, rfl, Nat.le_refl _, fun _ _ _ => rfl⟩ (by rw [hLg2]; exact own23) gr23 D22.out G8B.out APT.out; have c23 := bx23.cell; have f23 := bx23.frozen; obtain ⟨a23, k23, e23⟩ := row_slice own23; rw [hLg] at e23; subst e23; have A23 : Hid (Al w2.heap.size w19 (w23.setCell ⟨w19.heap.size, 0, none⟩ (.slice a23 16 k23)) (.slice a23 16 k23) (Lg ++ Lg2)) := al23; clear al23 bx23 own23 gr23 hn23)
  clear c22 N22 O22 D22 R22 s22 A21
  generalize (w23.setCell ⟨w19.heap.size, 0, none⟩ (.slice a23 16 k23)) = W24 at *
  have hLL : (Lg ++ Lg2).length = 16 := by rw [List.length_append, hLg, hLg2]
  have s24 : w19.heap.size + 1 ≤ W24.heap.size := A23.out.box.lt
  have M24 : Mid w10.heap.size w11.heap.size w11 W24 := MSA.out W24 A23.out.bel
  clear RGA RGB OGA OGB G8A G8B APT
  go_wp2
  refine (wpIn_wide (n := 12)).1 ?_
  refine' wpIn_rangeW rfl (by omega) (gf := gf) (lb := lb) rfl trivial HEG.out (HSEQ.out (12 - 1) (by omega)) Mid.trans (midK_b (by omega)) (fun W o h => h.alloc (Nat.le_refl _) o) M24 (fun _ => rfl)
    (fun pre W => ∃ (rv : Value) (L : List Lst), Al w2.heap.size w19 W rv L ∧ L.length = 16 + pre.length)
    (fun c pre W => False)
    (fun s X Y row h hg hr => by obtain ⟨rv, L, al, hl⟩ := h; exact ⟨rv, L, Al.from (by omega) () X Y row al hg hr, hl⟩)
    (fun c s A B row hs hg hr => hs)
    (fun m pre => VV_from _ _ _ pre)
    ⟨_, _, A23.out, hLL⟩
    _ ?assign ?body ?done ?stop
  case assign =>
    intro l x W K hK
    gi_wp2
    exact hK
  case body =>
    rintro l' pre ⟨xv, xs, xl⟩ W0 W ⟨rv, L, al0, hlen⟩ hsz hZ ⟨hpx, ho, hxl⟩
    dsimp only at ho hxl
    have al := hZ (fun W => Al w2.heap.size w19 W rv L) (Al.from (by omega)) al0
    have hpl : pre.length + 1 ≤ 2097152 := by
      have := hpx.length_le
      simp only [List.map_append, List.length_append, List.length_map, List.map_cons, List.map_nil, List.length_cons, List.length_nil] at this
      omega
    have hap : Hid (ApartL (L ++ [(xs, xl)])) := al0.ap.snoc al0.own ho
    have hox : Hid (∀ x ∈ [((xs, xl) : Lst)], Own w2.heap.size W x.1 x.2) := fun x hx => by
      simp only [List.mem_singleton] at hx
      subst hx
      exact ho.mono (by omega)
    have h8 : Hid (∀ x ∈ [((xs, xl) : Lst)], x.2.length * 8 ≤ 140737488353280) := fun x hx => by
      simp only [List.mem_singleton] at hx
      subst hx
      show xl.length * 8 ≤ _
      omega
    obtain ⟨ax, cxx, ex⟩ := own_slice ho
    subst ex
    obtain ⟨ar, cr, er⟩ := row_slice al.row
    subst er
    have cb := al.box.cell
    have AL : Hid (Al w2.heap.size w19 W (.slice ar L.length cr) L) := al
    have RL : Hid ((W.alloc (.cells #[.slice ax xl.length cxx] 25)).ownsRow (w19.heap.size + 1) 25 1 (.slice ar L.length cr) L.length (L.map Prod.fst)) := World.ownsRow.alloc al.row _
    have sW : w19.heap.size + 1 ≤ W.heap.size := al.box.lt
    have HLEN : Hid (L.length = 16 + pre.length) := hlen
    have hLb : L.length ≤ 2097200 := by omega
    clear al al0 ho hpx hZ hlen hpl
    gi_wp2_with (gi_at_builtin; refine wpListIn_append_own _ rfl _ _ 43 rfl (w19.heap.size + 1) 25 iL (.slice none 0 0) 1 24 Try.underlying43 hiL hL0 hL1 hL2 rfl (by decide) _ L.length (L.map Prod.fst) rfl RL.out ⟨W.heap.size, 0, none⟩ 1 1 [.slice ax xl.length cxx] rfl rfl (cell_one_new _ _ _) (by simp [Value.oneCell']) (by unfold maxLen; omega) (by omega) (by simp; omega) ?_; intro v' w' own' gr' hn'; obtain ⟨bx', al', ko', be'⟩ := AL.out.app (L' := [(.slice ax xl.length cxx, xl)]) (rv' := v') (World.grownBy_alloc _ _ none) own' gr' hox.out h8.out hap.out; have c' := bx'.cell; have f' := bx'.frozen; obtain ⟨a', k', e'⟩ := row_slice own'; subst e'; have AL' : Hid (Al w2.heap.size w19 (w'.setCell ⟨w19.heap.size, 0, none⟩ (.slice a' (L.length + 1) k')) (.slice a' (L.length + 1) k') (L ++ [(.slice ax xl.length cxx, xl)])) := al'; have KO' : Hid (KeepsOthers W (w'.setCell ⟨w19.heap.size, 0, none⟩ (.slice a' (L.length + 1) k'))) := ko'; have BE' : Hid (Below w19.heap.size W (w'.setCell ⟨w19.heap.size, 0, none⟩ (.slice a' (L.length + 1) k'))) := be'; clear al' bx' own' gr' hn' ko' be')
    exact ⟨KO'.out, Mid.of_below BE'.out s119, _, _, AL'.out, by rw [List.length_append, List.length_append, HLEN.out]; simp; omega⟩
  case done =>
    rintro D ys W25 hD hS ⟨rv1, L1, al25, hlen1⟩ hK25
    have hyl : ys.length ≤ 2097152 := by
      have := congrArg List.length hS
      simp only [List.length_map] at this
      omega
    have hN1 : L1.length ≤ 2097200 := by omega
    have A25 : Hid (Al w2.heap.size w19 W25 rv1 L1) := al25
    have M25 : Mid w10.heap.size w11.heap.size w11 W25 := MSA.out W25 al25.bel
    have s25 : w19.heap.size + 1 ≤ W25.heap.size := al25.box.lt
    have hDW : D < W25.heap.size := (Array.getElem?_eq_some_iff.1 hK25).1
    obtain ⟨n1, hn1⟩ : ∃ n1, L1.length = n1 := ⟨_, rfl⟩
    rw [hn1] at hN1
    clear al25 hlen1 hyl A23 M24 hLL
    go_wp2
    refine (wpIn_wide (n := 12)).1 ?_
    refine' wpIn_rangeW rfl (by omega) (gf := gf) (lb := lb) rfl trivial HEG.out (HSEQ.out (12 - 1) (by omega)) Mid.trans (midK_b (by omega)) (fun W o h => h.alloc (Nat.le_refl _) o) M25 (fun _ => rfl)
      (fun pre W => (∃ (rv : Value) (L : List Lst), Al w2.heap.size w19 W rv L ∧ L.length = n1 + pre.length) ∧ W.heap[D]? = some (.deferred (some [])))
      (fun c pre W => False)
      (fun s X Y row h hg hr => by obtain ⟨⟨rv, L, al, hl⟩, hm⟩ := h; exact ⟨⟨rv, L, Al.from (by omega) () X Y row al hg hr, hl⟩, ownFrom_mark hDW () X Y row hm hg hr⟩)
      (fun c s A B row hs hg hr => hs)
      (fun m pre => VV_from _ _ _ pre)
      ⟨⟨_, _, A25.out, by rw [hn1]; rfl⟩, hK25⟩
      _ ?assign2 ?body2 ?done2 ?stop2
    case assign2 =>
      intro l x W K hK
      gi_wp2
      exact hK
    case body2 =>
      clear hn1
      rintro l' pre ⟨xv, xs, xl⟩ W0 W ⟨⟨rv, L, al0, hlen⟩, hmk⟩ hsz hZ ⟨hpx, ho, hxl⟩
      dsimp only at ho hxl
      have al := hZ (fun W => Al w2.heap.size w19 W rv L) (Al.from (by omega)) al0
      have HMK : Hid (W.heap[D]? = some (.deferred (some []))) := hZ (fun W => W.heap[D]? = some (.deferred (some []))) (ownFrom_mark hDW) hmk
      have hpl : pre.length + 1 ≤ 2097152 := by
        have := hpx.length_le
        simp only [List.map_append, List.length_append, List.length_map, List.map_cons, List.map_nil, List.length_cons, List.length_nil] at this
        omega
      have hap : Hid (ApartL (L ++ [(xs, xl)])) := al0.ap.snoc al0.own ho
      have hox : Hid (∀ x ∈ [((xs, xl) : Lst)], Own w2.heap.size W x.1 x.2) := fun x hx => by
        simp only [List.mem_singleton] at hx
        subst hx
        exact ho.mono (by omega)
      have h8 : Hid (∀ x ∈ [((xs, xl) : Lst)], x.2.length * 8 ≤ 140737488353280) := fun x hx => by
        simp only [List.mem_singleton] at hx
        subst hx
        show xl.length * 8 ≤ _
        omega
      obtain ⟨ax, cxx, ex⟩ := own_slice ho
      subst ex
      obtain ⟨ar, cr, er⟩ := row_slice al.row
      subst er
      have cb := al.box.cell
      have AL : Hid (Al w2.heap.size w19 W (.slice ar L.length cr) L) := al
      have RL : Hid ((W.alloc (.cells #[.slice ax xl.length cxx] 25)).ownsRow (w19.heap.size + 1) 25 1 (.slice ar L.length cr) L.length (L.map Prod.fst)) := World.ownsRow.alloc al.row _
      have sW : w19.heap.size + 1 ≤ W.heap.size := al.box.lt
      have HLEN : Hid (L.length = n1 + pre.length) := hlen
      have hLb : L.length ≤ 4194400 := by omega
      clear al al0 ho hpx hZ hlen hpl hmk
      gi_wp2_with (gi_at_builtin; refine wpListIn_append_own _ rfl _ _ 43 rfl (w19.heap.size + 1) 25 iL (.slice none 0 0) 1 24 Try.underlying43 hiL hL0 hL1 hL2 rfl (by decide) _ L.length (L.map Prod.fst) rfl RL.out ⟨W.heap.size, 0, none⟩ 1 1 [.slice ax xl.length cxx] rfl rfl (cell_one_new _ _ _) (by simp [Value.oneCell']) (by unfold maxLen; omega) (by omega) (by simp; omega) ?_; intro v' w' own' gr' hn'; obtain ⟨bx', al', ko', be'⟩ := AL.out.app (L' := [(.slice ax xl.length cxx, xl)]) (rv' := v') (World.grownBy_alloc _ _ none) own' gr' hox.out h8.out hap.out; have c' := bx'.cell; have f' := bx'.frozen; obtain ⟨a', k', e'⟩ := row_slice own'; subst e'; have AL' : Hid (Al w2.heap.size w19 (w'.setCell ⟨w19.heap.size, 0, none⟩ (.slice a' (L.length + 1) k')) (.slice a' (L.length + 1) k') (L ++ [(.slice ax xl.length cxx, xl)])) := al'; have KO' : Hid (KeepsOthers W (w'.setCell ⟨w19.heap.size, 0, none⟩ (.slice a' (L.length + 1) k'))) := ko'; have BE' : Hid (Below w19.heap.size W (w'.setCell ⟨w19.heap.size, 0, none⟩ (.slice a' (L.length + 1) k'))) := be'; clear al' bx' own' gr' hn' ko' be')
      exact ⟨KO'.out, Mid.of_below BE'.out s119, ⟨_, _, AL'.out, by rw [List.length_append, List.length_append, HLEN.out]; simp; omega⟩, KO'.out.same D _ HMK.out rfl⟩
    case done2 =>
      clear hn1
      rintro D2 ys2 W26 hD2 hS2 ⟨⟨rv2, L2, al26, hlen2⟩, hKD⟩ hK26
      have hyl : ys2.length ≤ 2097152 := by
        have := congrArg List.length hS2
        simp only [List.length_map] at this
        omega
      have hN2 : L2.length ≤ 4194400 := by omega
      have alm := al26.mono (show w.heap.size ≤ w2.heap.size by omega)
      have hap2 : ApartL [((.slice (some ⟨gx, 0, none⟩) (z0.length + 64) cx, Z0) : Lst), (.slice (some ⟨gy, 0, none⟩) (z1.length + 64) cy, Z1)] := by
        refine List.Pairwise.cons (fun y hy => ?_) (List.pairwise_singleton _ _)
        simp only [List.mem_singleton] at hy
        subst hy
        exact .inr (fun e => by
          have e' : gx = gy := by simpa [Value.ownBlock] using e
          omega)
      have HAP : Hid (ApartL (L2 ++ [(.slice (some ⟨gx, 0, none⟩) (z0.length + 64) cx, Z0), (.slice (some ⟨gy, 0, none⟩) (z1.length + 64) cy, Z1)])) := al26.ap.ahead hap2 (s := w2.heap.size) (fun x hx b e => (World.ownsRow.lt (al26.own x hx) b e).1) (fun x hx b e => by
        simp only [List.mem_cons, List.not_mem_nil, or_false] at hx
        rcases hx with rfl | rfl
        · have e' : gx = b := by simpa [Value.ownBlock] using e
          omega
        · have e' : gy = b := by simpa [Value.ownBlock] using e
          omega)
      have HOW : Hid (∀ x ∈ [((.slice (some ⟨gx, 0, none⟩) (z0.length + 64) cx, Z0) : Lst), (.slice (some ⟨gy, 0, none⟩) (z1.length + 64) cy, Z1)], Own w.heap.size W26 x.1 x.2) := fun x hx => by
        simp only [List.mem_cons, List.not_mem_nil, or_false] at hx
        rcases hx with rfl | rfl
        · exact OXA.out W26 al26.bel
        · exact (OYA.out W26 al26.bel).mono s01
      have H8 : Hid (∀ x ∈ [((.slice (some ⟨gx, 0, none⟩) (z0.length + 64) cx, Z0) : Lst), (.slice (some ⟨gy, 0, none⟩) (z1.length + 64) cy, Z1)], x.2.length * 8 ≤ 140737488353280) := fun x hx => by
        simp only [List.mem_cons, List.not_mem_nil, or_false] at hx
        rcases hx with rfl | rfl
        · show Z0.length * 8 ≤ _; omega
        · show Z1.length * 8 ≤ _; omega
      obtain ⟨ar, cr, er⟩ := row_slice al26.row
      subst er
      have cb := al26.box.cell
      have AL : Hid (Al w.heap.size w19 W26 (.slice ar L2.length cr) L2) := alm
      have RL : Hid ((W26.alloc (.cells #[.slice (some ⟨gx, 0, none⟩) (z0.length + 64) cx, .slice (some ⟨gy, 0, none⟩) (z1.length + 64) cy] 25)).ownsRow (w19.heap.size + 1) 25 1 (.slice ar L2.length cr) L2.length (L2.map Prod.fst)) := World.ownsRow.alloc al26.row _
      have sW : w19.heap.size + 1 ≤ W26.heap.size := al26.box.lt
      have swA : w.heap.size ≤ w19.heap.size := by omega
      have B26 : Hid (Below w19.heap.size w19 W26) := al26.bel
      clear al26 alm hap2 hlen2 hyl
      go_upto_region 34 with (at_builtin; refine wpList_append_own _ rfl _ _ 43 rfl (w19.heap.size + 1) 25 iL (.slice none 0 0) 1 24 Try.underlying43 hiL hL0 hL1 hL2 rfl (by decide) _ L2.length (L2.map Prod.fst) rfl RL.out ⟨W26.heap.size, 0, none⟩ 2 2 [.slice (some ⟨gx, 0, none⟩) (z0.length + 64) cx, .slice (some ⟨gy, 0, none⟩) (z1.length + 64) cy] rfl rfl (cell_two_new _ _ _ _) (by simp [Value.oneCell']) (by unfold maxLen; omega) (by omega) (by simp; omega) ?_; intro v' w' own' gr' hn'; obtain ⟨bx', al', ko', be'⟩ := AL.out.app (L' := [(.slice (some ⟨gx, 0, none⟩) (z0.length + 64) cx, Z0), (.slice (some ⟨gy, 0, none⟩) (z1.length + 64) cy, Z1)]) (rv' := v') (World.grownBy_alloc _ _ none) own' gr' HOW.out H8.out HAP.out; have c' := bx'.cell; have f' := bx'.frozen; obtain ⟨a', k', e'⟩ := row_slice own'; subst e'; have AL' : Hid (Al w.heap.size w19 (w'.setCell ⟨w19.heap.size, 0, none⟩ (.slice a' (L2.length + 2) k')) (.slice a' (L2.length + 2) k') (L2 ++ [(.slice (some ⟨gx, 0, none⟩) (z0.length + 64) cx, Z0), (.slice (some ⟨gy, 0, none⟩) (z1.length + 64) cy, Z1)])) := al'; have KO' : Hid (KeepsOthers W26 (w'.setCell ⟨w19.heap.size, 0, none⟩ (.slice a' (L2.length + 2) k'))) := ko'; clear al' bx' own' gr' hn' ko' be')
      generalize (w'.setCell ⟨w19.heap.size, 0, none⟩ (.slice a' (L2.length + 2) k')) = W27 at *
      have c27 := AL'.out.box.cell
      have s27 : w19.heap.size ≤ W27.heap.size := AL'.out.bel.size
      have hK27 := KO'.out.same D2 _ hK26 rfl
      have hKD27 := KO'.out.same D _ hKD rfl
      have BW27 : Hid (Below w.heap.size w W27) := BWA.out.trans (AL'.out.bel.mono swA)
      clear cb
      go_wp2_with fail
      refine (AL'.out.apart (by omega) (by omega) (by rw [List.length_append]; simp only [List.length_cons, List.length_nil]; omega)).mono ?_
      rintro e w28 ⟨rfl, bel28, ko28⟩
      have hK28 := ko28.same D2 _ hK27 rfl
      have hKD28 := ko28.same D _ hKD27 rfl
      have BW28 : Hid (Below w.heap.size w w28) := BW27.out.trans bel28
      go_wp2_with fail
      refine (has_any _ [4, 2] 2 _ (rd42 w28)).mono ?_
      rintro e wx ⟨rfl, hwx⟩
      rw [hwx, show (fmd 2 && [4, 2].contains (2 : Int)) = true from by decide]
      clear hwx wx
      go_wp2
      have hK29 := (KeepsOthers.alloc w28 (.cells #[.int .i64 4, .int .i64 2] 3)).same D2 _ hK28 rfl
      have hKD29 := (KeepsOthers.alloc w28 (.cells #[.int .i64 4, .int .i64 2] 3)).same D _ hKD28 rfl
      have hDD : D ≠ D2 := by omega
      refine ⟨by simp, .inl ⟨_, _, rfl, run_takeDeferred hK29, ?_⟩⟩
      have hKD30 := (World.putObj_heap_other (w := w28.alloc (.cells #[.int .i64 4, .int .i64 2] 3)) (o := .deferred none) hDD).trans hKD29
      refine ⟨by simp, .inl ⟨_, _, rfl, run_takeDeferred hKD30, ?_⟩⟩
      have bb : Below w.heap.size w (w28.alloc (.cells #[.int .i64 4, .int .i64 2] 3)) := BW28.out.alloc BW28.out.size _
      refine ⟨.bool true, by simp [results, Try.f7, go_sem], rfl, (bb.trans (belowK_b (w := w) (Nat.le_refl _) _ D2 _ _ (by omega) hK29 rfl rfl)).trans (belowK_b (w := w) (Nat.le_refl _) _ D _ _ (by omega) hKD30 rfl rfl)⟩
    case stop2 =>
      rintro D c pre W hD hSp h hK
      exact h.elim
  case stop =>
    rintro D c pre W hD hSp h hK
    exact h.elim

end Go.Proofs.Ythplkllphpnaoab
