/-
  learn: parted.
  KEEP: len below nil form rd mono one more grown lt size cell some none of ofNat add out step row get at mk new made look put del kept drew alloc has same other map rde take lit lev lstB pre ws cells bnd on start app set box bel rz tidy ms reason c f
-/
import Derived.Test.YtkchabdlpeifjaaLnT
import Derived.Test.YtkchabdlpeifjaaLnV
import Derived.Test.YtkchabdlpeifjaaApp2
set_option linter.unusedSimpArgs false
set_option linter.unusedVariables false
namespace Go.Proofs.Ytkchabdlpeifjaa
open Go Go.RowKit
/-- the step of a range over a set of ints -/
theorem wpList_next_iu {w : World} {ops : Array Oper} {rest : List Oper} {o : Oper} {a : Act} {Q : Exit → Act → World → Prop} (hg : o.guard = none) (it : Operand) (hop : o.op = Op.next it false) (b r n : Nat) (D : DataW Unit) (left : Lit → Bool) (cnt : Nat)
    (hit : a.eval it = .pointer (some ⟨r, 0, none⟩)) (h : w.ranges Try.prog 3 unitElem b r n D left cnt)
    (hDone : cnt = 0 → (∀ kl, left kl = false) → wpList Try.prog ops Q rest (a.put o.dst (.tuple #[.bool false])) w)
    (hMore : ∀ (x : Int) (w' : World) (cnt' : Nat), left (.int .i64 x) = true → w'.ranges Try.prog 3 unitElem b r n D (fun z => left z && !z.sameKey (.int .i64 x)) cnt' → cnt' < cnt →
      w.grownBy w' (some r) → w'.heap.size = w.heap.size → (Instr.entry (.pointer (some ⟨r, 0, none⟩))).run Try.prog w' = .ok (.tuple #[.int .i64 x, .agg #[]]) w' → wpList Try.prog ops Q rest (a.put o.dst (.tuple #[.bool true, .int .i64 x, .agg #[]])) w') :
    wpList Try.prog ops Q (o :: rest) a w :=
  wpList_next_ranges w hg it hop 3 lawI unitElem (Value.int .i64) (fun _ : Unit => Value.agg #[]) (fun key kl hkey => by obtain ⟨x, rfl, _⟩ := Maps.keyOf_int_inv Try.underlying3 hkey; exact ⟨x, rfl⟩) (fun v y hv => ⟨(), (unitElem_inv hv).1⟩)
    b r n D left cnt hit h hDone (fun x c kl y w' cnt' hkey hlk hv hat hrg hlt hgr hsz hen => by
      obtain ⟨x', ex, rfl, hwx⟩ := Maps.keyOf_int_inv Try.underlying3 hkey
      cases ex
      exact hMore x w' cnt' hlk hrg hlt hgr hsz hen)
/-- the state of parted's loop: X the reading's box, X + 1 the range -/
structure PtL (w wr : World) (X : Nat) (a : Option Addr) (t : List Ent) (c g G n s : Nat) (L : Int) (T : Int → Bool) (D : DataW Unit) (left : Lit → Bool) (cnt : Nat) (u6 u8 : Value) (O C : List Int) : Prop where
  rg : wr.ranges Try.prog 3 unitElem G (X + 1) n D left cnt
  o6 : Own X wr u6 C
  o8 : Own X wr u8 O
  ap : u6.ownBlock = none ∨ u6.ownBlock ≠ u8.ownBlock
  off : u6.ownBlock ≠ some (X + 1) ∧ u8.ownBlock ≠ some (X + 1) ∧ u6.ownBlock ≠ some X ∧ u8.ownBlock ≠ some X
  box : Bx2 wr X 45 (.slice a t.length c) (.map (some g))
  bel : Below X w wr
  pr : Pr t L T (fun q => left (.int .i64 q)) O C
  len : O.length + cnt ≤ s
theorem own_one15 (w : World) (x : Int) : Own w.heap.size (w.alloc (.cells #[.int .i64 x] 3)) (.slice (some ⟨w.heap.size, 0, none⟩) 1 1) [x] :=
  ⟨by simp, .inr ⟨w.heap.size, 1, #[.int .i64 x], rfl, Nat.le_refl _, World.alloc_heap_new w _, Nat.le_refl _, by unfold maxLen; omega, by simp, by simp⟩⟩
section
variable {w wr w2 w3 : World} {X : Nat} {a : Option Addr} {t : List Ent} {c g G n s : Nat} {L : Int} {T : Int → Bool} {D : DataW Unit} {left left2 : Lit → Bool} {cnt cnt2 : Nat} {u6 u8 : Value} {O C : List Int}
/-- the range has gone on -/
theorem PtL.turn (h : PtL w wr X a t c g G n s L T D left cnt u6 u8 O C) (hg : wr.grownBy w2 (some (X + 1))) : Own X w2 u6 C ∧ Own X w2 u8 O ∧ Bx2 w2 X 45 (.slice a t.length c) (.map (some g)) ∧ Below X w w2 :=
  ⟨World.ownsRow.kept h.o6 hg (.inr h.off.1), World.ownsRow.kept h.o8 hg (.inr h.off.2.1), h.box.kept hg (by simp), h.bel.grown hg (Nat.le_of_lt h.box.lt) (fun j hj => by cases hj; omega)⟩
theorem PtL.same (h : PtL w wr X a t c g G n s L T D left cnt u6 u8 O C) (hg : wr.grownBy w2 (some (X + 1))) (hrg : w2.ranges Try.prog 3 unitElem G (X + 1) n D left2 cnt2) (hlt : cnt2 < cnt) (hp : Pr t L T (fun q => left2 (.int .i64 q)) O C) : PtL w w2 X a t c g G n s L T D left2 cnt2 u6 u8 O C := by
  obtain ⟨h1, h2, h3, h4⟩ := h.turn hg
  exact ⟨hrg, h1, h2, h.ap, h.off, h3, h4, hp, by have := h.len; omega⟩
theorem PtL.put1 (h : PtL w wr X a t c g G n s L T D left cnt u6 u8 O C) (hg : wr.grownBy w2 (some (X + 1))) (hrg : w2.ranges Try.prog 3 unitElem G (X + 1) n D left2 cnt2) (hlt : cnt2 < cnt) (x : Int) (hp : Pr t L T (fun q => left2 (.int .i64 q)) O [x]) : PtL w (w2.alloc (.cells #[.int .i64 x] 3)) X a t c g G n s L T D left2 cnt2 (.slice (some ⟨w2.heap.size, 0, none⟩) 1 1) u8 O [x] := by
  obtain ⟨h1, h2, h3, h4⟩ := h.turn hg
  have hb := below_box w2 (.cells #[.int .i64 x] 3)
  have hX : X < w2.heap.size := h3.lt
  have hX1 : X + 1 < w2.heap.size := hrg.lt
  refine ⟨hrg.alloc _, (own_one15 w2 x).mono (Nat.le_of_lt hX), h2.below hb, .inr ?_, ⟨?_, h.off.2.1, ?_, h.off.2.2.2⟩, h3.below hb, h4.trans (hb.mono (Nat.le_of_lt hX)), hp, by have := h.len; omega⟩
  · intro e
    have := (World.ownsRow.lt h2 w2.heap.size e.symm).2
    omega
  · simp [Value.ownBlock]; omega
  · simp [Value.ownBlock]; omega
theorem PtL.app (h : PtL w wr X a t c g G n s L T D left cnt u6 u8 O C) (hg : wr.grownBy w2 (some (X + 1))) (hrg : w2.ranges Try.prog 3 unitElem G (X + 1) n D left2 cnt2) (hGX : G < X) (hlt : cnt2 < cnt) (x : Int) {u8' : Value} (ho : Own X w3 u8' (O ++ [x])) (ha : Ap (w2.alloc (.cells #[.int .i64 x] 3)) u8 w3 u8') (hp : Pr t L T (fun q => left2 (.int .i64 q)) (O ++ [x]) C) : PtL w w3 X a t c g G n s L T D left2 cnt2 u6 u8' (O ++ [x]) C := by
  obtain ⟨h1, h2, h3, h4⟩ := h.turn hg
  have hb := below_box w2 (.cells #[.int .i64 x] 3)
  have hX : X < w2.heap.size := h3.lt
  have hX1 : X + 1 < w2.heap.size := hrg.lt
  have hsz : (w2.alloc (.cells #[.int .i64 x] 3)).heap.size = w2.heap.size + 1 := by simp
  have hne : ∀ k, some k ≠ u8.ownBlock ∨ X ≤ k := fun k => by
    by_cases e : some k = u8.ownBlock
    · exact .inr (World.ownsRow.lt h2 k e.symm).1
    · exact .inl e
  have off8 : ∀ k, k < w2.heap.size → u8.ownBlock ≠ some k → u8'.ownBlock ≠ some k := fun k hk hn e => by
    rcases ha.new with q | q
    · exact hn (by rw [← q]; exact e)
    · have := q k e; omega
  refine ⟨(hrg.alloc _).kept ha.grown (fun e => ?_) (fun e => h.off.2.1 e.symm), World.ownsRow.kept (h1.below hb) ha.grown h.ap, ho, ?_, ⟨h.off.1, off8 _ hX1 h.off.2.1, h.off.2.2.1, off8 _ hX h.off.2.2.2⟩, (h3.below hb).kept ha.grown (fun e => h.off.2.2.2 e.symm), (h4.trans (hb.mono (Nat.le_of_lt hX))).grown ha.grown (by omega) (fun k hk => (World.ownsRow.lt h2 k hk).1), hp, by have := h.len; simp; omega⟩
  · have := (World.ownsRow.lt h2 G e.symm).1
    omega
  · rcases h.ap with q | q
    · exact .inl q
    · cases e : u6.ownBlock with
      | none => exact .inl rfl
      | some k =>
        right
        have hk := (World.ownsRow.lt h1 k e).2
        exact fun e2 => off8 k hk (by rw [← e]; exact fun q2 => q q2.symm) e2.symm
end
theorem sameKey_int (q p : Int) : (Lit.int .i64 q).sameKey (.int .i64 p) = (q == p) := by
  unfold Lit.sameKey; rw [Bool.eq_iff_iff]; simp
set_option maxRecDepth 100000 in
set_option maxHeartbeats 3200000 in
theorem parted_any (w : World) (a : Option Addr) (t : List Ent) (c g G n s : Nat) (T : Int → Bool) (L : Int) (h : Rz w a t c g t) (hm : Ms w G n s T) (hiv : Iv t L t.length T) (hc1 : cn t L T t.length = 1) (hL : L ≠ 0) :
    Calls Try.prog 32 #[rV a t.length c g, .map (some G), .int .i64 L] w fun e w' => ∃ v', e = .returned (.tuple #[v', .int .i64 (topI t (othL t L T))]) ∧ Own w.heap.size w' v' (oneL t L T :: tid (othL t L T)) ∧ Below w.heap.size w w' := by
  have hbn := h.bnd
  have htl := h.ws.len
  obtain ⟨D, hown, htd, hsz, hhas⟩ := hm.fit hiv.bnd
  have hsN : s ≤ t.length := by rw [← hsz]; exact hown.size_le
  have hb1 := below_box w (.cells #[.slice a t.length c, .map (some g)] 45)
  obtain ⟨X, hX⟩ : ∃ X, w.heap.size = X := ⟨_, rfl⟩
  have hGX : G < X := by rw [← hX]; exact hm.lt
  have hX1 : (w.alloc (.cells #[.slice a t.length c, .map (some g)] 45)).heap.size = X + 1 := by simp [hX]
  have hown1 := hown.alloc (.cells #[.slice a t.length c, .map (some g)] 45)
  have HBx : Hid (Bx2 (w.alloc (.cells #[.slice a t.length c, .map (some g)] 45)) X 45 (.slice a t.length c) (.map (some g))) := by rw [← hX]; exact Bx2.new w _ _ _
  have HB1 : Hid (Below X w (w.alloc (.cells #[.slice a t.length c, .map (some g)] 45))) := by rw [← hX]; exact hb1
  have HRz : Hid (Rz w a t c g t) := h
  have HHas : Hid (∀ x, Maps.has D (.int .i64 x) = T x) := hhas
  have HSz : Hid (Maps.size D = s) := hsz
  have HIv : Hid (Iv t L t.length T) := hiv
  have HC1 : Hid (cn t L T t.length = 1) := hc1
  rw [hX]
  clear hm hhas hsz hb1 h htd hiv hc1
  obtain ⟨w1, hw1⟩ : ∃ w1, w.alloc (.cells #[.slice a t.length c, .map (some g)] 45) = w1 := ⟨_, rfl⟩
  rw [hw1] at hX1 hown1 HBx HB1
  go_enter Try.func32, Try.ntmps32
  go_wp2_with (first | (at_range; refine wpList_range_own _ rfl _ 57 rfl 3 69 lawI Try.underlying57 _ G t.length D rfl hown1 ?_; intro w0 hrg0 hg0 hs0) | go_in)
  go_frame
  rw [hX1] at hrg0 hs0 ⊢
  have HP0 : Hid (PtL w w0 X a t c g G t.length s L T D (Maps.has D) s (.slice none 0 0) (.slice none 0 0) [] []) := by
    refine ⟨by rw [← HSz.out]; exact hrg0, World.ownsRow_nil _ _ _ _, World.ownsRow_nil _ _ _ _, .inl rfl, ⟨by simp [Value.ownBlock], by simp [Value.ownBlock], by simp [Value.ownBlock], by simp [Value.ownBlock]⟩, HBx.out.kept hg0 (by simp), HB1.out.grown hg0 (by omega) (fun j hj => by cases hj), ?_, by simp⟩
    have e : (fun q => Maps.has D (.int .i64 q)) = T := by funext q; exact HHas.out q
    rw [e]; exact Pr.start t L T
  clear hrg0 hg0 hs0 hown1
  go_loopg [6, 8] s (fun g' u6 u8 wr => ∃ (left : Lit → Bool) (O C : List Int), Hid (PtL w wr X a t c g G t.length s L T D left g' u6 u8 O C))
  case atStart => exact ⟨_, _, _, HP0.out⟩
  case round =>
    obtain ⟨left, O, C, HP⟩ := hrel
    have hrg := HP.out.rg
    have hol := HP.out.len
    go_wp2_with (first | (at_next; refine wpList_next_iu rfl _ rfl G (X + 1) t.length D left _ rfl hrg ?_ ?_) | go_in)
    · intro hc0 hl0
      obtain ⟨hCe, hOe⟩ := HP.out.pr.fin HRz.out.ws (fun q => hl0 _) HC1.out
      subst hCe
      have HEt : Hid (tid O = tid (othL t L T)) := tid_congr fun x _ => hOe x
      have HEp : Hid (topI t O = topI t (othL t L T)) := topI_congr t hOe
      have hOf : ∀ x ∈ O, isF t x = true := fun x hx => by
        obtain ⟨q, q1, _, _, _, _, rfl⟩ := (HP.out.pr.inO x).1 hx
        exact (HRz.out.ws.opP_at q1).2.1
      have hO8 : O.length * 8 ≤ 140737488351232 := by omega
      have hXw := HP.out.box.lt
      have HSt : Hid (∀ W, Below wr.heap.size wr W → Below X w W ∧ Own X W u6 [oneL t L T] ∧ Rd W u8 O ∧ Rz W a t c g t ∧ W.cell? ⟨X, 0, none⟩ = some (.slice a t.length c) ∧ W.cell? ⟨X, 1, none⟩ = some (.map (some g)) ∧ X ≤ W.heap.size) := fun W hW => by
        have h1 : Below X w W := HP.out.bel.trans (hW.mono (Nat.le_of_lt hXw))
        have hbx := HP.out.box.below hW
        exact ⟨h1, HP.out.o6.below hW, (HP.out.o8.below hW).rd hO8, HRz.out.below (by rw [hX]; exact h1), hbx.c0, hbx.c1, Nat.le_of_lt hbx.lt⟩
      have HAp : Hid (∀ W W' v', Below wr.heap.size wr W → Ap W u6 W' v' → Below X w W' ∧ Rd W' u8 O ∧ Rz W' a t c g t ∧ W'.cell? ⟨X, 0, none⟩ = some (.slice a t.length c) ∧ W'.cell? ⟨X, 1, none⟩ = some (.map (some g))) := fun W W' v' hW hA => by
        obtain ⟨h1, h2, h3, h4, _⟩ := HSt.out W hW
        have hbx := (HP.out.box.below hW).kept hA.grown (fun e => HP.out.off.2.2.1 e.symm)
        have h5 : Below X w W' := h1.grown hA.grown (Nat.le_of_lt (HP.out.box.below hW).lt) (fun k hk => (World.ownsRow.lt h2 k hk).1)
        refine ⟨h5, Own.rd (World.ownsRow.kept (HP.out.o8.below hW) hA.grown ?_) hO8, HRz.out.below (by rw [hX]; exact h5), hbx.c0, hbx.c1⟩
        rcases HP.out.ap with q | q
        · rw [q]
          cases e : u8.ownBlock with
          | none => exact .inl rfl
          | some k => exact .inr (by simp)
        · exact .inr (fun e => q e.symm)
      have HTi : Hid (∀ W, Below wr.heap.size wr W → Calls Try.prog 51 #[u8] W fun e w' => ∃ v', e = .returned v' ∧ Own W.heap.size w' v' (tid O) ∧ Below W.heap.size W w') := fun W hW => tidy_any u8 O W (HSt.out W hW).2.2.1
      have HTp : Hid (∀ W, Rd W u8 O → Rz W a t c g t → Calls Try.prog 31 #[rV a t.length c g, u8] W fun e w' => e = .returned (.int .i64 (topI t O)) ∧ Below W.heap.size W w') := fun W q1 q2 => top_any W a t c g u8 O q2 q1 hOf
      have ht8 := tid8 O
      have htl2 := tid_len O
      obtain ⟨_, _, _, _, k0, k1, hXs⟩ := HSt.out wr (Below.refl _ _)
      clear hrg hol hl0 hOe hOf
      generalize topI t O = bk at *
      obtain ⟨on1, hon⟩ : ∃ on1, oneL t L T = on1 := ⟨_, rfl⟩
      have HOn : Hid (oneL t L T = on1) := hon
      rw [hon] at HSt
      clear hon
      generalize tid O = tO at *
      go_upto_region 11 with fail
      go_region_law (first
        | (go_simp; go_at_call 51; refine (HTi.out _ (Below.refl _ _).drew).mono ?_; rintro e wT ⟨vT, rfl, oT, bT⟩; have H1 : Hid (Own wr.heap.size wT vT tO ∧ Below wr.heap.size wr wT) := ⟨oT, Below.step (Below.refl _ _).drew bT⟩; obtain ⟨_, _, _, _, k2, k3, _⟩ := HSt.out wT (Below.step (Below.refl _ _).drew bT); clear oT bT; dsimp only)
        | (go_simp; go_at_call 31; first
            | (have hA := HA.out; refine (HTp.out _ hA.2.1 hA.2.2.1).mono ?_; rintro e wP ⟨rfl, bP⟩; have HF : Hid (Below X w wP ∧ Own X wP vA (on1 :: tO)) := ⟨Below.trans hA.1 (bP.mono (Nat.le_trans (Nat.le_of_eq hX.symm) hA.1.size)), hA.2.2.2.below bP⟩; clear hA bP; dsimp only)
            | (have h1 := H1.out; have hs := HSt.out _ h1.2; refine (HTp.out _ hs.2.2.1 hs.2.2.2.1).mono ?_; rintro e wP ⟨rfl, bP⟩; have H2 : Hid (Own wr.heap.size wP vT tO ∧ Below wr.heap.size wr wP) := ⟨h1.1.below bP, Below.step h1.2 bP⟩; clear h1 hs bP; dsimp only))
        | (first
            | (have h2 := H2.out; refine step_app_rd rfl (.tmp 41) (.tmp 43) rfl X u6 vT [on1] tO (by simp [Act.eval, Act.put]) (by simp [Act.eval, Act.put]) (HSt.out _ h2.2).2.1 (h2.1.rd ht8) (by simp; omega) (HSt.out _ h2.2).2.2.2.2.2.2 ?_; intro vA wA oA aA; have HF : Hid (Below X w wA ∧ Own X wA vA (on1 :: tO)) := ⟨(HAp.out _ _ _ h2.2 aA).1, oA⟩; clear h2 oA aA)
            | (have h1 := H1.out; refine step_app_rd rfl (.tmp 41) (.tmp 43) rfl X u6 vT [on1] tO (by simp [Act.eval, Act.put]) (by simp [Act.eval, Act.put]) (HSt.out _ h1.2).2.1 (h1.1.rd ht8) (by simp; omega) (HSt.out _ h1.2).2.2.2.2.2.2 ?_; intro vA wA oA aA; have HA : Hid (Below X w wA ∧ Rd wA u8 O ∧ Rz wA a t c g t ∧ Own X wA vA (on1 :: tO)) := ⟨(HAp.out _ _ _ h1.2 aA).1, (HAp.out _ _ _ h1.2 aA).2.1, (HAp.out _ _ _ h1.2 aA).2.2.1, oA⟩; obtain ⟨_, _, _, k4, k5⟩ := HAp.out _ _ _ h1.2 aA; clear h1 oA aA)))
      all_goals
        go_wp2_with fail
        go_ret2
        exact ⟨vA, by rw [← HEp.out]; rfl, by rw [← HEt.out, HOn.out]; exact HF.out.2, HF.out.1⟩
    · intro x w2 cnt2 hlx hrg2 hlt2 hg2 hs2 hen
      have hTx : T x = true := HP.out.pr.sub x hlx
      have hbx := HIv.out.bnd x hTx
      obtain ⟨p, rfl⟩ : ∃ p : Nat, x = (p : Int) := ⟨x.toNat, by omega⟩
      have hpl : p < t.length := by omega
      obtain ⟨t1, t2, t3, t4⟩ := HP.out.turn hg2
      have hz2 : Rz w2 a t c g t := HRz.out.below (by rw [hX]; exact t4)
      obtain ⟨b, off, u, rfl, hbl, c0, c1, c2, _⟩ := hz2.cells hpl
      have hfr := fmd_range (hz2.ws.lit hpl)
      have hwr : IntKind.i64.wrap (-(t.getD p e0).1) = opP t p := by unfold opP; rw [IntKind.wrap_i64]; omega
      have hneg : -(t.getD p e0).1 = opP t p := rfl
      have hl2 : ∀ q : Int, (fun q => (fun z => left z && !z.sameKey (.int .i64 (p : Int))) (.int .i64 q)) q = ((fun q => left (.int .i64 q)) q && q != (p : Int)) := fun q => by
        show (left _ && !(Lit.int .i64 q).sameKey (.int .i64 (p : Int))) = _
        rw [sameKey_int]; rfl
      have hlv : (t.getD p e0).2.1 = lvP t p := rfl
      rw [hlv] at c1
      have b0 := t3.c0
      have HG : Hid (w2.ranges Try.prog 3 unitElem G (X + 1) t.length D (fun z => left z && !z.sameKey (.int .i64 (p : Int))) cnt2 ∧ wr.grownBy w2 (some (X + 1))) := ⟨hrg2, hg2⟩
      have HO8 : Hid (Own X w2 u8 O) := t2
      have HX2 : Hid (X < w2.heap.size) := t3.lt
      obtain ⟨lt, hlt⟩ : ∃ lt, (t.getD p e0).1 = lt := ⟨_, rfl⟩
      rw [hlt] at c0 hfr hwr hneg
      have hwr64 : wrap64 (-lt) = opP t p := by rw [← hneg]; unfold wrap64; omega
      clear c2 hz2 t1 t2 t3 t4 hrg hrg2 hg2 hs2 hlv hTx hbx hlt
      by_cases h0 : lvP t p = 0
      · have HQ : Hid (PtL w w2 X (some ⟨b, off, none⟩) t c g G t.length s L T D (fun z => left z && !z.sameKey (.int .i64 (p : Int))) cnt2 u6 u8 O C) := HP.out.same HG.out.2 HG.out.1 hlt2 (HP.out.pr.zero hl2 hlx h0 hL)
        rw [h0] at c1
        clear hl2 h0
        go_wp2_with fail
        go_roundg cnt2
        case measure => exact hlt2
        case rel => exact ⟨_, _, _, HQ.out⟩
      by_cases h1 : lvP t p = L
      · have HQ : Hid (PtL w (w2.alloc (.cells #[.int .i64 (opP t p)] 3)) X (some ⟨b, off, none⟩) t c g G t.length s L T D (fun z => left z && !z.sameKey (.int .i64 (p : Int))) cnt2 (.slice (some ⟨w2.heap.size, 0, none⟩) 1 1) u8 O [opP t p]) := HP.out.put1 HG.out.2 HG.out.1 hlt2 _ (HP.out.pr.one hl2 hlx hpl h1 HC1.out)
        rw [h1] at c1
        have hLb : (L == 0) = false := by simpa using hL
        clear hl2 h0 h1
        generalize opP t p = xp at *
        go_wp2_with fail
        go_roundg cnt2
        case measure => exact hlt2
        case rel => exact ⟨_, _, _, HQ.out⟩
      · have HQ : Hid (∀ w3 u8', Own X w3 u8' (O ++ [opP t p]) → Ap (w2.alloc (.cells #[.int .i64 (opP t p)] 3)) u8 w3 u8' → PtL w w3 X (some ⟨b, off, none⟩) t c g G t.length s L T D (fun z => left z && !z.sameKey (.int .i64 (p : Int))) cnt2 u6 u8' (O ++ [opP t p]) C) := fun w3 u8' q1 q2 => HP.out.app HG.out.2 HG.out.1 hGX hlt2 _ q1 q2 (HP.out.pr.other hl2 hlx hpl h0 h1)
        have h0b : (lvP t p == 0) = false := by simpa using h0
        have h1b : (lvP t p == L) = false := by simpa using h1
        clear hl2 h0 h1
        generalize opP t p = xp at *
        generalize lvP t p = lp at *
        have HR1 : Hid (Rd (w2.alloc (.cells #[.int .i64 xp] 3)) (.slice (some ⟨w2.heap.size, 0, none⟩) 1 1) [xp]) := (own_one15 w2 xp).rd (by simp)
        go_wp2_with (first | (at_builtin; refine wpList_app_rd rfl _ _ rfl X u8 (.slice (some ⟨w2.heap.size, 0, none⟩) 1 1) O [xp] rfl rfl (HO8.out.below (below_box _ _)) HR1.out (by simp; omega) (by have := HX2.out; simp; omega) ?_; intro v7 w7 own7 ap7; have H7 := HQ.out w7 v7 own7 ap7; have HH7 : Hid (PtL w w7 X (some ⟨b, off, none⟩) t c g G t.length s L T D (fun z => left z && !z.sameKey (.int .i64 (p : Int))) cnt2 u6 v7 (O ++ [xp]) C) := H7; clear own7 ap7 H7) | go_in)
        go_roundg cnt2
        case measure => exact hlt2
        case rel => exact ⟨_, _, _, HH7.out⟩
end Go.Proofs.Ytkchabdlpeifjaa
