/-
  slices.Grow of nothing and slices.Concat of two lists of lists, walked.
-/
import Derived.Test.YtbnnoajpmmbpbaaConcat
import Derived.Test.YtbnnoajpmmbpbaaShelfG
set_option linter.unusedSimpArgs false
set_option linter.unusedVariables false
namespace Go.Proofs.Ytbnnoajpmmbpbaa
open Go.RowKit

theorem grow_any (x : Int) (q : Nat) (hx : x = (q : Int)) (w : World) (hq : q * 24 ≤ 140737488355328) :
    Calls Try.prog 36 #[.slice none 0 0, .int .i64 x] w fun e w' => ∃ v, e = .returned v ∧ w'.ownsRow w.heap.size 39 1 v 0 [] ∧ Below w.heap.size w w' := by
  subst hx
  obtain ⟨il, hil, hzl0, hzl1, hzl2⟩ := info_parts infoR
  by_cases h0 : q = 0
  · subst h0
    refine (Any8.slices_Grow_room Try.growR none 0 0 0 w (Nat.le_refl _) (by omega) (by omega) (by omega)).mono ?_
    rintro e w' ⟨rfl, rfl⟩
    exact ⟨_, rfl, World.ownsRow_nil _ _ _ _, Below.refl _ _⟩
  · refine (Any8.slices_Grow_grow Try.growR il (.slice none 0 0) hil hzl0 (by omega) none 0 0 q [] w (Nat.le_refl _) (by omega) (by rw [hzl2]; omega) (by omega) (by simp) (fun _ => rfl) (fun a h => by cases h)).mono ?_
    rintro e w' ⟨rfl, rfl⟩
    have h1 := grownCap_ge w (0 + q) 0 (Try.growR_ren.t 25)
    have h2 := grownCap_le_maxLen w (0 + q) 0 (Try.growR_ren.t 25) (by unfold maxLen; omega)
    refine ⟨_, rfl, ⟨by simp, .inr ⟨w.heap.size, _, _, rfl, Nat.le_refl _, heap_alloc_new w.drew _, Nat.zero_le _, h2, ?_, by simp⟩⟩, ((Below.refl _ w).drew).alloc (Nat.le_refl _) _⟩
    simp only [Array.size_append, size_zeroCells, Value.cells]
    simp at h1 ⊢
    omega

section
variable {P : Program} {w : World}
/-- append of a list of lists, nil or not, onto a row of the call's own -/
theorem wpList_append_src {ops : Array Oper} {rest : List Oper} {o : Oper} {a : Act} {Q : Exit → Act → World → Prop} (hgd : o.guard = none) (s x : Operand) (t : TypeId)
    (ho : o.op = .call { callee := .builtin .append, args := #[s, x], argTypes := #[t, t] })
    (base : Nat) (e : TypeId) (i : TypeInfo) (z : Value) (bytes : Nat) (ht : P.underlying t = some (.slice e)) (hi : P.info? e = some i) (hz : i.zero = some z)
    (hsize : i.size = 1) (hby : i.bytes = bytes) (hzs : z.cells.size = 1)
    (v : Value) (n : Nat) (xs : List Value) (hs : a.eval s = v) (hown : w.ownsRow base e 1 v n xs)
    (y : Value) (m : Nat) (news : List Value) (hx : a.eval x = y) (hsrc : (y = .slice none 0 0 ∧ m = 0 ∧ news = []) ∨ ∃ ad c, y = .slice (some ad) m c ∧ news.length = m ∧ ∀ j u, news[j]? = some u → w.cell? (ad.add j) = some u) (h1 : ∀ u ∈ news, u.oneCell' = true)
    (h63 : n + m ≤ maxLen) (hbytes : (n + m) * bytes ≤ 140737488355328) (hbase : base ≤ w.heap.size)
    (h : ∀ v' w', w'.ownsRow base e 1 v' (n + m) (xs ++ news) → w.grownBy w' v.ownBlock → wpList P ops Q rest (a.put o.dst v') w') :
    wpList P ops Q (o :: rest) a w := by
  refine wpList_plain hgd fun K hK => ?_
  rcases hsrc with ⟨rfl, rfl, rfl⟩ | ⟨ad, c, rfl, hl, hnews⟩
  · have hr := run_append_owned_none (P := P) (w := w) base t o.type e i 1 ht hi v n xs hown
    unfold Oper.wp execOp
    simp only [ho, resolve, invoke, builtin, Sem.run_bind, Sem.run_pure, Result.andThen_ok, List.map_toArray, List.map_cons, List.map_nil, hs, hx, hr]
    exact hK _ _ (h v w (by simpa using hown) ⟨rfl, rfl, rfl, Nat.le_refl _, fun _ _ _ => rfl⟩)
  · obtain ⟨v', w', hr, h2, h3, _⟩ := run_append_own (P := P) w base t o.type e i z 1 bytes ht hi hz hsize hby hzs (by decide) v n xs hown ad m c news (by simpa using hl) hnews h1 h63 hbytes hbase
    unfold Oper.wp execOp
    simp only [ho, resolve, invoke, builtin, Sem.run_bind, Sem.run_pure, Result.andThen_ok, List.map_toArray, List.map_cons, List.map_nil, hs, hx, hr]
    exact hK _ _ (h v' w' h2 h3)
end

/-- the values of a list of lists -/
theorem Rds.vals {w : World} {s : Value} {css : List (List Int)} (h : Rds w s css) : ∃ vals : List Value, vals.length = css.length ∧ (∀ j, j < css.length → ∃ u, vals[j]? = some u ∧ Rd w u (css.getD j [])) ∧
    ((s = .slice none 0 0 ∧ css.length = 0 ∧ vals = []) ∨ ∃ ad c, s = .slice (some ad) css.length c ∧ vals.length = css.length ∧ ∀ j u, vals[j]? = some u → w.cell? (ad.add j) = some u) := by
  obtain ⟨_, a, c, rfl, hc, hm, hn, h2⟩ := h
  by_cases hz : css = []
  · subst hz
    refine ⟨[], rfl, fun j hj => by simp at hj, ?_⟩
    cases a with
    | none => exact .inl ⟨by rw [hn rfl]; rfl, rfl, rfl⟩
    | some ad => exact .inr ⟨ad, c, rfl, rfl, fun j u hj => by simp at hj⟩
  · obtain ⟨b, off, rfl, hlt, hcell⟩ := h2 hz
    refine ⟨(List.range css.length).map (fun j => (w.cell? ⟨b, off + j, none⟩).getD undef), by simp, fun j hj => ?_, .inr ⟨⟨b, off, none⟩, c, rfl, by simp, fun j u hj => ?_⟩⟩
    · obtain ⟨u, hu, hr⟩ := hcell j hj
      exact ⟨u, by simp [hj, hu], hr⟩
    · have hj' : j < css.length := by have := (List.getElem?_eq_some_iff.1 hj).1; simpa using this
      obtain ⟨u', hu, _⟩ := hcell j hj'
      rw [Addr.add_lit, hu]
      simp [hj', hu] at hj
      rw [hj]
theorem Rd.one {w : World} {u : Value} {zs : List Int} (h : Rd w u zs) : u.oneCell' = true := by
  obtain ⟨_, a, c, rfl, _⟩ := h; rfl

set_option maxHeartbeats 3200000 in
set_option maxRecDepth 100000 in
theorem concat_any (g : Nat) (a1 a2 : Option Addr) (k1 k2 : Nat) (va vb : List Value) (css dss : List (List Int)) (w : World) (C0 : Hid (w.cell? ⟨g, 0, none⟩ = some (.slice a1 css.length k1))) (C1 : Hid (w.cell? ⟨g, 1, none⟩ = some (.slice a2 dss.length k2)))
    (SA : Hid ((Value.slice a1 css.length k1 = .slice none 0 0 ∧ css.length = 0 ∧ va = []) ∨ ∃ ad c, Value.slice a1 css.length k1 = .slice (some ad) css.length c ∧ va.length = css.length ∧ ∀ j u, va[j]? = some u → w.cell? (ad.add j) = some u))
    (SB : Hid ((Value.slice a2 dss.length k2 = .slice none 0 0 ∧ dss.length = 0 ∧ vb = []) ∨ ∃ ad c, Value.slice a2 dss.length k2 = .slice (some ad) dss.length c ∧ vb.length = dss.length ∧ ∀ j u, vb[j]? = some u → w.cell? (ad.add j) = some u))
    (OA : Hid (∀ u ∈ va, u.oneCell' = true)) (OB : Hid (∀ u ∈ vb, u.oneCell' = true)) (hsum : (css.length + dss.length) * 24 ≤ 140737488351232) :
    Calls Try.prog 21 #[.slice (some ⟨g, 0, none⟩) 2 2] w fun e w' => ∃ v, e = .returned v ∧ w'.ownsRow w.heap.size 39 1 v (css.length + dss.length) (va ++ vb) ∧ Below w.heap.size w w' := by
  obtain ⟨il, hil, hzl0, hzl1, hzl2⟩ := info_parts infoR
  have c0 := C0.out
  have c1 := C1.out
  have n1 : ¬ ((css.length : Int) < 0) := by omega
  have n2 : ¬ ((css.length : Int) + (dss.length : Int) < 0) := by omega
  have n3 : wrap64 ((css.length : Int) + (dss.length : Int)) = (css.length : Int) + (dss.length : Int) := by unfold wrap64; omega
  go_enter Try.func21, Try.ntmps21
  go_wp2
  refine wp_loop_rounds 3 ?_
  rw [rounds_succ]
  go_wp2
  rw [rounds_succ]
  go_wp2
  rw [rounds_succ]
  go_wp2_with fail
  clear c0 c1
  refine (grow_any _ (css.length + dss.length) (by simp) w (by omega)).mono ?_
  rintro e w1 ⟨v1, rfl, own1, bel1⟩
  have c0 : w1.cell? ⟨g, 0, none⟩ = some (.slice a1 css.length k1) := (bel1.cell (p := ⟨g, 0, none⟩) (World.block_lt_of_cell? w _ C0.out)).trans C0.out
  have SA1 : Hid ((Value.slice a1 css.length k1 = .slice none 0 0 ∧ css.length = 0 ∧ va = []) ∨ ∃ ad c, Value.slice a1 css.length k1 = .slice (some ad) css.length c ∧ va.length = css.length ∧ ∀ j u, va[j]? = some u → w1.cell? (ad.add j) = some u) := by
    rcases SA.out with h | ⟨ad, c, h1, h2, h3⟩
    · exact .inl h
    · exact .inr ⟨ad, c, h1, h2, fun j u hj => (bel1.cell (p := ad.add j) (World.block_lt_of_cell? w _ (h3 j u hj))).trans (h3 j u hj)⟩
  have s1 := bel1.size
  go_wp2
  refine wp_loop_rounds 3 ?_
  rw [rounds_succ]
  go_wp2_with (at_builtin; refine wpList_append_src rfl _ _ 22 rfl w.heap.size 39 il (.slice none 0 0) 24 Try.underlying22 hil hzl0 hzl1 hzl2 rfl v1 0 [] rfl own1 _ css.length va rfl SA1.out OA.out (by unfold maxLen; omega) (by omega) s1 ?_; intro v2 w2 own2 gr2; refine Hid.out ?_)
  refine Lib.hid ?_
  have bel2 : Below w.heap.size w w2 := bel1.grown gr2 s1 (fun j hj => (World.ownsRow.lt own1 j hj).1)
  have s2 := bel2.size
  have c1 : w2.cell? ⟨g, 1, none⟩ = some (.slice a2 dss.length k2) := (bel2.cell (p := ⟨g, 1, none⟩) (World.block_lt_of_cell? w _ C1.out)).trans C1.out
  have SB2 : Hid ((Value.slice a2 dss.length k2 = .slice none 0 0 ∧ dss.length = 0 ∧ vb = []) ∨ ∃ ad c, Value.slice a2 dss.length k2 = .slice (some ad) dss.length c ∧ vb.length = dss.length ∧ ∀ j u, vb[j]? = some u → w2.cell? (ad.add j) = some u) := by
    rcases SB.out with h | ⟨ad, c, h1, h2, h3⟩
    · exact .inl h
    · exact .inr ⟨ad, c, h1, h2, fun j u hj => (bel2.cell (p := ad.add j) (World.block_lt_of_cell? w _ (h3 j u hj))).trans (h3 j u hj)⟩
  clear c0 gr2 own1 bel1
  go_wp2
  rw [rounds_succ]
  go_wp2_with (at_builtin; refine wpList_append_src rfl _ _ 22 rfl w.heap.size 39 il (.slice none 0 0) 24 Try.underlying22 hil hzl0 hzl1 hzl2 rfl v2 (0 + css.length) ([] ++ va) rfl own2 _ dss.length vb rfl SB2.out OB.out (by unfold maxLen; omega) (by omega) s2 ?_; intro v3 w3 own3 gr3; refine Hid.out ?_)
  refine Lib.hid ?_
  have bel3 : Below w.heap.size w w3 := bel2.grown gr3 s2 (fun j hj => (World.ownsRow.lt own2 j hj).1)
  clear c1 gr3 own2 bel2
  go_wp2
  rw [rounds_succ]
  go_wp2
  go_ret
  exact ⟨_, rfl, by simpa using own3, bel3⟩

end Go.Proofs.Ytbnnoajpmmbpbaa
