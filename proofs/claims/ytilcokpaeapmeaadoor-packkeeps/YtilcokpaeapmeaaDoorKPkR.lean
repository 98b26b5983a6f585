/-
  The document's Number and Take; copied and same of the statements, walked; append of a slice that is read.
  KEEP: len below nil form rd mono
-/
import Derived.Test.YtilcokpaeapmeaaDoorJPkN
import Derived.Test.YtilcokpaeapmeaaDoorJForms
import Derived.Laws.OwnMore
import Derived.Maps.AppendAt
set_option linter.unusedSimpArgs false
set_option linter.unusedVariables false
namespace Go.Proofs.YtilcokpaeapmeaaDoor
open Go Go.RowKit

/-- append of what a slice of bytes reads onto a row of the call's own -/
theorem wpList_append_y {w : World} {ops : Array Oper} {rest : List Oper} {o : Oper} {a : Act} {Q : Exit → Act → World → Prop} (hgd : o.guard = none) (s x : Operand)
    (ho : o.op = .call { callee := .builtin .append, args := #[s, x], argTypes := #[44, 44] }) (B : Nat) (v : Value) (T : List UInt8) (hs : a.eval s = v) (hown : OwnT B w v T)
    (xv : Value) (D : List UInt8) (hx : a.eval x = xv) (hr : RdY w xv D) (hb : T.length + D.length ≤ 140737488355328) (hbase : B ≤ w.heap.size)
    (h : ∀ v' w', OwnT B w' v' (T ++ D) → w.grownBy w' v.ownBlock → wpList Tryd.prog ops Q rest (a.put o.dst v') w') : wpList Tryd.prog ops Q (o :: rest) a w := by
  obtain ⟨i0, hi, hz0, hz1, hz2⟩ := info_parts infoY
  obtain ⟨h1, ad, c, rfl, hc, hm, hn, h2⟩ := hr
  cases ad with
  | none =>
    have hc0 := hn rfl
    have hD : D = [] := List.length_eq_zero_iff.1 (by omega)
    subst hD
    subst hc0
    have hrun := run_append_owned_none (P := Tryd.prog) (w := w) B 44 o.type 5 i0 1 Tryd.underlying44 hi v T.length _ hown
    refine wpList_plain hgd fun K hK => ?_
    unfold Oper.wp execOp
    simp only [ho, resolve, invoke, builtin, Sem.run_bind, Sem.run_pure, Result.andThen_ok, List.map_toArray, List.map_cons, List.map_nil, hs, hx, List.length_nil, hrun]
    refine hK _ _ (h _ _ (by rw [List.append_nil]; exact hown) ⟨rfl, rfl, rfl, Nat.le_refl _, fun _ _ _ => rfl⟩)
  | some ad =>
    have hnews : ∀ j u, (Lib.byteCells D)[j]? = some u → w.cell? (ad.add j) = some u := by
      by_cases hD : D = []
      · subst hD; intro j u hu; simp [Lib.byteCells] at hu
      · obtain ⟨b, off, e, hlt, hcell⟩ := h2 hD
        obtain rfl : ad = ⟨b, off, none⟩ := by simpa using e
        exact RdY.news (n := D.length) (c := c) ⟨h1, _, c, rfl, hc, hm, hn, h2⟩
    have hml : T.length + D.length ≤ maxLen := by unfold maxLen; omega
    refine wpList_append_own _ hgd s x 44 ho B 5 i0 (.int .u8 0) 1 1 Tryd.underlying44 hi hz0 hz1 hz2 rfl (by decide) v T.length (Lib.byteCells T) hs hown ad D.length c (Lib.byteCells D) hx (by simp [Lib.byteCells]) hnews (by simp [Lib.byteCells, Value.oneCell']) hml (by omega) hbase ?_
    intro v' w' q1 q2 _
    exact h v' w' (OwnT.more q1) q2
/-- the same of ints -/
theorem wpList_append_i {w : World} {ops : Array Oper} {rest : List Oper} {o : Oper} {a : Act} {Q : Exit → Act → World → Prop} (hgd : o.guard = none) (s x : Operand)
    (ho : o.op = .call { callee := .builtin .append, args := #[s, x], argTypes := #[58, 58] }) (B : Nat) (v : Value) (T : List Int) (hs : a.eval s = v) (hown : Own B w v T)
    (xv : Value) (D : List Int) (hx : a.eval x = xv) (hr : Rd w xv D) (hb : (T.length + D.length) * 8 ≤ 140737488355328) (hbase : B ≤ w.heap.size)
    (h : ∀ v' w', Own B w' v' (T ++ D) → w.grownBy w' v.ownBlock → wpList Tryd.prog ops Q rest (a.put o.dst v') w') : wpList Tryd.prog ops Q (o :: rest) a w := by
  obtain ⟨i0, hi, hz0, hz1, hz2⟩ := info_parts Tryd.info3
  obtain ⟨h1, ad, c, rfl, hc, hm, hn, h2⟩ := hr
  cases ad with
  | none =>
    have hc0 := hn rfl
    have hD : D = [] := List.length_eq_zero_iff.1 (by omega)
    subst hD
    subst hc0
    have hrun := run_append_owned_none (P := Tryd.prog) (w := w) B 58 o.type 3 i0 1 Tryd.underlying58 hi v T.length _ hown
    refine wpList_plain hgd fun K hK => ?_
    unfold Oper.wp execOp
    simp only [ho, resolve, invoke, builtin, Sem.run_bind, Sem.run_pure, Result.andThen_ok, List.map_toArray, List.map_cons, List.map_nil, hs, hx, List.length_nil, hrun]
    refine hK _ _ (h _ _ (by rw [List.append_nil]; exact hown) ⟨rfl, rfl, rfl, Nat.le_refl _, fun _ _ _ => rfl⟩)
  | some ad =>
    have hnews : ∀ j u, (D.map (Value.int .i64))[j]? = some u → w.cell? (ad.add j) = some u := by
      by_cases hD : D = []
      · subst hD; intro j u hu; simp at hu
      · obtain ⟨b, off, e, hlt, hcell⟩ := h2 hD
        obtain rfl : ad = ⟨b, off, none⟩ := by simpa using e
        intro j u hu
        have hj : j < D.length := by
          have := (List.getElem?_eq_some_iff.1 hu).1
          simpa using this
        have hadd : (⟨b, off, none⟩ : Addr).add j = ⟨b, off + j, none⟩ := by unfold Addr.add; split <;> simp_all
        rw [hadd, hcell j hj]
        simp [hj] at hu
        simp [List.getD_eq_getElem?_getD, hj, hu]
    have hml : T.length + D.length ≤ maxLen := by unfold maxLen; omega
    refine wpList_append_own _ hgd s x 58 ho B 3 i0 (.int .i64 0) 1 8 Tryd.underlying58 hi hz0 hz1 hz2 rfl (by decide) v T.length (T.map (Value.int .i64)) hs hown ad D.length c (D.map (Value.int .i64)) hx (by simp) hnews (by simp [Value.oneCell']) hml hb hbase ?_
    intro v' w' q1 q2 _
    exact h v' w' (by unfold Own; simpa using q1) q2

set_option maxHeartbeats 1600000 in
theorem copiedY_any (v : Value) (T : List UInt8) (w : World) (hr : RdY w v T) :
    Calls Tryd.prog 26 #[v] w fun e w' => ∃ u, e = .returned u ∧ OwnT w.heap.size w' u T ∧ Below w.heap.size w w' := by
  have hl := hr.len
  go_enter Tryd.func26, Tryd.ntmps26
  go_wp2_with (at_builtin; refine wpList_append_y rfl _ _ rfl w.heap.size _ [] rfl (OwnT.nil _ _) _ T rfl hr (by simp; omega) (Nat.le_refl _) ?_; intro v2 w2 own2 gr2)
  go_ret
  exact ⟨_, rfl, own2, (Below.refl _ _).grown gr2 (Nat.le_refl _) (fun k hk => by cases hk)⟩

set_option maxHeartbeats 3200000 in
theorem sameY_any (va vb : Value) (a b : List UInt8) (w : World) (ha : RdY w va a) (hb : RdY w vb b) :
    Calls Tryd.prog 27 #[va, vb] w fun e w' => e = .returned (.bool (a == b)) ∧ Below w.heap.size w w' := by
  have hla := ha.len
  have hlb := hb.len
  obtain ⟨aa, ca, rfl, hca, hma, hcella⟩ := ha.form
  obtain ⟨ab, cb, rfl, hcb, hmb, hcellb⟩ := hb.form
  by_cases hne : a.length = b.length
  case neg =>
    have HE : Hid ((a == b) = false) := beq_no_len hne
    have hd : ((a.length : Int) == (b.length : Int)) = false := beq_eq_false_iff_ne.2 (by omega)
    clear hcella hcellb ha hb
    go_enter Tryd.func27, Tryd.ntmps27
    go_wp2
    go_ret
    exact ⟨ret_bool HE.out.symm, Below.refl _ _⟩
  have HA : Hid (∀ k, k < a.length → ∃ b off, aa = some ⟨b, off, none⟩ ∧ b < w.heap.size ∧ w.cell? ⟨b, off + k, none⟩ = some (.int .u8 (a.getD k 0).toNat)) := hcella
  have HB : Hid (∀ k, k < b.length → ∃ b' off, ab = some ⟨b', off, none⟩ ∧ b' < w.heap.size ∧ w.cell? ⟨b', off + k, none⟩ = some (.int .u8 (b.getD k 0).toNat)) := hcellb
  have HN : Hid (a.length = b.length) := hne
  have hd : ((a.length : Int) == (b.length : Int)) = true := beq_iff_eq.2 (by omega)
  clear hcella hcellb ha hb hne
  go_enter Tryd.func27, Tryd.ntmps27
  go_wp2
  go_loopg [5] a.length (fun g i wr => ∃ k : Nat, k + g = a.length ∧ i = .int .i64 k ∧ a.take k = b.take k ∧ Below w.heap.size w wr ∧ wr.heap = w.heap)
  case atStart => exact ⟨0, by omega, rfl, by simp, Below.refl _ _, rfl⟩
  case round =>
    obtain ⟨k, hk, rfl, hpre, bel, hheap⟩ := hrel
    have HK : Hid (k + gk = a.length) := hk
    have HP : Hid (a.take k = b.take k) := hpre
    have HB1 : Hid (Below w.heap.size w wr) := bel
    clear hpre
    by_cases hlt : k < a.length
    · obtain ⟨b1, o1, rfl, _, ck1⟩ := HA.out k hlt
      obtain ⟨b2, o2, rfl, _, ck2⟩ := HB.out k (by have := HN.out; omega)
      have hc1 : wr.cell? ⟨b1, o1 + k, none⟩ = some (.int .u8 (a.getD k 0).toNat) := by rw [← ck1]; unfold World.cell?; rw [hheap]
      have hc2 : wr.cell? ⟨b2, o2 + k, none⟩ = some (.int .u8 (b.getD k 0).toNat) := by rw [← ck2]; unfold World.cell?; rw [hheap]
      have HS : Hid (a.getD k 0 = b.getD k 0 → a.take (k + 1) = b.take (k + 1)) := fun h => take_eq_more hlt (by have := HN.out; omega) HP.out h
      have HF : Hid (a.getD k 0 ≠ b.getD k 0 → (a == b) = false) := fun h => beq_no_at (d := 0) h
      have hlt2 : k < b.length := by have := HN.out; omega
      have HH : Hid (wr.heap = w.heap) := hheap
      clear hk ck1 ck2 bel hheap
      generalize a.getD k 0 = x at *
      generalize b.getD k 0 = y at *
      have hxl : x.toNat < 256 := x.toNat_lt
      have hyl : y.toNat < 256 := y.toNat_lt
      by_cases he : x = y
      · subst he
        have HS2 := HS.out rfl
        have hxx : ((x.toNat : Int) == (x.toNat : Int)) = true := beq_self_eq_true _
        have HS3 : Hid (a.take (k + 1) = b.take (k + 1)) := HS2
        clear HS HF HS2
        go_wp2_with fail
        go_quiet (fail)
        go_wp2
        go_roundg (gk - 1)
        case measure => have := HK.out; omega
        case rel => exact ⟨k + 1, by have := HK.out; omega, by go_num, HS3.out, Below.step HB1.out (below_drewN _ _), HH.out⟩
      · have hxy : ((x.toNat : Int) == (y.toNat : Int)) = false := beq_eq_false_iff_ne.2 (fun e => he (UInt8.toNat_inj.1 (by omega)))
        have HE : Hid ((a == b) = false) := HF.out he
        clear HS HF
        go_wp2_with fail
        go_quiet (fail)
        go_wp2
        go_ret
        exact ⟨ret_bool HE.out.symm, Below.step HB1.out (below_drewN _ _)⟩
    · obtain rfl : k = a.length := by omega
      have HE : Hid ((a == b) = true) := by
        show _ = _
        have := HP.out
        rw [List.take_length, HN.out, List.take_length] at this
        subst this; simp
      clear hk
      go_wp2
      go_ret
      exact ⟨ret_bool HE.out.symm, HB1.out⟩

end Go.Proofs.YtilcokpaeapmeaaDoor
