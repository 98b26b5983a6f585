/-
  append of relations that are read; the laws' copied, copies, flat, walked.
  KEEP: off c0 c1 c2 c3 c4 s0 s1 s2 s3 s4 newS rds lt f t q x len below nil form rd mono rdz on app start at new trans refl kept own row ap out step each grown block Ap blw put22 OwnR OwnRs St22 done lk22 st22 below22 at22 RdR RdRs rd22 mono
-/
import Derived.Test.YtmfcaoacklbkoaaDoorRlY
import Derived.Test.YtmfcaoacklbkoaaDoorRlK
import Derived.Test.YtmfcaoacklbkoaaDoorRmC
set_option linter.unusedSimpArgs false
set_option linter.unusedVariables false
namespace Go.Proofs.YtmfcaoacklbkoaaDoor
open Go Go.RowKit

theorem app_none22 {P : Program} (w : World) (base : Nat) (t ty e : TypeId) (i : TypeInfo) (size c : Nat) (ht : P.underlying t = some (.slice e)) (hi : P.info? e = some i)
    (v : Value) (n : Nat) (xs : List Value) (hown : w.ownsRow base e size v n xs) : (Builtin.append_ #[t, t] ty #[v, .slice none 0 c]).run P w = .ok v w := by
  rcases hown.2 with ⟨rfl, rfl⟩ | ⟨g, cap, cur, rfl, _, _, hnc, _⟩
  · simp [Builtin.append_, run_underlying ht, sizeOf, typeInfo, hi, Builtin.lenOf, Builtin.firstCells]
  · simp [Builtin.append_, run_underlying ht, sizeOf, typeInfo, hi, Builtin.lenOf, Builtin.firstCells, hnc, storeCells]
theorem relC_app (A B : List Rl) : relC (A ++ B) = relC A ++ relC B := by simp [relC]
/-- append of relations that are read onto a row of the call's own -/
theorem run_append_r22 (w : World) (B : Nat) (ty : TypeId) (s xv : Value) (N rs : List Rl) (ho : OwnR B w s N) (hr : RdR w xv rs) (hB : B ≤ w.heap.size) (hb : (N.length + rs.length) * 40 ≤ 140737488355328) :
    ∃ v' w', (Builtin.append_ #[26, 26] ty #[s, xv]).run Tryd.prog w = .ok v' w' ∧ OwnR B w' v' (N ++ rs) ∧ w.grownBy w' s.ownBlock := by
  obtain ⟨il, hil, hzl0, hzl1, hzl2⟩ := info_parts infoR22
  obtain ⟨h40, ad, c, rfl, hc, hm, h2⟩ := hr
  cases ad with
  | none =>
    have hl0 : rs = [] := by
      rcases Classical.em (rs = []) with h | h
      · exact h
      · obtain ⟨b, off, e, _⟩ := h2 h; cases e
    subst hl0
    refine ⟨s, w, app_none22 (P := Tryd.prog) w B 26 ty 34 il 3 c Tryd.underlying26 hil s N.length _ ho, by rw [List.append_nil]; exact ho, ⟨rfl, rfl, rfl, Nat.le_refl _, fun _ _ _ => rfl⟩⟩
  | some ad =>
    have hnews : ∀ j u, (relC rs)[j]? = some u → w.cell? (ad.add j) = some u := by
      rcases Classical.em (rs = []) with h0 | h0
      · subst h0; intro j u hu; simp [relC] at hu
      · obtain ⟨b, off, e, hb, hcell⟩ := h2 h0
        obtain rfl : ad = ⟨b, off, none⟩ := by simpa using e
        intro j u hu
        have hj : j < rs.length * 3 := by
          have := (List.getElem?_eq_some_iff.1 hu).1
          rwa [relC_len] at this
        obtain ⟨e1, e2, e3⟩ := relC_at rs (j / 3) (by omega)
        obtain ⟨c1, c2, c3⟩ := hcell (j / 3) (by omega)
        rw [Addr.add_lit]
        have h3 : j % 3 = 0 ∨ j % 3 = 1 ∨ j % 3 = 2 := by omega
        rcases h3 with hm2 | hm2 | hm2
        · have ej : j / 3 * 3 = j := by omega
          rw [ej] at e1 c1
          rw [e1] at hu
          rw [c1]; exact hu
        · have ej : j / 3 * 3 + 1 = j := by omega
          have ej2 : off + j / 3 * 3 + 1 = off + j := by omega
          rw [ej] at e2
          rw [ej2] at c2
          rw [e2] at hu
          rw [c2]; exact hu
        · have ej : j / 3 * 3 + 2 = j := by omega
          have ej2 : off + j / 3 * 3 + 2 = off + j := by omega
          rw [ej] at e3
          rw [ej2] at c3
          rw [e3] at hu
          rw [c3]; exact hu
    have hone : ∀ u ∈ relC rs, u.oneCell' = true := fun u hu => by
      unfold relC at hu
      obtain ⟨x, hx, hu⟩ := List.mem_flatMap.1 hu
      simp at hu
      rcases hu with rfl | rfl | rfl <;> rfl
    obtain ⟨v', w', hrun, q1, q2, _⟩ := run_append_own (P := Tryd.prog) w B 26 ty 34 il (.agg #[.string ⟨#[]⟩, .int .i64 0, .string ⟨#[]⟩]) 3 40 Tryd.underlying26 hil hzl0 hzl1 hzl2 rfl (by decide) s N.length (relC N) ho ad rs.length c (relC rs) (relC_len rs) hnews hone (by unfold maxLen; omega) (by omega) hB
    refine ⟨v', w', hrun, ?_, q2⟩
    unfold OwnR
    rw [relC_app, List.length_append]
    exact q1
/-- the operation, as a walk meets it -/
theorem wpList_append_r22 {w : World} {ops : Array Oper} {rest : List Oper} {o : Oper} {a : Act} {Q : Exit → Act → World → Prop} (hgd : o.guard = none) (s x : Operand)
    (ho : o.op = .call { callee := .builtin .append, args := #[s, x], argTypes := #[26, 26] }) (B : Nat) (v : Value) (N : List Rl) (hs : a.eval s = v) (hown : OwnR B w v N)
    (xv : Value) (rs : List Rl) (hx : a.eval x = xv) (hr : RdR w xv rs) (hB : B ≤ w.heap.size) (hb : (N.length + rs.length) * 40 ≤ 140737488355328)
    (h : ∀ a' c' w', OwnR B w' (.slice a' (N ++ rs).length c') (N ++ rs) → w.grownBy w' v.ownBlock → wpList Tryd.prog ops Q rest (a.put o.dst (.slice a' (N ++ rs).length c')) w') : wpList Tryd.prog ops Q (o :: rest) a w := by
  obtain ⟨v', w', hrun, r1, r2⟩ := run_append_r22 w B o.type v xv N rs hown hr hB hb
  obtain ⟨a', c', rfl⟩ := row_form22 r1
  refine wpList_plain hgd fun K' hK => ?_
  unfold Oper.wp
  simp [execOp, ho, resolve, invoke, builtin, hs, hx, hrun, Result.andThen]
  have hh := h _ _ _ r1 r2
  rw [List.length_append] at hh
  exact hK _ _ hh
theorem blw_own22 {B : Nat} {w W W' : World} {v : Value} {N : List Rl} (hb : Below B w W) (hB : B ≤ W.heap.size) (ho : OwnR B W v N) (hg : W.grownBy W' v.ownBlock) : Below B w W' :=
  hb.grown hg hB fun q hq => (World.ownsRow.lt ho q hq).1

set_option maxHeartbeats 1600000 in
set_option maxRecDepth 20000 in
theorem copied22 (v : Value) (rs : List Rl) (w : World) (hr : RdR w v rs) :
    Calls Tryd.prog 26 #[v] w fun e w' => ∃ a c, e = .returned (.slice a rs.length c) ∧ OwnR w.heap.size w' (.slice a rs.length c) rs ∧ Below w.heap.size w w' := by
  have HR : Hid (RdR w v rs) := hr
  have HO : Hid (OwnR w.heap.size w (.slice none 0 0) []) := OwnR.nil _ _
  have h40 := hr.1
  obtain ⟨a, c, rfl, -, -, -⟩ := hr.at22
  clear hr
  go_enter Tryd.func26, Tryd.ntmps26
  go_wp2_with (at_builtin; refine wpList_append_r22 rfl (.tmp 4) (.tmp 5) rfl w.heap.size (.slice none 0 0) [] rfl HO.out (.slice a rs.length c) rs rfl HR.out (Nat.le_refl _) (by simp; omega) ?_; intro a' c' w' o' g'; have HO2 : Hid (OwnR w.heap.size w' (.slice a' rs.length c') rs) := o'; have HB2 : Hid (Below w.heap.size w w') := blw_own22 (Below.refl _ _) (Nat.le_refl _) HO.out g'; clear o' g'; simp only [List.nil_append])
  go_ret
  exact ⟨a', c', rfl, HO2.out, HB2.out⟩
theorem rgS_len22 (L : List RG) : (rgS L).length = L.length := by simp [rgS]
set_option maxHeartbeats 3200000 in
set_option maxRecDepth 100000 in
theorem copies22 (v : Value) (l : List (List Rl)) (w : World) (hr : RdRs w v l) :
    Calls Tryd.prog 12 #[v] w fun e w' => ∃ v' L, e = .returned v' ∧ OwnRs w.heap.size w' v' L ∧ rgS L = l ∧ Below w.heap.size w w' := by
  have hlen := hr.1
  obtain ⟨a, c, hv, hc, hm, -⟩ := hr.at22
  subst hv
  have HRc : Hid (∀ W, Below w.heap.size w W → ∀ k, k < l.length → ∃ b off u, a = some ⟨b, off, none⟩ ∧ W.cell? ⟨b, off + k, none⟩ = some u ∧ RdR W u (l.getD k [])) := fun W hb k hk => by
    obtain ⟨a', c', e', -, -, hcl⟩ := (hr.below22 hb).at22
    have e3 : a' = a := by injection e' with q1 q2 q3; exact q1.symm
    subst e3
    exact hcl k hk
  obtain ⟨i1, hi, hz0, hz1, hz2⟩ := info_parts infoRs22
  have HIn1 : Hid (Tryd.prog.info? 26 = some i1 ∧ i1.zero = some (.slice none 0 0) ∧ i1.size = 1 ∧ i1.bytes = 24) := ⟨hi, hz0, hz1, hz2⟩
  clear hi hz0 hz1 hz2 hr
  go_enter Tryd.func12, Tryd.ntmps12
  go_wp2
  go_loopg [3, 4] l.length (fun g o i wr => ∃ (k : Nat) (L : List RG) (a3 : Option Addr) (c3 : Nat), k + g = l.length ∧ i = .int .i64 k ∧ o = .slice a3 L.length c3 ∧ L.length = k ∧ Hid (OwnRs w.heap.size wr (.slice a3 L.length c3) L) ∧ Hid (rgS L = l.take k) ∧ Hid (Below w.heap.size w wr))
  case atStart => exact ⟨0, [], none, 0, by omega, rfl, rfl, rfl, OwnRs.nil _ _, rfl, Below.refl _ _⟩
  case round =>
    obtain ⟨k, L, a3, c3, hk, rfl, rfl, hLk, HS, HL, HB⟩ := hrel
    have HG : Hid (k + gk = l.length) := hk
    have HLk : Hid (L.length = k) := hLk
    by_cases hlt : k < l.length
    · obtain ⟨b, off, u, rfl, hcu, hru⟩ := HRc.out wr HB.out k hlt
      have HT : Hid (l.take (k + 1) = l.take k ++ [l.getD k []]) := by
        show _ = _
        rw [List.take_add_one]
        simp [List.getD_eq_getElem?_getD, hlt]
      generalize l.getD k [] = rs at *
      have HC : Hid (Calls Tryd.prog 26 #[u] wr fun e w' => ∃ a c, e = .returned (.slice a rs.length c) ∧ OwnR wr.heap.size w' (.slice a rs.length c) rs ∧ Below wr.heap.size wr w') := copied22 u rs wr hru
      obtain ⟨ua, uc, rfl, -, -, -⟩ := hru.at22
      have hlL : L.length < l.length := by omega
      clear hru hk hLk
      go_wp2_with fail
      refine HC.out.mono ?_
      rintro e w2 ⟨va, vc, rfl, o2, b2⟩
      have HB2 : Hid (Below w.heap.size w w2) := HB.out.trans (b2.mono HB.out.size)
      have HSt : Hid (St22 w.heap.size w2 (.slice a3 L.length c3) L (.slice va rs.length vc) rs) := by
        have h1 : OwnRs w.heap.size w2 (.slice a3 L.length c3) L := ⟨row_kept22 HS.out.row fun q e => b2.block q (World.ownsRow.lt HS.out.row q e).2, fun x hx => row_kept22 (HS.out.own x hx) fun q e => b2.block q (World.ownsRow.lt (HS.out.own x hx) q e).2, HS.out.ap⟩
        exact h1.st22 o2 HB.out.size fun x hx q e => (World.ownsRow.lt (HS.out.own x hx) q e).2
      clear HC o2 b2 hcu HS
      generalize rs.length = nl at *
      have HRow2 : Hid ((w2.alloc (.cells #[.slice va nl vc] 26)).ownsRow w.heap.size 26 1 (.slice a3 L.length c3) L.length (rgC L)) := World.ownsRow.alloc HSt.out.t.row _
      have HNw2 : Hid (∀ j u, [Value.slice va nl vc][j]? = some u → (w2.alloc (.cells #[.slice va nl vc] 26)).cell? ((⟨w2.heap.size, 0, none⟩ : Addr).add j) = some u) := one_new22 w2 _ _
      have HPt2 : Hid (∀ v9 w9, w9.ownsRow w.heap.size 26 1 v9 (L.length + 1) (rgC L ++ [.slice va nl vc]) → Ap (w2.alloc (.cells #[.slice va nl vc] 26)) (.slice a3 L.length c3) w9 v9 → (OwnRs w.heap.size w9 v9 (L ++ [((.slice va nl vc), rs)]) ∧ ∃ a9 c9, v9 = .slice a9 (L.length + 1) c9) ∧ Below w.heap.size w w9) := fun v9 w9 o9 p9 => ⟨HSt.out.done o9 p9, (Below.alloc HB2.out HB2.out.size _).grown p9.grown (Nat.le_trans HB2.out.size (by simp)) (fun q hq => (World.ownsRow.lt HSt.out.t.row q hq).1)⟩
      have hsz9 : w.heap.size ≤ w2.heap.size := HB2.out.size
      have hw1 : IntKind.i64.wrap ((k : Int) + 1) = (k : Int) + 1 := by rw [IntKind.wrap_i64]; omega
      go_wp2_with (at_builtin; refine wpList_append_apk rfl (.tmp 11) (.tmp 17) 22 rfl w.heap.size 26 i1 (.slice none 0 0) 1 24 Tryd.underlying22 HIn1.out.1 HIn1.out.2.1 HIn1.out.2.2.1 HIn1.out.2.2.2 rfl (by decide) (.slice a3 L.length c3) L.length (rgC L) rfl HRow2.out ⟨w2.heap.size, 0, none⟩ 1 1 [.slice va nl vc] rfl rfl HNw2.out (by simp [Value.oneCell']) (by unfold maxLen; omega) (by omega) (by simp; omega) ?_; intro v9 w9 own9 ap9; obtain ⟨⟨s9, a9, c9, rfl⟩, b9⟩ := HPt2.out v9 w9 own9 ap9; have HT9 : Hid (OwnRs w.heap.size w9 (.slice a9 (L.length + 1) c9) (L ++ [((.slice va nl vc), rs)])) := s9; have HB9 : Hid (Below w.heap.size w w9) := b9; clear own9 ap9 s9 b9)
      all_goals
        go_roundg (gk - 1)
        case measure => have := HG.out; omega
        case rel => exact ⟨k + 1, L ++ [((.slice va nl vc), rs)], a9, c9, by have := HG.out; omega, by first | rfl | go_num, by simp, by rw [List.length_append]; have := HLk.out; simp; omega, by rw [List.length_append]; exact HT9.out, by show _ = _; rw [HT.out, ← HL.out, rgS, List.map_append]; rfl, HB9.out⟩
    · have HE : Hid (rgS L = l) := by show _ = _; rw [HL.out, List.take_of_length_le (by omega)]
      clear hk hLk
      go_wp2
      go_ret
      exact ⟨_, L, rfl, HS.out, HE.out, HB.out⟩
theorem flat_take {l : List (List Rl)} {k : Nat} (h : k < l.length) : (l.take (k + 1)).flatten = (l.take k).flatten ++ l.getD k [] := by
  rw [List.take_add_one, List.flatten_append, List.getElem?_eq_getElem h, List.getD_eq_getElem?_getD, List.getElem?_eq_getElem h]
  simp
theorem flat_len {l : List (List Rl)} {k : Nat} : (l.take k).flatten.length ≤ l.flatten.length := by
  have := congrArg List.length (congrArg List.flatten (List.take_append_drop k l))
  rw [List.flatten_append, List.length_append] at this
  omega
set_option maxHeartbeats 3200000 in
set_option maxRecDepth 100000 in
theorem flat22 (v : Value) (l : List (List Rl)) (w : World) (hr : RdRs w v l) (hz : l.flatten.length * 40 ≤ 140737488355328) :
    Calls Tryd.prog 14 #[v] w fun e w' => ∃ a c, e = .returned (.slice a l.flatten.length c) ∧ OwnR w.heap.size w' (.slice a l.flatten.length c) l.flatten ∧ Below w.heap.size w w' := by
  have hlen := hr.1
  obtain ⟨a, c, hv, hc, hm, -⟩ := hr.at22
  subst hv
  have HRc : Hid (∀ W, Below w.heap.size w W → ∀ k, k < l.length → ∃ b off u, a = some ⟨b, off, none⟩ ∧ W.cell? ⟨b, off + k, none⟩ = some u ∧ RdR W u (l.getD k [])) := fun W hb k hk => by
    obtain ⟨a', c', e', -, -, hcl⟩ := (hr.below22 hb).at22
    have e3 : a' = a := by injection e' with q1 q2 q3; exact q1.symm
    subst e3
    exact hcl k hk
  have HZ : Hid (∀ k, k < l.length → ((l.take k).flatten.length + (l.getD k []).length) * 40 ≤ 140737488355328) := fun k hk => by
    have h1 := flat_take hk
    have h2 := flat_len (l := l) (k := k + 1)
    rw [h1, List.length_append] at h2
    omega
  have HEn : Hid ((l.take l.length).flatten = l.flatten) := by show _ = _; rw [List.take_length]
  clear hr hz
  generalize hFl : l.flatten = FL at *
  clear hFl
  go_enter Tryd.func14, Tryd.ntmps14
  go_wp2
  go_loopg [3, 4] l.length (fun g o i wr => ∃ (k : Nat) (N : List Rl) (a3 : Option Addr) (c3 : Nat), k + g = l.length ∧ i = .int .i64 k ∧ o = .slice a3 N.length c3 ∧ Hid (N = (l.take k).flatten) ∧ Hid (OwnR w.heap.size wr (.slice a3 N.length c3) N) ∧ Hid (Below w.heap.size w wr))
  case atStart => exact ⟨0, [], none, 0, by omega, rfl, rfl, rfl, OwnR.nil _ _, Below.refl _ _⟩
  case round =>
    obtain ⟨k, N, a3, c3, hk, rfl, rfl, HN, HO, HB⟩ := hrel
    have HG : Hid (k + gk = l.length) := hk
    by_cases hlt : k < l.length
    · obtain ⟨b, off, u, rfl, hcu, hru⟩ := HRc.out wr HB.out k hlt
      have HZk : Hid ((N.length + (l.getD k []).length) * 40 ≤ 140737488355328) := by have := HZ.out k hlt; rw [← HN.out] at this; exact this
      have HT : Hid ((l.take (k + 1)).flatten = N ++ l.getD k []) := by show _ = _; rw [flat_take hlt, ← HN.out]
      generalize l.getD k [] = rs at *
      have HRu : Hid (RdR wr u rs) := hru
      obtain ⟨ua, uc, rfl, -, -, -⟩ := hru.at22
      have hsz : w.heap.size ≤ wr.heap.size := HB.out.size
      have hw1 : IntKind.i64.wrap ((k : Int) + 1) = (k : Int) + 1 := by rw [IntKind.wrap_i64]; omega
      clear hru hk
      go_wp2_with (at_builtin; refine wpList_append_r22 rfl (.tmp 11) (.tmp 15) rfl w.heap.size (.slice a3 N.length c3) N rfl HO.out (.slice ua rs.length uc) rs rfl HRu.out hsz HZk.out ?_; intro a9 c9 w9 o9 g9; have HO9 : Hid (OwnR w.heap.size w9 (.slice a9 (N ++ rs).length c9) (N ++ rs)) := o9; have HB9 : Hid (Below w.heap.size w w9) := blw_own22 HB.out hsz HO.out g9; clear o9 g9)
      all_goals
        go_roundg (gk - 1)
        case measure => have := HG.out; omega
        case rel => exact ⟨k + 1, N ++ rs, a9, c9, by have := HG.out; omega, by first | rfl | go_num, by simp, HT.out.symm, HO9.out, HB9.out⟩
    · have hE : N = FL := by
        have e : k = l.length := by omega
        rw [HN.out, e, HEn.out]
      subst hE
      clear hk
      go_wp2
      go_ret
      exact ⟨_, _, rfl, HO.out, HB.out⟩

end Go.Proofs.YtmfcaoacklbkoaaDoor
