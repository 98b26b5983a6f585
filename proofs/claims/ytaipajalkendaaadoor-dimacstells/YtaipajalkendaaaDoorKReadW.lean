/-
  dimacs.Read, walked: texts of ASCII.
  KEEP: set on app at below new trans refl start ap kept rd rds mono
-/
import Derived.Test.YtaipajalkendaaaDoorKClW
import Derived.Test.YtaipajalkendaaaDoorFormAns
set_option linter.unusedSimpArgs false
set_option linter.unusedVariables false
namespace Go.Proofs.YtaipajalkendaaaDoor
open Go Go.RowKit

theorem ret_form3 {fn : Func} {p u t : Tmp} {tmps : Array Value} {W : World} {D : Nat} {x y : Value} (h : fn.results = #[.cell p 24, .tmp u, .tmp t]) (hp : tmps.getD p undef = .pointer (some ⟨D, 0, none⟩)) (hb : Bx2 W D 24 x y) :
    (results fn tmps).run Tryd.prog W = .ok (.tuple #[.agg #[x, y], tmps.getD u undef, tmps.getD t undef]) W := by
  have c0 := hb.c0
  have c1 := hb.c1
  have e : (results fn tmps).run Tryd.prog W = ((asAddr (tmps.getD p undef)).run Tryd.prog W).andThen fun a w₁ => ((loadVar 24 a).run Tryd.prog w₁).andThen fun v w₂ => .ok (.tuple #[v, tmps.getD u undef, tmps.getD t undef]) w₂ := by
    simp only [results, h]
    simp [Sem.run_bind, Result.andThen]
  rw [e, hp]
  simp [go_sem, c0, c1]
theorem rdF_bad1 {s : List UInt8} (h : nxt 1 (linesOf s) = none) : rdF s = ⟨0, [], 30, (linesOf s).length + 1⟩ := by unfold rdF; rw [h]
theorem rdF_bad2 {s l : List UInt8} {k : Nat} {r : List (List UInt8)} (h : nxt 1 (linesOf s) = some (l, k, r)) (h2 : hdC l = none) : rdF s = ⟨0, [], 30, k⟩ := by unfold rdF; rw [h]; simp only [hdC_eq, h2]
theorem rdF_go {s l : List UInt8} {k : Nat} {r : List (List UInt8)} {v c : Int} (h : nxt 1 (linesOf s) = some (l, k, r)) (h2 : hdC l = some (v, c)) :
    rdF s = if (clE v (k + 1) r).1 ≠ 0 then ⟨0, [], (clE v (k + 1) r).1, (clE v (k + 1) r).2.1⟩ else if ((clE v (k + 1) r).2.2.length : Int) ≠ c then ⟨0, [], 34, (clE v (k + 1) r).2.1⟩ else ⟨v, (clE v (k + 1) r).2.2, 0, 0⟩ := by
  have hn := (nxt_some h).2.1
  have hne : ∀ (ws : List (List UInt8 × Nat)) (op : List Int) (all : List (List Int)) {a o e j}, eat v ws op all = (a, o, some (e, j)) → e ≠ 0 := by
    intro ws
    induction ws with
    | nil => intro op all a o e j h; simp [eat] at h
    | cons x t ih =>
      intro op all a o e j h
      obtain ⟨w, q⟩ := x
      unfold eat at h
      cases hw : numW w with
      | none => rw [hw] at h; simp at h; omega
      | some z =>
        rw [hw] at h
        simp only at h
        split at h
        · exact ih _ _ h
        · split at h
          · simp at h; omega
          · exact ih _ _ h
  unfold rdF
  rw [h]
  simp only [hdC_eq, h2]
  unfold clE
  generalize hE : eat v (spoken (k + 1) r) [] [] = E
  obtain ⟨all, op, x⟩ := E
  cases x with
  | some ej =>
    obtain ⟨e, j⟩ := ej
    have := hne _ _ _ hE
    simp [this]
  | none =>
    simp only
    by_cases hop : op = []
    · subst hop
      simp
      rw [show (linesOf s).length + 1 = k + 1 + r.length by omega]
    · simp [hop]
      omega
/-- what Read answers and leaves -/
def RdS (w : World) (A : RdA) (e : Ending) (w' : World) : Prop :=
  ∃ s', e = .returned (.tuple #[.agg #[.int .i64 A.vars, s'], .int .i64 A.err, .int .i64 (A.line : Int)]) ∧ OwnF w.heap.size w' s' A.cls ∧ Below w.heap.size w w'

theorem Tb.new (W : World) (l r : ByteArray) (k : Int) : Tb (W.alloc (.cells #[.string l, .string r, .int .i64 k] 55)) W.heap.size l r k := World.alloc_heap_new W _
theorem below_by {w W W' : World} {b : Nat} (h : Below w.heap.size w W) (hg : W.grownBy W' (some b)) (hb : w.heap.size ≤ b) : Below w.heap.size w W' :=
  h.grown hg h.size (fun k e => by cases e; exact hb)

set_option maxRecDepth 100000 in
set_option maxHeartbeats 3200000 in
theorem dimRead_any (s : ByteArray) (w : World) (hs : s.data.toList.length < 4294967281) (has : ∀ x ∈ s.data.toList, x.toNat < 256) :
    Calls Tryd.prog 8 #[.string s] w fun e w' => RdS w (rdF s.data.toList) e w' := by
  have hlines : (linesOf s.data.toList).length ≤ s.data.toList.length := by
    have : ∀ (n : Nat) (t : List UInt8), t.length ≤ n → (linesOf t).length ≤ t.length := by
      intro n
      induction n with
      | zero => intro t ht; have : t = [] := List.eq_nil_of_length_eq_zero (by omega); subst this; rw [linesOf_nil]; simp
      | succ n ih =>
        intro t ht
        by_cases h : t = []
        · subst h; rw [linesOf_nil]; simp
        · rw [linesOf_cons h]
          have h1 := cutN_lt h
          have := ih (cutN t).2 (by omega)
          simp; omega
    exact this _ _ (Nat.le_refl _)
  have HT0 : Hid (Tb ((w.alloc (.cells #[.int .i64 0, .slice none 0 0] 24)).alloc (.cells #[.string s, .string ⟨#[]⟩, .int .i64 0] 55)) (w.heap.size + 1) s ⟨#[]⟩ ((0 : Nat) : Int)) := by
    have := Tb.new (w.alloc (.cells #[.int .i64 0, .slice none 0 0] 24)) s ⟨#[]⟩ 0
    rw [World.size_alloc] at this
    exact this
  have HD0 : Hid (Bx2 ((w.alloc (.cells #[.int .i64 0, .slice none 0 0] 24)).alloc (.cells #[.string s, .string ⟨#[]⟩, .int .i64 0] 55)) w.heap.size 24 (.int .i64 0) (.slice none 0 0)) := (Bx2.new _ _ _ _).below (below_box _ _)
  have HB0 : Hid (Below w.heap.size w ((w.alloc (.cells #[.int .i64 0, .slice none 0 0] 24)).alloc (.cells #[.string s, .string ⟨#[]⟩, .int .i64 0] 55))) := (below_box _ _).alloc (by rw [World.size_alloc]; omega) _
  have HFin : Hid (∀ (A : RdA) (W : World) (s' : Value), rdF s.data.toList = A → Below w.heap.size w W → OwnF w.heap.size W s' A.cls → RdS w (rdF s.data.toList) (.returned (.tuple #[.agg #[.int .i64 A.vars, s'], .int .i64 A.err, .int .i64 (A.line : Int)])) W) := fun A W s' hA hb ho => by
    rw [hA]
    exact ⟨s', rfl, ho, hb⟩
  generalize hPS : RdS w (rdF s.data.toList) = PS at *
  have HHd : Hid (Calls Tryd.prog 24 #[.pointer (some ⟨w.heap.size + 1, 0, none⟩)] ((w.alloc (.cells #[.int .i64 0, .slice none 0 0] 24)).alloc (.cells #[.string s, .string ⟨#[]⟩, .int .i64 0] 55)) fun e w' => HdR s.data.toList (w.heap.size + 1) (0 + 1) (linesOf s.data.toList) e w' ∧ ((w.alloc (.cells #[.int .i64 0, .slice none 0 0] 24)).alloc (.cells #[.string s, .string ⟨#[]⟩, .int .i64 0] 55)).grownBy w' (some (w.heap.size + 1))) := dimHead_any (w.heap.size + 1) s ⟨#[]⟩ 0 ((w.alloc (.cells #[.int .i64 0, .slice none 0 0] 24)).alloc (.cells #[.string s, .string ⟨#[]⟩, .int .i64 0] 55)) HT0.out hs has (by omega)
  go_enter Tryd.func8, Tryd.ntmps8
  go_wp2_with fail
  generalize (w.alloc (.cells #[.int .i64 0, .slice none 0 0] 24)).alloc (.cells #[.string s, .string ⟨#[]⟩, .int .i64 0] 55) = W0 at *
  refine HHd.out.mono ?_
  rintro e w1 ⟨hH, hG⟩
  have HD1 : Hid (Bx2 w1 w.heap.size 24 (.int .i64 0) (.slice none 0 0)) := HD0.out.kept hG (by simp)
  have HB1 : Hid (Below w.heap.size w w1) := below_by HB0.out hG (by omega)
  have d0 := HD1.out.c0
  have d1 := HD1.out.c1
  have f0 := HD1.out.f0
  have f1 := HD1.out.f1
  clear HT0 HD0 HB0 HHd hPS
  rcases hH with ⟨q1, ⟨x, y, rfl⟩, left, rest, q2⟩ | ⟨ln, k', rs, left, rest, q1, q2, q3, q4, q5, q6, q7⟩
  case inl =>
    have c2 := q2.c2
    have HA : Hid (rdF s.data.toList = ⟨0, [], 30, (linesOf s.data.toList).length + 1⟩) := rdF_bad1 q1
    have hln : ((0 + 1 + (linesOf s.data.toList).length : Nat) : Int) = (((linesOf s.data.toList).length + 1 : Nat) : Int) := by omega
    rw [hln] at c2
    clear q1 q2 hG
    generalize (linesOf s.data.toList).length + 1 = N at *
    have HBx : Hid (Bx2 ((w1.setCell ⟨w.heap.size, 0, none⟩ (.int .i64 0)).setCell ⟨w.heap.size, 1, none⟩ (.slice none 0 0)) w.heap.size 24 (.int .i64 0) (.slice none 0 0)) := (HD1.out.set0 _).set1 _
    have HBe : Hid (Below w.heap.size w ((w1.setCell ⟨w.heap.size, 0, none⟩ (.int .i64 0)).setCell ⟨w.heap.size, 1, none⟩ (.slice none 0 0))) := below_set (below_set HB1.out (Nat.le_refl _) _ _) (Nat.le_refl _) _ _
    go_wp2_with fail
    go_region
    all_goals
      go_wp2
      try simp only [Exit.inBlock, Exit.then]
      refine bodyPost_ret (ret_form3 rfl rfl (show Bx2 _ w.heap.size 24 _ _ from HBx.out)) rfl ?_
      exact HFin.out _ _ _ HA.out (by first | exact HBe.out | exact HBe.out.drew) (OwnF.nil _ _)
  have c2 := q3.c2
  rcases q7 with ⟨g1, x, y, rfl⟩ | ⟨v, c, g1, rfl⟩
  case inl =>
    have HA : Hid (rdF s.data.toList = ⟨0, [], 30, k'⟩) := rdF_bad2 q1 g1
    clear q1 q2 q3 q4 q5 q6 g1 hG
    have HBx : Hid (Bx2 ((w1.setCell ⟨w.heap.size, 0, none⟩ (.int .i64 0)).setCell ⟨w.heap.size, 1, none⟩ (.slice none 0 0)) w.heap.size 24 (.int .i64 0) (.slice none 0 0)) := (HD1.out.set0 _).set1 _
    have HBe : Hid (Below w.heap.size w ((w1.setCell ⟨w.heap.size, 0, none⟩ (.int .i64 0)).setCell ⟨w.heap.size, 1, none⟩ (.slice none 0 0))) := below_set (below_set HB1.out (Nat.le_refl _) _ _) (Nat.le_refl _) _ _
    go_wp2_with fail
    go_region
    all_goals
      go_wp2
      try simp only [Exit.inBlock, Exit.then]
      refine bodyPost_ret (ret_form3 rfl rfl (show Bx2 _ w.heap.size 24 _ _ from HBx.out)) rfl ?_
      exact HFin.out _ _ _ HA.out (by first | exact HBe.out | exact HBe.out.drew) (OwnF.nil _ _)
  have HGo : Hid (rdF s.data.toList = if (clE v (k' + 1) (linesOf left.data.toList)).1 ≠ 0 then ⟨0, [], (clE v (k' + 1) (linesOf left.data.toList)).1, (clE v (k' + 1) (linesOf left.data.toList)).2.1⟩ else if ((clE v (k' + 1) (linesOf left.data.toList)).2.2.length : Int) ≠ c then ⟨0, [], 34, (clE v (k' + 1) (linesOf left.data.toList)).2.1⟩ else ⟨v, (clE v (k' + 1) (linesOf left.data.toList)).2.2, 0, 0⟩) := by show _ = _; rw [q2]; exact rdF_go q1 g1
  have HCl : Hid (Calls Tryd.prog 25 #[.pointer (some ⟨w.heap.size + 1, 0, none⟩), .int .i64 v] w1 fun e w' => ClR w1 (w.heap.size + 1) (k' + 1) (linesOf left.data.toList) v e w') := clauses_any (w.heap.size + 1) left rest k' v w1 q3 (by omega) (fun x hx => has x (q5 x hx)) (by rw [q2]; omega)
  clear q1 q2 q3 q4 q5 q6 g1 hG c2
  go_wp2_with fail
  refine HCl.out.mono ?_
  rintro e w2 ⟨s2, left2, rest2, rfl, own2, T2, G2⟩
  generalize clE v (k' + 1) (linesOf left.data.toList) = E at *
  have HD2 : Hid (Bx2 w2 w.heap.size 24 (.int .i64 0) (.slice none 0 0)) := HD1.out.kept G2 (by simp)
  have HB2 : Hid (Below w.heap.size w w2) := below_by HB1.out G2 (by omega)
  have HO2 : Hid (OwnF w.heap.size w2 s2 E.2.2) := own2.mono HB1.out.size
  have c2 := T2.c2
  clear d0 d1 f0 f1
  have d0 := HD2.out.c0
  have d1 := HD2.out.c1
  have f0 := HD2.out.f0
  have f1 := HD2.out.f1
  obtain ⟨L, hL, hLs⟩ := own2
  obtain ⟨a2, k2, rfl⟩ := row_form hL.row
  have hLl : (L.length : Int) = (E.2.2.length : Int) := by rw [← hLs]; simp
  have HBx : Hid (Bx2 ((w2.setCell ⟨w.heap.size, 0, none⟩ (.int .i64 0)).setCell ⟨w.heap.size, 1, none⟩ (.slice none 0 0)) w.heap.size 24 (.int .i64 0) (.slice none 0 0)) := (HD2.out.set0 _).set1 _
  have HBe : Hid (Below w.heap.size w ((w2.setCell ⟨w.heap.size, 0, none⟩ (.int .i64 0)).setCell ⟨w.heap.size, 1, none⟩ (.slice none 0 0))) := below_set (below_set HB2.out (Nat.le_refl _) _ _) (Nat.le_refl _) _ _
  clear hL hLs T2 G2 HCl HD1 HB1
  rw [← hLl] at HGo
  clear hLl
  obtain ⟨er, line, all⟩ := E
  simp only at HGo HO2 c2 ⊢
  by_cases he : er = 0
  · subst he
    rw [if_neg (by simp)] at HGo
    by_cases hc : (L.length : Int) = c
    · rw [if_neg (by simpa using hc)] at HGo
      go_wp2
      try simp only [Exit.inBlock, Exit.then]
      refine bodyPost_ret (ret_form3 rfl rfl ((HD2.out.set0 _).set1 _)) rfl ?_
      exact HFin.out _ _ _ HGo.out (below_set (below_set HB2.out (Nat.le_refl _) _ _) (Nat.le_refl _) _ _) (OwnF.set (OwnF.set HO2.out HD2.out (by decide) (by decide) 0 _) (HD2.out.set0 _) (by decide) (by decide) 1 _)
    · rw [if_pos hc] at HGo
      go_wp2_with fail
      go_region
      all_goals
        go_wp2
        try simp only [Exit.inBlock, Exit.then]
        refine bodyPost_ret (ret_form3 rfl rfl (show Bx2 _ w.heap.size 24 _ _ from HBx.out)) rfl ?_
        exact HFin.out _ _ _ HGo.out (by first | exact HBe.out | exact HBe.out.drew) (OwnF.nil _ _)
  · rw [if_pos he] at HGo
    go_wp2_with fail
    go_region
    all_goals
      go_wp2
      try simp only [Exit.inBlock, Exit.then]
      refine bodyPost_ret (ret_form3 rfl rfl (show Bx2 _ w.heap.size 24 _ _ from HBx.out)) rfl ?_
      exact HFin.out _ _ _ HGo.out (by first | exact HBe.out | exact HBe.out.drew) (OwnF.nil _ _)

end Go.Proofs.YtaipajalkendaaaDoor
