/-
  depotlaw04: made, walked.
  KEEP: set on app at below new trans refl start ap kept rd rds mono own row cells lt box lo ml ms c0 f0 form max find eq ma some none more map keep ps arStep docStep toldStep movedStep renote tys obj bel
-/
import Derived.Test.YtnglgcipjbpgoaaAn9
set_option linter.unusedSimpArgs false
set_option linter.unusedVariables false
namespace Go.Proofs.Ytnglgcipjbpgoaa
open Go Go.RowKit Go.Maps

theorem ptr_nil4 (a : Addr) (w : World) : (binOp BinOp.eql 23 (.pointer (some a)) (.pointer none)).run Try.prog w = .ok (.bool false) w := by rfl
theorem ptr_neq4 (a : Addr) (w : World) : (binOp BinOp.neq 23 (.pointer (some a)) (.pointer none)).run Try.prog w = .ok (.bool true) w := by rfl
theorem results_two_tmp {P : Program} {fn : Func} {p q u : Tmp} {ty ty2 : TypeId} (h : fn.results = #[.cell p ty, .cell q ty2, .tmp u]) (tmps : Array Value) (w : World) (g g2 : Nat) (t t2 : TypeId) (cs cs2 : Array Value) (fr fr2 : Nat × Nat) (d d2 : TypeDesc)
    (hp : tmps.getD p undef = .pointer (some ⟨g, 0, none⟩)) (hg : w.heap[g]? = some (.cells cs t fr)) (hu : P.underlying ty = some d) (hd : (match d with | .struct _ | .array _ _ => true | _ => false) = true) (hi : (P.info? ty).map (·.size) = some cs.size)
    (hp2 : tmps.getD q undef = .pointer (some ⟨g2, 0, none⟩)) (hg2 : w.heap[g2]? = some (.cells cs2 t2 fr2)) (hu2 : P.underlying ty2 = some d2) (hd2 : (match d2 with | .struct _ | .array _ _ => true | _ => false) = true) (hi2 : (P.info? ty2).map (·.size) = some cs2.size) :
    (results fn tmps).run P w = .ok (.tuple #[.agg cs, .agg cs2, tmps.getD u undef]) w := by
  have hp' : tmps[p]?.getD undef = .pointer (some ⟨g, 0, none⟩) := by simpa using hp
  have hq' : tmps[q]?.getD undef = .pointer (some ⟨g2, 0, none⟩) := by simpa using hp2
  simp [results, h, hp', hq', asAddr, run_loadVar_row w g t ty cs fr d hg hu hd hi, run_loadVar_row w g2 t2 ty2 cs2 fr2 d2 hg2 hu2 hd2 hi2, Sem.run_bind, Result.andThen]
def Md4 (w : World) (e : Ending) (w' : World) : Prop :=
  ∃ a b m n : Nat, e = .returned (.tuple #[.agg #[.pointer (some ⟨a, 0, none⟩), .pointer (some ⟨m, 0, none⟩), .slice none 0 0, .slice none 0 0], .agg #[.pointer (some ⟨b, 0, none⟩), .pointer (some ⟨n, 0, none⟩), .slice none 0 0, .slice none 0 0], .bool true]) ∧
    w'.heap[a]? = some (.cells #[.slice none 0 0, .int .i64 0] 83 (0, 0)) ∧ w'.heap[b]? = some (.cells #[.slice none 0 0, .int .i64 0] 83 (0, 0)) ∧
    w'.heap[m]? = some (.cells #[.slice none 0 0] 62 (0, 0)) ∧ w'.heap[n]? = some (.cells #[.slice none 0 0] 62 (0, 0)) ∧ w.heap.size ≤ a ∧ w.heap.size ≤ b ∧ w.heap.size ≤ m ∧ w.heap.size ≤ n ∧ a ≠ b ∧ m ≠ n ∧ Below w.heap.size w w'
theorem at_on {W : World} {o x : Obj} {k : Nat} (h : W.heap[k]? = some x) : (W.alloc o).heap[k]? = some x := ((below_box W o).block k (Array.getElem?_eq_some_iff.1 h).1).trans h
theorem six_at (w : World) (x0 x1 x2 x3 x4 x5 : Obj) :
    ((((((w.alloc x0).alloc x1).alloc x2).alloc x3).alloc x4).alloc x5).heap[w.heap.size]? = some x0 ∧ ((((((w.alloc x0).alloc x1).alloc x2).alloc x3).alloc x4).alloc x5).heap[w.heap.size + 1]? = some x1 ∧ ((((((w.alloc x0).alloc x1).alloc x2).alloc x3).alloc x4).alloc x5).heap[w.heap.size + 1 + 1]? = some x2 ∧
    ((((((w.alloc x0).alloc x1).alloc x2).alloc x3).alloc x4).alloc x5).heap[w.heap.size + 1 + 1 + 1]? = some x3 ∧ ((((((w.alloc x0).alloc x1).alloc x2).alloc x3).alloc x4).alloc x5).heap[w.heap.size + 1 + 1 + 1 + 1]? = some x4 ∧ ((((((w.alloc x0).alloc x1).alloc x2).alloc x3).alloc x4).alloc x5).heap[w.heap.size + 1 + 1 + 1 + 1 + 1]? = some x5 := by
  have a0 := World.alloc_heap_new w x0
  have a1 := World.alloc_heap_new (w.alloc x0) x1
  have a2 := World.alloc_heap_new ((w.alloc x0).alloc x1) x2
  have a3 := World.alloc_heap_new (((w.alloc x0).alloc x1).alloc x2) x3
  have a4 := World.alloc_heap_new ((((w.alloc x0).alloc x1).alloc x2).alloc x3) x4
  have a5 := World.alloc_heap_new (((((w.alloc x0).alloc x1).alloc x2).alloc x3).alloc x4) x5
  simp only [World.size_alloc] at a1 a2 a3 a4 a5
  exact ⟨at_on (at_on (at_on (at_on (at_on a0)))), at_on (at_on (at_on (at_on a1))), at_on (at_on (at_on a2)), at_on (at_on a3), at_on a4, a5⟩
set_option maxRecDepth 100000 in
theorem made4_any (w : World) :
    Calls Try.prog 6 #[] w fun e w' => Md4 w e w' := by
  go_enter Try.func6, Try.ntmps6
  go_wp2_with fail
  refine (arNew_any _).mono ?_
  rintro e w1 ⟨rfl, rfl⟩
  go_wp2_with fail
  refine (arNew_any _).mono ?_
  rintro e w1 ⟨rfl, rfl⟩
  have hpn := ptr_neq4 ⟨w.heap.size + 1 + 1, 0, none⟩
  have hpn2 := ptr_neq4 ⟨w.heap.size + 1 + 1 + 1, 0, none⟩
  simp only [World.size_alloc]
  go_wp2_with fail
  obtain ⟨g0, g1, g2, g3, g4, g5⟩ := six_at w (.cells #[.pointer (some ⟨w.heap.size + 1 + 1, 0, none⟩), .pointer (some ⟨w.heap.size + 1 + 1 + 1 + 1, 0, none⟩), .slice none 0 0, .slice none 0 0] 28) (.cells #[.pointer (some ⟨w.heap.size + 1 + 1 + 1, 0, none⟩), .pointer (some ⟨w.heap.size + 1 + 1 + 1 + 1 + 1, 0, none⟩), .slice none 0 0, .slice none 0 0] 28) (.cells #[.slice none 0 0, .int .i64 0] 83) (.cells #[.slice none 0 0, .int .i64 0] 83) (.cells #[.slice none 0 0] 62) (.cells #[.slice none 0 0] 62)
  refine bodyPost_ret (results_two_tmp rfl _ _ w.heap.size (w.heap.size + 1) 28 28 _ _ (0, 0) (0, 0) _ _ rfl g0 Try.underlying28 rfl (by kernel_rfl) rfl g1 Try.underlying28 rfl (by kernel_rfl)) rfl ?_
  exact ⟨_, _, _, _, rfl, g2, g3, g4, g5, by omega, by omega, by omega, by omega, by omega, by omega, Below.step (Below.step (Below.step (Below.step (Below.step (below_box _ _) (below_box _ _)) (below_box _ _)) (below_box _ _)) (below_box _ _)) (below_box _ _)⟩
/-- a new pair -/
theorem Pr4.new {W : World} {D a m : Nat} (hD : W.heap[D]? = some (.cells #[.pointer (some ⟨a, 0, none⟩), .pointer (some ⟨m, 0, none⟩), .slice none 0 0, .slice none 0 0] 28 (0, 0))) (ha : W.heap[a]? = some (.cells #[.slice none 0 0, .int .i64 0] 83 (0, 0))) (hm : W.heap[m]? = some (.cells #[.slice none 0 0] 62 (0, 0))) :
    Pr4 (fun k => k = D ∨ k = a ∨ k = m) W D a (.slice none 0 0) [] m (.slice none 0 0) [] (.slice none 0 0) (.slice none 0 0) [] := by
  have lt : ∀ {k : Nat} {x : Obj}, W.heap[k]? = some x → k < W.heap.size := fun h => (Array.getElem?_eq_some_iff.1 h).1
  exact ⟨hD, ⟨ha, World.ownsRow_nil _ _ _ _, fun x hx => (absurd hx List.not_mem_nil)⟩, ⟨⟨hm, ⟨World.ownsRow_nil _ _ _ _, fun x hx => (absurd hx List.not_mem_nil)⟩, Nat.zero_le _⟩, rfl⟩, World.ownsRow_nil _ _ _ _, World.ownsRow_nil _ _ _ _, fun t ht => (absurd ht List.not_mem_nil), fun t ht => (absurd ht List.not_mem_nil), ⟨.inl rfl, .inr (.inl rfl), .inr (.inr rfl)⟩, ⟨fun g hg => (by cases hg), fun g hg => (by cases hg), fun g hg => (by cases hg), fun g hg => (by cases hg)⟩, fun x hx => (absurd hx List.not_mem_nil), fun x hx => (absurd hx List.not_mem_nil), fun x hx => (absurd hx List.not_mem_nil), fun k hk => by rcases hk with rfl | rfl | rfl <;> exact lt (by assumption), fun x hx => (absurd hx List.not_mem_nil)⟩
end Go.Proofs.Ytnglgcipjbpgoaa
