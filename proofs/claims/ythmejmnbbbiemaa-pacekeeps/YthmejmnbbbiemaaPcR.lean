/-
  pace.Seq: its iterator, and the law of a range over it: it has no end of its own, so the range's invariant bears a bound.
  KEEP: putObj alloc same block size os tape output mono lt own new
-/
import Derived.Test.YthmejmnbbbiemaaPcL
import Derived.RangeFuncNested
import Derived.RangeFuncCalls
import Derived.RangeFuncLeaves
import Derived.RangeFuncBox
import Derived.Shelf.Abstract
import Derived.Shelf.RegionOpen
import Derived.OwnWalkIn
import Derived.TacticsInMore
import Derived.LoopNIn
import Derived.LoopIn
import Derived.Stop.RegionWithIn
import Derived.Sort.LoopGhostIn
import Derived.Sort.AtCallIn
import Derived.Sort.CutIn
import Derived.Lib.Hide
set_option linter.unusedSimpArgs false
set_option linter.unusedVariables false
namespace Go.Proofs.Ythmejmnbbbiemaa
open Go Go.RowKit Go.Shelf

attribute [local go_sem] Oper.semAt_some

theorem two_ends13 {e : Ending} {P1 P2 : Prop} (h : (e = .returned (.bool true) ∧ P1) ∨ (e = .returned (.bool false) ∧ P2)) : ∃ b : Bool, e = .returned (.bool b) ∧ (b = true → P1) ∧ (b = false → P2) := by
  rcases h with ⟨rfl, h⟩ | ⟨rfl, h⟩
  · exact ⟨true, rfl, fun _ => h, fun e => by cases e⟩
  · exact ⟨false, rfl, (fun e => by cases e), fun _ => h⟩

set_option maxRecDepth 100000 in
set_option maxHeartbeats 1600000 in
theorem seq1_in (k : Nat) (hk : 1 ≤ k) (l M : Nat) (hM : M < 4611686018427387904) (W : World) (J Jx : Nat → World → Prop)
    (hY : ∀ i W1, J i W1 → i < M → YieldAt Fence.wide (k - 1) Try.prog l #[.int .i64 (lub (i + 1))] W1 fun e W' =>
      (e = .returned (.bool true) ∧ J (i + 1) W' ∧ i + 1 < M) ∨ (e = .returned (.bool false) ∧ Jx (i + 1) W')) (h0 : J 0 W) (hM0 : 0 < M) :
    CallsIn Fence.wide k Try.prog 19 #[.func (.yield l) #[] #[]] W fun e W' => (∃ v, e = .returned v) ∧ ∃ i, Jx i W' := by
  have HY : Hid (∀ i W1, J i W1 → i < M → YieldAt Fence.wide (k - 1) Try.prog l #[.int .i64 (lub (i + 1))] W1 fun e W' =>
      (e = .returned (.bool true) ∧ J (i + 1) W' ∧ i + 1 < M) ∨ (e = .returned (.bool false) ∧ Jx (i + 1) W')) := hY
  clear hY
  refine callsIn_of_wp Try.func19 rfl trivial ?_ rfl
  simp only [Try.ntmps19, List.size_toArray, List.length_cons, List.length_nil, Nat.reduceAdd, Nat.reduceSub, Array.replicate_succ, Array.replicate_zero, List.push_toArray, List.append_toArray, List.nil_append, List.cons_append]
  gi_wp2
  gi_loopg [2] M (fun g i wr => ∃ (j : Nat), j + g = M ∧ j < M ∧ i = .int .i64 ((j : Int) + 1) ∧ J j wr)
  case atStart => exact ⟨0, by omega, hM0, rfl, h0⟩
  case round =>
    obtain ⟨j, hj, hjM, rfl, hJ⟩ := hrel
    have HJ : Hid (j + gk = M) := hj
    have HL : Hid (lubI ((j : Int) + 1) = (lub (j + 1) : Int)) := lubI_nat (n := j + 1) (by omega)
    obtain ⟨fn, tmps, assign, body, hy, hR⟩ := HY.out j wr hJ hjM
    clear hj h0 hJ
    gi_wp2_with (first
      | (refine ⟨trivial, ?_⟩; gi_at_call 9; refine (callsIn_wide.2 (luby_any ((j : Int) + 1) _ (by omega) (by omega))).mono ?_; rw [HL.out]; rintro e w2 ⟨rfl, rfl⟩)
      | (refine hR.mono ?_; rintro e w7 h7; obtain ⟨q7, rfl, h8, h9⟩ := two_ends13 h7; clear h7 hR hy; refine Hid.out ?_))
    refine Lib.hid ?_
    cases q7
    · have hx := h9 rfl
      clear h8 h9
      gi_wp2
      refine bodyPost_end (results_none rfl _ _ _) rfl ?_
      exact ⟨⟨_, rfl⟩, _, hx⟩
    · obtain ⟨hJ7, hlt7⟩ := h8 rfl
      clear h8 h9
      gi_wp2
      gi_roundg (gk - 1)
      case measure => have := HJ.out; omega
      case rel => exact ⟨j + 1, by have := HJ.out; omega, hlt7, by go_num, hJ7⟩

/-- what a round leaves -/
def postI (M : Nat) (I : Nat → World → Prop) (Ix : Code → Nat → World → Prop) (i : Nat) (W : World) : Exit → Act → World → Prop
  | .normal, _, W' => KeepsOthers W W' ∧ I i W' ∧ i < M
  | .ret, _, W' => KeepsOthers W W' ∧ Ix .ret i W'
  | .exit id, _, W' => KeepsOthers W W' ∧ Ix (.exit id) i W'
  | .goto t, _, W' => KeepsOthers W W' ∧ Ix (.goto t) i W'
  | _, _, _ => False

/-- THE CALLER's LAW -/
theorem wpIn_rangeI {n : Nat} {g : Operand} {ps : Array Tmp} {assign body : Code} {Q : Exit → Act → World → Prop} {a : Act} {w : World} (h1 : 2 ≤ n)
    (hg : a.eval g = .func (.func 19) #[] #[]) (M : Nat) (hM : M < 4611686018427387904) (hM0 : 0 < M) (hps : ps.size = 1)
    (I : Nat → World → Prop) (Ix : Code → Nat → World → Prop) (hI : OwnFrom w.heap.size I) (hIx : ∀ c, OwnFrom w.heap.size (Ix c)) (h0 : I 0 w) (a₁ : Int → Act)
    (hassign : ∀ (l : Nat) (x : Int) (W : World) (K : Act → World → Prop), K (a₁ x) W →
      assign.wpIn (Fence.wide.inRound l) (n - 1 - 1) Try.prog (Exit.then K (fun _ _ _ => False)) { tmps := (ps.zip #[.int .i64 x]).foldl (fun t (p, v) => t.setIfInBounds p v) a.tmps, defers := [] } W)
    (hbody : ∀ (l i : Nat) (W : World), w.heap.size ≤ l → (∃ r, W.heap[l]? = some (.loop r)) → w.heap.size + 2 ≤ W.heap.size → I i W → i < M → body.wpIn (Fence.wide.inRound l) (n - 1 - 1) Try.prog (postI M I Ix (i + 1) W) (a₁ (lub (i + 1))) W)
    (hstop : ∀ (D : Nat) (c : Code) (i : Nat) (W : World), w.heap.size ≤ D → Ix c i W → W.heap[D]? = some (.deferred (some [])) → c.wpIn Fence.wide n Try.prog Q { a with defers := { target := .collected D, args := #[] } :: a.defers } W) :
    (Code.rangeFunc g ps assign body).wpIn Fence.wide n Try.prog Q a w := by
  refine wpIn_rangeFunc fun fn hfn => ?_
  rw [show Fence.wide.round = none from rfl]
  let rec0 : LoopState → Option Code → Loop := fun st pe => { state := st, pending := pe, fn, tmps := a.tmps, params := ps, assign, body, defers := w.heap.size }
  let W1 : World := (w.alloc (.deferred (some []))).alloc (.loop (rec0 .ready none))
  have szW1 : W1.heap.size = w.heap.size + 2 := by simp [W1]
  have atL : W1.heap[w.heap.size + 1]? = some (.loop (rec0 .ready none)) := by
    have := World.alloc_heap_new (w.alloc (.deferred (some []))) (.loop (rec0 .ready none))
    rwa [World.size_alloc] at this
  have atD : W1.heap[w.heap.size]? = some (.deferred (some [])) := (Below.heap_alloc _ _ _ (by simp)).trans (World.alloc_heap_new w _)
  have iW1 : I 0 W1 := hI.alloc _ (hI.alloc _ h0)
  refine ⟨w.heap.size + 1, [{ target := .collected w.heap.size, args := #[] }], W1, { target := .fn (.func 19) #[], args := #[.func (.yield (w.heap.size + 1)) #[] #[]] }, W1, 19,
    #[.func (.yield (w.heap.size + 1)) #[] #[]] ++ #[], W1, run_enterLoop_outer _ _ _ _ _, ?_, ?_, ?_, fun _ => by omega, ?_⟩
  · simp only [resolve, hg]
    simp [go_sem]
  · intro f' hf'
    trivial
  · simp [invoke, go_sem, enters_of Try.func19 (by kernel_rfl) rfl]
  refine (seq1_in (n - 1) (by omega) (w.heap.size + 1) M hM W1
    (fun i W => I i W ∧ W.heap[w.heap.size + 1]? = some (.loop (rec0 .ready none)) ∧ W.heap[w.heap.size]? = some (.deferred (some [])))
    (fun i W => ∃ c, Ix c i W ∧ W.heap[w.heap.size + 1]? = some (.loop (rec0 .done (some c))) ∧ W.heap[w.heap.size]? = some (.deferred (some [])))
    ?_ ⟨iW1, atL, atD⟩ hM0).mono ?_
  · -- one round
    rintro i W ⟨hi, hl, hk⟩ hiM
    have hin : w.heap.size + 1 < W.heap.size := (Array.getElem?_eq_some_iff.1 hl).1
    have hy := run_yield (P := Try.prog) (args := #[.int .i64 (lub (i + 1))]) hl (by show _ = ps.size; rw [hps]; rfl)
    refine ⟨fn, _, assign, body, hy, roundIn_of_wpIn hfn (hassign _ _ W _ ⟨_, run_beginRound hl rfl, ?_⟩)⟩
    let busy : Loop := { rec0 .ready none with state := .busy }
    have lB : (W.putObj (w.heap.size + 1) (.loop busy)).heap[w.heap.size + 1]? = some (.loop busy) := World.putObj_heap_same hin
    have dB : (W.putObj (w.heap.size + 1) (.loop busy)).heap[w.heap.size]? = some (.deferred (some [])) := (World.putObj_heap_other (by omega)).trans hk
    refine wpIn_mono (hbody _ i _ (by omega) ⟨_, lB⟩ (by simp only [World.putObj, Array.size_setIfInBounds]; omega) (hI.putObj _ hi (by omega) hl rfl) hiM) ?_
    have close : ∀ (jump : Option Code) (W3 : World), KeepsOthers (W.putObj (w.heap.size + 1) (.loop busy)) W3 →
        (Instr.endRound (w.heap.size + 1) jump).run Try.prog W3 = .ok (.bool jump.isNone) (W3.putObj (w.heap.size + 1) (.loop (rec0 (if jump.isNone then .ready else .done) jump))) ∧
        W3.heap[w.heap.size + 1]? = some (.loop busy) ∧
        (W3.putObj (w.heap.size + 1) (.loop (rec0 (if jump.isNone then .ready else .done) jump))).heap[w.heap.size + 1]? = some (.loop (rec0 (if jump.isNone then .ready else .done) jump)) ∧
        (W3.putObj (w.heap.size + 1) (.loop (rec0 (if jump.isNone then .ready else .done) jump))).heap[w.heap.size]? = some (.deferred (some [])) := fun jump W3 k3 => by
      have l3 := k3.same _ _ lB rfl
      exact ⟨run_endRound (P := Try.prog) jump l3, l3, World.putObj_heap_same (Array.getElem?_eq_some_iff.1 l3).1, (World.putObj_heap_other (by omega)).trans (k3.same _ _ dB rfl)⟩
    rintro e a3 W3 hp
    cases e with
    | normal =>
      obtain ⟨k3, i3, hlt⟩ := hp
      obtain ⟨hr, l3, l4, d4⟩ := close none W3 k3
      exact ⟨_, _, hr, .inl ⟨rfl, ⟨hI.putObj _ i3 (by omega) l3 rfl, l4, d4⟩, hlt⟩⟩
    | ret =>
      obtain ⟨k3, i3⟩ := hp
      obtain ⟨hr, l3, l4, d4⟩ := close (some .ret) W3 k3
      exact ⟨_, _, hr, .inr ⟨rfl, .ret, (hIx _).putObj _ i3 (by omega) l3 rfl, l4, d4⟩⟩
    | exit id =>
      obtain ⟨k3, i3⟩ := hp
      obtain ⟨hr, l3, l4, d4⟩ := close (some (.exit id)) W3 k3
      exact ⟨_, _, hr, .inr ⟨rfl, .exit id, (hIx _).putObj _ i3 (by omega) l3 rfl, l4, d4⟩⟩
    | goto t =>
      obtain ⟨k3, i3⟩ := hp
      obtain ⟨hr, l3, l4, d4⟩ := close (some (.goto t)) W3 k3
      exact ⟨_, _, hr, .inr ⟨rfl, .goto t, (hIx _).putObj _ i3 (by omega) l3 rfl, l4, d4⟩⟩
    | panic ch => exact hp.elim
    | outgrown => exact hp.elim
  · -- behind the iterator
    rintro e W2 ⟨⟨v, rfl⟩, i, c, hi, hl, hk⟩
    exact ⟨some c, _, run_endLoop (P := Try.prog) hl (by simp [rec0]), hstop _ c i _ (Nat.le_refl _) ((hIx c).putObj _ hi (by omega) hl rfl) ((World.putObj_heap_other (by omega)).trans hk)⟩

/-- THE SAME WITHIN A ROUND of another range -/
theorem wpIn_rangeJ {n : Nat} {g : Operand} {ps : Array Tmp} {assign body : Code} {Q : Exit → Act → World → Prop} {a : Act} {w : World} {l₀ : Nat} {r₀ : Loop} (hl₀ : w.heap[l₀]? = some (.loop r₀)) (h1 : 2 ≤ n)
    (hg : a.eval g = .func (.func 19) #[] #[]) (M : Nat) (hM : M < 4611686018427387904) (hM0 : 0 < M) (hps : ps.size = 1)
    (I : Nat → World → Prop) (Ix : Code → Nat → World → Prop) (hI : OwnFrom w.heap.size I) (hIx : ∀ c, OwnFrom w.heap.size (Ix c)) (h0 : I 0 w) (a₁ : Int → Act)
    (hassign : ∀ (l : Nat) (x : Int) (W : World) (K : Act → World → Prop), K (a₁ x) W →
      assign.wpIn ((Fence.wide.inRound l₀).inRound l) (n - 1 - 1) Try.prog (Exit.then K (fun _ _ _ => False)) { tmps := (ps.zip #[.int .i64 x]).foldl (fun t (p, v) => t.setIfInBounds p v) a.tmps, defers := [] } W)
    (hbody : ∀ (l i : Nat) (W : World), w.heap.size ≤ l → w.heap.size + 1 ≤ W.heap.size → I i W → i < M → body.wpIn ((Fence.wide.inRound l₀).inRound l) (n - 1 - 1) Try.prog (postI M I Ix (i + 1) W) (a₁ (lub (i + 1))) W)
    (hstop : ∀ (c : Code) (i : Nat) (W : World), Ix c i W → c.wpIn (Fence.wide.inRound l₀) n Try.prog Q a W) :
    (Code.rangeFunc g ps assign body).wpIn (Fence.wide.inRound l₀) n Try.prog Q a w := by
  refine wpIn_rangeFunc fun fn hfn => ?_
  rw [show (Fence.wide.inRound l₀).round = some l₀ from rfl]
  let rec0 : LoopState → Option Code → Loop := fun st pe => { state := st, pending := pe, fn, tmps := a.tmps, params := ps, assign, body, defers := r₀.defers }
  let W1 : World := w.alloc (.loop (rec0 .ready none))
  have szW1 : W1.heap.size = w.heap.size + 1 := by simp [W1]
  have atL : W1.heap[w.heap.size]? = some (.loop (rec0 .ready none)) := World.alloc_heap_new w _
  have iW1 : I 0 W1 := hI.alloc _ h0
  refine ⟨w.heap.size, [], W1, { target := .fn (.func 19) #[], args := #[.func (.yield w.heap.size) #[] #[]] }, W1, 19,
    #[.func (.yield w.heap.size) #[] #[]] ++ #[], W1, run_enterLoop_inner hl₀ _ _ _ _ _, ?_, ?_, ?_, fun _ => by omega, ?_⟩
  · simp only [resolve, hg]
    simp [go_sem]
  · intro f' hf'
    trivial
  · simp [invoke, go_sem, enters_of Try.func19 (by kernel_rfl) rfl]
  have hcall := seq1_in (n - 1) (by omega) w.heap.size M hM W1
    (fun i W => I i W ∧ W.heap[w.heap.size]? = some (.loop (rec0 .ready none)))
    (fun i W => ∃ c, Ix c i W ∧ W.heap[w.heap.size]? = some (.loop (rec0 .done (some c))))
    ?_ ⟨iW1, atL⟩ hM0
  · refine (CallsIn.inRound l₀ hcall).mono ?_
    rintro e W2 ⟨⟨v, rfl⟩, i, c, hi, hl⟩
    exact ⟨some c, _, run_endLoop (P := Try.prog) hl (by simp [rec0]), hstop c i _ ((hIx c).putObj _ hi (by omega) hl rfl)⟩
  · rintro i W ⟨hi, hl⟩ hiM
    have hin : w.heap.size < W.heap.size := (Array.getElem?_eq_some_iff.1 hl).1
    have hy := run_yield (P := Try.prog) (args := #[.int .i64 (lub (i + 1))]) hl (by show _ = ps.size; rw [hps]; rfl)
    refine ⟨fn, _, assign, body, hy, roundIn_of_wpIn (F := Fence.wide) hfn (hassign w.heap.size _ W _ ⟨_, run_beginRound hl rfl, ?_⟩)⟩
    let busy : Loop := { rec0 .ready none with state := .busy }
    have lB : (W.putObj w.heap.size (.loop busy)).heap[w.heap.size]? = some (.loop busy) := World.putObj_heap_same hin
    refine wpIn_mono (hbody _ i _ (by omega) (by simp only [World.putObj, Array.size_setIfInBounds]; omega) (hI.putObj _ hi (by omega) hl rfl) hiM) ?_
    have close : ∀ (jump : Option Code) (W3 : World), KeepsOthers (W.putObj w.heap.size (.loop busy)) W3 →
        (Instr.endRound w.heap.size jump).run Try.prog W3 = .ok (.bool jump.isNone) (W3.putObj w.heap.size (.loop (rec0 (if jump.isNone then .ready else .done) jump))) ∧
        W3.heap[w.heap.size]? = some (.loop busy) ∧
        (W3.putObj w.heap.size (.loop (rec0 (if jump.isNone then .ready else .done) jump))).heap[w.heap.size]? = some (.loop (rec0 (if jump.isNone then .ready else .done) jump)) := fun jump W3 k3 => by
      have l3 := k3.same _ _ lB rfl
      exact ⟨run_endRound (P := Try.prog) jump l3, l3, World.putObj_heap_same (Array.getElem?_eq_some_iff.1 l3).1⟩
    rintro e a3 W3 hp
    cases e with
    | normal =>
      obtain ⟨k3, i3, hlt⟩ := hp
      obtain ⟨hr, l3, l4⟩ := close none W3 k3
      exact ⟨_, _, hr, .inl ⟨rfl, ⟨hI.putObj _ i3 (by omega) l3 rfl, l4⟩, hlt⟩⟩
    | ret =>
      obtain ⟨k3, i3⟩ := hp
      obtain ⟨hr, l3, l4⟩ := close (some .ret) W3 k3
      exact ⟨_, _, hr, .inr ⟨rfl, .ret, (hIx _).putObj _ i3 (by omega) l3 rfl, l4⟩⟩
    | exit id =>
      obtain ⟨k3, i3⟩ := hp
      obtain ⟨hr, l3, l4⟩ := close (some (.exit id)) W3 k3
      exact ⟨_, _, hr, .inr ⟨rfl, .exit id, (hIx _).putObj _ i3 (by omega) l3 rfl, l4⟩⟩
    | goto t =>
      obtain ⟨k3, i3⟩ := hp
      obtain ⟨hr, l3, l4⟩ := close (some (.goto t)) W3 k3
      exact ⟨_, _, hr, .inr ⟨rfl, .goto t, (hIx _).putObj _ i3 (by omega) l3 rfl, l4⟩⟩
    | panic ch => exact hp.elim
    | outgrown => exact hp.elim
end Go.Proofs.Ythmejmnbbbiemaa
