/-
  A range over drat.Steps: the caller's law.
  KEEP: putObj alloc same block size os tape output mono lt own new
-/
import Derived.Test.YtaipajalkendaaaDoorDrSY
set_option linter.unusedSimpArgs false
set_option linter.unusedVariables false
namespace Go.Proofs.YtaipajalkendaaaDoor
open Go Go.RowKit Go.Lib Go.Sort Go.Shelf

theorem room_none {F : Fence} (hd : F.depth = none) (k : Nat) : F.room k := fun d h => by rw [hd] at h; cases h
theorem round_any {F : Fence} (hd : F.depth = none) {m m' : Nat} {P : Program} {l : Nat} {f : FuncId} {tmps : Array Value} {assign body : Code} {w : World} {R : Ending → World → Prop} (h : RoundIn F m P l f tmps assign body w R) : RoundIn F m' P l f tmps assign body w R := ⟨h.1, fun c cs _ => h.2 c cs (room_none hd _)⟩
/-- what a round keeps of the iterator's blocks -/
def KpD (Q : Nat → Prop) (A B : World) : Prop := (∀ k, Q k → B.heap[k]? = A.heap[k]?) ∧ A.heap.size ≤ B.heap.size

theorem wpIn_rangeD {n : Nat} {g : Operand} {ps : Array Tmp} {assign body : Code} {Q : Exit → Act → World → Prop} {a : Act} {w : World} (h1 : 1 ≤ n) {Bs : Nat} {s : ByteArray} {FS : List Stp}
    (hg : a.eval g = .func (.func 36) #[] #[.pointer (some ⟨Bs, 0, none⟩)]) (hbs : w.cell? ⟨Bs, 0, none⟩ = some (.string s)) (hs : s.size ≤ 1099511627776) (hFS : FS = (parD s.data.toList).1) (hps : ps.size = 1)
    (I : (Nat → Prop) → List SV → World → Prop) (Ix : Code → List SV → World → Prop) (hI : ∀ Q, OwnFrom w.heap.size (I Q)) (hI2 : ∀ Q Q' s A B, I Q s A → Mq A Q B Q' → I Q' s B) (hIx : ∀ c, OwnFrom w.heap.size (Ix c)) (hIE : ∀ Q s A, I Q s A → Env A) (h0 : I (fun _ => False) [] w) (a₁ : SV → Nat → Act)
    (hassign : ∀ (l : Nat) (x : SV) (W : World) (K : Act → World → Prop), (∃ aa cc, x.2.1 = .slice aa x.2.2.length cc) → K (a₁ x W.heap.size) (W.alloc (.cells #[.bool x.1, x.2.1] 41)) →
      assign.wpIn (Fence.wide.inRound l) (n - 1 - 1) Tryd.prog (Exit.then K (fun _ _ _ => False)) { tmps := (ps.zip #[Value.agg #[.bool x.1, x.2.1]]).foldl (fun t (p, v) => t.setIfInBounds p v) a.tmps, defers := [] } W)
    (hbody : ∀ (l : Nat) (Qs : Nat → Prop) (pre : List SV) (x : SV) (S0 Bx : Nat) (W : World), I Qs pre W → (∀ k, Qs k → w.heap.size + 2 ≤ k ∧ k < Bx) → svS (pre ++ [x]) <+: FS → w.heap.size + 2 ≤ S0 → S0 ≤ Bx → Own S0 W x.2.1 x.2.2 → (∀ k, some k = x.2.1.ownBlock → ¬ Qs k) → x.2.2.length ≤ 1099511627777 → Bx2 W Bx 41 (.bool x.1) x.2.1 →
      body.wpIn (Fence.wide.inRound l) (n - 1 - 1) Tryd.prog (ownPostK (KpD Qs) (I Qs) Ix (pre ++ [x]) W) (a₁ x Bx) W)
    (hdone : ∀ (D : Nat) (Qs : Nat → Prop) (xs : List SV) (W : World), w.heap.size ≤ D → svS xs = FS → I Qs xs W → W.heap[D]? = some (.deferred (some [])) → Q .normal { a with defers := { target := .collected D, args := #[] } :: a.defers } W)
    (hstop : ∀ (D : Nat) (c : Code) (pre : List SV) (W : World), w.heap.size ≤ D → svS pre <+: FS → Ix c pre W → W.heap[D]? = some (.deferred (some [])) → c.wpIn Fence.wide n Tryd.prog Q { a with defers := { target := .collected D, args := #[] } :: a.defers } W) :
    (Code.rangeFunc g ps assign body).wpIn Fence.wide n Tryd.prog Q a w := by
  refine wpIn_rangeFunc fun fn hfn => ?_
  rw [show Fence.wide.round = none from rfl]
  let rec0 : LoopState → Option Code → Loop := fun st pe => { state := st, pending := pe, fn, tmps := a.tmps, params := ps, assign, body, defers := w.heap.size }
  let W1 : World := (w.alloc (.deferred (some []))).alloc (.loop (rec0 .ready none))
  have szW1 : W1.heap.size = w.heap.size + 2 := by simp [W1]
  have atL : W1.heap[w.heap.size + 1]? = some (.loop (rec0 .ready none)) := by
    have := World.alloc_heap_new (w.alloc (.deferred (some []))) (.loop (rec0 .ready none))
    rwa [World.size_alloc] at this
  have atD : W1.heap[w.heap.size]? = some (.deferred (some [])) := (Below.heap_alloc _ _ _ (by simp)).trans (World.alloc_heap_new w _)
  have iW1 : I (fun _ => False) [] W1 := (hI _).alloc _ ((hI _).alloc _ h0)
  have bW1 : W1.cell? ⟨Bs, 0, none⟩ = some (.string s) := by
    have hlt : Bs < w.heap.size := World.block_lt_of_cell? w _ hbs
    rw [World.cell?_of_block (w := w)]
    · exact hbs
    · exact (Below.heap_alloc _ _ _ (by simp; omega)).trans (Below.heap_alloc _ _ _ hlt)
  refine ⟨w.heap.size + 1, [{ target := .collected w.heap.size, args := #[] }], W1, { target := .fn (.func 36) #[.pointer (some ⟨Bs, 0, none⟩)], args := #[.func (.yield (w.heap.size + 1)) #[] #[]] }, W1, 36,
    #[.func (.yield (w.heap.size + 1)) #[] #[]] ++ #[.pointer (some ⟨Bs, 0, none⟩)], W1, run_enterLoop_outer _ _ _ _ _, ?_, ?_, ?_, fun _ => h1, ?_⟩
  · simp only [resolve, hg]
    simp [go_sem]
  · intro f' hf'
    trivial
  · simp [invoke, go_sem, enters_of Tryd.func36 (by kernel_rfl) rfl]
  refine (callsIn_wide.2 (iterD_any (N := w.heap.size + 2) (ly := w.heap.size + 1) (FS := FS)
    (J := fun Qs pre W => I Qs pre W ∧ (∀ k, Qs k → w.heap.size + 2 ≤ k) ∧ W.heap[w.heap.size + 1]? = some (.loop (rec0 .ready none)) ∧ W.heap[w.heap.size]? = some (.deferred (some [])))
    (Jx := fun pre W => ∃ c, Ix c pre W ∧ W.heap[w.heap.size + 1]? = some (.loop (rec0 .done (some c))) ∧ W.heap[w.heap.size]? = some (.deferred (some [])))
    s Bs W1 szW1 bW1 hs hFS ?_ ?_ ?_ ⟨iW1, fun k hk => hk.elim, atL, atD⟩)).mono ?_
  · rintro Q1 Q2 pre A B ⟨j1, j2, j3, j4⟩ hm
    have hL := (Array.getElem?_eq_some_iff.1 j3).1
    refine ⟨hI2 _ _ _ _ _ j1 hm, fun k hk => ?_, (hm.block _ hL (fun hq => by have := j2 _ hq; omega)).trans j3, (hm.block _ (by omega) (fun hq => by have := j2 _ hq; omega)).trans j4⟩
    rcases hm.new k hk with h | h
    · exact j2 k h
    · omega
  · rintro Q1 pre A ⟨j1, _⟩
    exact hIE _ _ _ j1
  · -- one round
    rintro Qs pre x S0 W ⟨hi, hq0, hl, hk⟩ hqr hpre hS0 hown hxq hlen m
    have hin : w.heap.size + 1 < W.heap.size := (Array.getElem?_eq_some_iff.1 hl).1
    have hy := run_yield (P := Tryd.prog) (args := #[Value.agg #[.bool x.1, x.2.1]]) hl (by rw [hps]; rfl)
    obtain ⟨aa, cc, hxv⟩ := own_form hown
    have hSW : S0 ≤ W.heap.size ∨ True := .inr trivial
    have ow : Below W.heap.size W (W.alloc (.cells #[.bool x.1, x.2.1] 41)) := below_box _ _
    obtain ⟨Wb, hWb⟩ : ∃ Wb, Wb = W.alloc (.cells #[.bool x.1, x.2.1] 41) := ⟨_, rfl⟩
    have szb : Wb.heap.size = W.heap.size + 1 := by rw [hWb]; simp
    have oldb : ∀ k, k < W.heap.size → Wb.heap[k]? = W.heap[k]? := fun k hk => by rw [hWb]; exact Below.heap_alloc _ _ _ hk
    have hlb : Wb.heap[w.heap.size + 1]? = some (.loop (rec0 .ready none)) := (oldb _ hin).trans hl
    have hkb : Wb.heap[w.heap.size]? = some (.deferred (some [])) := (oldb _ (by omega)).trans hk
    have hib : I Qs pre Wb := by rw [hWb]; exact (hI Qs).alloc _ hi
    have hbx : Bx2 Wb W.heap.size 41 (.bool x.1) x.2.1 := by rw [hWb]; exact Bx2.new _ _ _ _
    have hob : Own (min S0 W.heap.size) Wb x.2.1 x.2.2 := by rw [hWb]; exact (World.ownsRow.alloc (hown.mono (Nat.min_le_left _ _)) _)
    refine ⟨fn, _, assign, body, hy, round_any (m := n - 1 - 1) rfl (roundIn_of_wpIn hfn (hassign _ x W _ ⟨aa, cc, hxv⟩ ⟨_, by rw [← hWb]; exact run_beginRound hlb rfl, ?_⟩))⟩
    let busy : Loop := { rec0 .ready none with state := .busy }
    have hinb : w.heap.size + 1 < Wb.heap.size := by omega
    have lB : (Wb.putObj (w.heap.size + 1) (.loop busy)).heap[w.heap.size + 1]? = some (.loop busy) := World.putObj_heap_same hinb
    have dB : (Wb.putObj (w.heap.size + 1) (.loop busy)).heap[w.heap.size]? = some (.deferred (some [])) := (World.putObj_heap_other (by omega)).trans hkb
    have othB : ∀ k, k ≠ w.heap.size + 1 → (Wb.putObj (w.heap.size + 1) (.loop busy)).heap[k]? = Wb.heap[k]? := fun k hk => World.putObj_heap_other hk
    have szB : (Wb.putObj (w.heap.size + 1) (.loop busy)).heap.size = Wb.heap.size := by simp [World.putObj]
    refine wpIn_mono (hbody _ Qs pre x (min S0 W.heap.size) W.heap.size _ ((hI Qs).putObj _ hib (by omega) hlb rfl) (fun k hk => ⟨hq0 k hk, (hqr k hk).2⟩) hpre (by omega) (Nat.min_le_right _ _) (own_keep9 hob fun k hk => othB k (by have := (hob.lt k hk.symm).1; omega)) hxq hlen ((othB _ (by omega)).trans hbx)) ?_
    have close : ∀ (jump : Option Code) (W3 : World), KeepsOthers (Wb.putObj (w.heap.size + 1) (.loop busy)) W3 →
        (Instr.endRound (w.heap.size + 1) jump).run Tryd.prog W3 = .ok (.bool jump.isNone) (W3.putObj (w.heap.size + 1) (.loop (rec0 (if jump.isNone then .ready else .done) jump))) ∧
        W3.heap[w.heap.size + 1]? = some (.loop busy) ∧
        (W3.putObj (w.heap.size + 1) (.loop (rec0 (if jump.isNone then .ready else .done) jump))).heap[w.heap.size + 1]? = some (.loop (rec0 (if jump.isNone then .ready else .done) jump)) ∧
        (W3.putObj (w.heap.size + 1) (.loop (rec0 (if jump.isNone then .ready else .done) jump))).heap[w.heap.size]? = some (.deferred (some [])) := fun jump W3 k3 => by
      have l3 := k3.same _ _ lB rfl
      exact ⟨run_endRound (P := Tryd.prog) jump l3, l3, World.putObj_heap_same (Array.getElem?_eq_some_iff.1 l3).1, (World.putObj_heap_other (by omega)).trans (k3.same _ _ dB rfl)⟩
    rintro e a3 W3 hp
    cases e with
    | normal =>
      obtain ⟨k3, kp3, i3⟩ := hp
      obtain ⟨hr, l3, l4, d4⟩ := close none W3 k3
      refine ⟨_, _, hr, .inl ⟨rfl, ⟨(hI Qs).putObj _ i3 (by omega) l3 rfl, hq0, l4, d4⟩, fun k hk => ?_, ?_⟩⟩
      · have hk2 : k ≠ w.heap.size + 1 := by have := hq0 k hk; omega
        rw [World.putObj_heap_other hk2, kp3.1 k hk, othB k hk2]
        exact oldb k (hqr k hk).2
      · have := kp3.2; simp only [World.putObj, Array.size_setIfInBounds] at this ⊢; omega
    | ret =>
      obtain ⟨k3, i3⟩ := hp
      obtain ⟨hr, l3, l4, d4⟩ := close (some .ret) W3 k3
      exact ⟨_, _, hr, .inr ⟨rfl, .ret, (hIx _).putObj _ i3 (by omega) l3 rfl, l4, d4⟩⟩
    | exit id =>
      obtain ⟨k3, i3⟩ := hp
      obtain ⟨hr, l3, l4, d4⟩ := close (some (.exit id)) W3 k3
      exact ⟨_, _, hr, .inr ⟨rfl, .exit id, (hIx _).putObj _ i3 (by omega) l3 rfl, l4, d4⟩⟩
    | goto t =>
      obtain ⟨k3, i3⟩ := hp
      obtain ⟨hr, l3, l4, d4⟩ := close (some (.goto t)) W3 k3
      exact ⟨_, _, hr, .inr ⟨rfl, .goto t, (hIx _).putObj _ i3 (by omega) l3 rfl, l4, d4⟩⟩
    | panic ch => exact hp.elim
    | outgrown => exact hp.elim
  · -- behind the iterator
    rintro e W2 ⟨⟨v, rfl⟩, (⟨xs, Qs, hS, hi, hq, hl, hk⟩ | ⟨pre, hSp, c, hi, hl, hk⟩)⟩
    · exact ⟨none, _, run_endLoop (P := Tryd.prog) hl (by simp [rec0]), hdone _ Qs xs _ (Nat.le_refl _) hS ((hI Qs).putObj _ hi (by omega) hl rfl) ((World.putObj_heap_other (by omega)).trans hk)⟩
    · exact ⟨some c, _, run_endLoop (P := Tryd.prog) hl (by simp [rec0]), hstop _ c pre _ (Nat.le_refl _) hSp ((hIx c).putObj _ hi (by omega) hl rfl) ((World.putObj_heap_other (by omega)).trans hk)⟩

end Go.Proofs.YtaipajalkendaaaDoor
