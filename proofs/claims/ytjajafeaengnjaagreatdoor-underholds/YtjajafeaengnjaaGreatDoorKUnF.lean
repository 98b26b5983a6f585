/-
  unit: footprints; what waits as it lies in memory.
  KEEP: set on app at below new trans refl start ap kept rd rds mono lt add none own nil
-/
import Derived.Test.YtjajafeaengnjaaGreatDoorKTrW
import Derived.Test.YtjajafeaengnjaaGreatDoorUnB
import Derived.Test.YtjajafeaengnjaaGreatDoorJTidy
import Derived.Laws.BitsAllLaws
import Derived.Laws.Bits64b
set_option linter.unusedSimpArgs false
set_option linter.unusedVariables false
namespace Go.Proofs.YtjajafeaengnjaaGreatDoor
open Go Go.RowKit

/-- what a step leaves as it was, outside of what is its own -/
structure Mo (w : World) (P : Nat → Prop) (w' : World) (P' : Nat → Prop) : Prop where
  os : w'.os = w.os
  tape : w'.tape = w.tape
  output : w'.output = w.output
  size : w.heap.size ≤ w'.heap.size
  block : ∀ k, k < w.heap.size → ¬ P k → w'.heap[k]? = w.heap[k]?
  new : ∀ k, P' k → P k ∨ w.heap.size ≤ k
theorem Mo.refl (w : World) (P : Nat → Prop) : Mo w P w P := ⟨rfl, rfl, rfl, Nat.le_refl _, fun _ _ _ => rfl, fun _ h => .inl h⟩
theorem Mo.below {w w' : World} {P : Nat → Prop} (h : Below w.heap.size w w') : Mo w P w' P := ⟨h.os, h.tape, h.output, h.size, fun k hk _ => h.block k hk, fun _ h => .inl h⟩
theorem Mo.trans {w w1 w2 : World} {P P1 P2 : Nat → Prop} (h : Mo w P w1 P1) (k : Mo w1 P1 w2 P2) : Mo w P w2 P2 :=
  ⟨k.os.trans h.os, k.tape.trans h.tape, k.output.trans h.output, Nat.le_trans h.size k.size,
    fun i hi h1 => (k.block i (Nat.lt_of_lt_of_le hi h.size) (fun h2 => by
      rcases h.new i h2 with h3 | h3
      · exact h1 h3
      · omega)).trans (h.block i hi h1),
    fun i hi => by
      rcases k.new i hi with h1 | h1
      · exact h.new i h1
      · exact .inr (Nat.le_trans h.size h1)⟩
theorem Mo.wide {w w' : World} {P P' R : Nat → Prop} (h : Mo w P w' P') (h1 : ∀ k, P k → R k) : Mo w R w' (fun k => R k) := ⟨h.os, h.tape, h.output, h.size, fun k hk hn => h.block k hk (fun hp => hn (h1 k hp)), fun k hk => .inl hk⟩
theorem Mo.bel {w0 w w' : World} {P P' : Nat → Prop} (h : Below w0.heap.size w0 w) (hp : ∀ k, P k → w0.heap.size ≤ k) (hm : Mo w P w' P') : Below w0.heap.size w0 w' :=
  h.trans ⟨hm.os, hm.tape, hm.output, hm.size, fun k hk => hm.block k (Nat.lt_of_lt_of_le hk h.size) (fun ho => by have := hp k ho; omega)⟩
theorem Mo.set (w : World) (g k : Nat) (v : Value) {P : Nat → Prop} (h : P g) : Mo w P (w.setCell ⟨g, k, none⟩ v) P := by
  have hg := grown_set w ⟨g, k, none⟩ v
  refine ⟨hg.os, hg.tape, hg.output, hg.size, fun i hi h1 => hg.block i hi (fun e => h1 ?_), fun _ h => .inl h⟩
  have e2 : i = g := by simpa using e
  rw [e2]; exact h

abbrev Lev := Value × List Nat
def u64s (ws : List Nat) : List Value := ws.map fun (x : Nat) => Value.int .u64 (x : Int)
/-- what waits, as it lies -/
structure Wt (B : Nat) (W : World) (v : Value) (Ls : List Lev) : Prop where
  row : W.ownsRow B 159 1 v Ls.length (Ls.map Prod.fst)
  lv : ∀ c ∈ Ls, W.ownsRow B 117 1 c.1 c.2.length (u64s c.2)
  ap : Ls.Pairwise (fun x y => x.1.ownBlock ≠ y.1.ownBlock)
def wown (v : Value) (fs : List Value) (k : Nat) : Prop := some k = v.ownBlock ∨ ∃ f ∈ fs, some k = f.ownBlock
section
variable {B : Nat} {W W' : World} {v : Value} {Ls : List Lev}
theorem Wt.lt (h : Wt B W v Ls) : ∀ k, wown v (Ls.map Prod.fst) k → B ≤ k ∧ k < W.heap.size := by
  rintro k (hk | ⟨f, hf, hk⟩)
  · exact h.row.lt k hk.symm
  · obtain ⟨c, hc, rfl⟩ := List.mem_map.1 hf
    exact (h.lv c hc).lt k hk.symm
theorem Wt.kept (h : Wt B W v Ls) (hk : ∀ k, wown v (Ls.map Prod.fst) k → W'.heap[k]? = W.heap[k]?) : Wt B W' v Ls :=
  ⟨row_kept h.row fun k e => hk k (.inl e), fun c hc => row_kept (h.lv c hc) fun k e => hk k (.inr ⟨c.1, List.mem_map_of_mem hc, e⟩), h.ap⟩
theorem Wt.set (h : Wt B W v Ls) {j i g len cap : Nat} {ws : List Nat} (hj : Ls[j]? = some (.slice (some ⟨g, 0, none⟩) len cap, ws)) (hi : i < ws.length) (x : Nat) :
    Wt B (W.setCell ⟨g, i, none⟩ (.int .u64 (x : Int))) v (Ls.set j (.slice (some ⟨g, 0, none⟩) len cap, ws.set i x)) := by
  obtain ⟨hlt, he⟩ := List.getElem?_eq_some_iff.1 hj
  have hmem : (Value.slice (some ⟨g, 0, none⟩) len cap, ws) ∈ Ls := he ▸ List.getElem_mem hlt
  have hg := grown_set W ⟨g, i, none⟩ (.int .u64 (x : Int))
  have hfst : (Ls.set j (Value.slice (some ⟨g, 0, none⟩) len cap, ws.set i x)).map Prod.fst = Ls.map Prod.fst := by
    rw [List.map_set]
    apply List.ext_getElem?
    intro q
    by_cases e : j = q
    · subst e
      rw [List.getElem?_set_self (by simpa using hlt), List.getElem?_map, hj]; rfl
    · rw [List.getElem?_set_ne e]
  have hown := h.lv _ hmem
  have hlen : len = ws.length := by
    rcases row_form' hown with ⟨a, c, e⟩
    injection e
  have hne : ∀ (q : Nat) (c : Lev), q ≠ j → Ls[q]? = some c → c.1.ownBlock ≠ some g := by
    intro q c hq hc hcg
    obtain ⟨hq1, hq2⟩ := List.getElem?_eq_some_iff.1 hc
    have hp := List.pairwise_iff_getElem.1 h.ap
    rcases Nat.lt_or_gt_of_ne hq with a | a
    · have := hp q j hq1 hlt a
      rw [hq2, he] at this
      exact this hcg
    · have := hp j q hlt hq1 a
      rw [hq2, he] at this
      exact this hcg.symm
  refine ⟨?_, ?_, ?_⟩
  · rw [List.length_set, hfst]
    exact row_apart (by decide) h.row hown (by simpa [Value.ownBlock] using hg)
  · intro c hc
    obtain ⟨q, hq, hqe⟩ := List.getElem_of_mem hc
    have hq2 : (Ls.set j (Value.slice (some ⟨g, 0, none⟩) len cap, ws.set i x))[q]? = some c := by rw [List.getElem?_eq_getElem hq, hqe]
    by_cases e : j = q
    · subst e
      rw [List.getElem?_set_self hlt] at hq2
      injection hq2 with hq2
      subst hq2
      have : u64s (ws.set i x) = (u64s ws).set i (.int .u64 (x : Int)) := by unfold u64s; rw [List.map_set]
      show World.ownsRow _ _ _ _ _ (ws.set i x).length (u64s (ws.set i x))
      rw [this, List.length_set]
      have hown' := hown
      rw [hlen] at hown' ⊢
      exact own_cell hown' (by omega) _
    · rw [List.getElem?_set_ne e] at hq2
      have hq3 : c ∈ Ls := List.mem_of_getElem? hq2
      refine row_kept (h.lv c hq3) fun k hk => hg.block k ((h.lv c hq3).lt k hk.symm).2 fun e2 => ?_
      exact hne q c (Ne.symm e) hq2 (by rw [← hk]; simpa using e2)
  · have hap := h.ap
    have h2 : ∀ {L : List Lev}, L.Pairwise (fun x y => x.1.ownBlock ≠ y.1.ownBlock) ↔ (L.map Prod.fst).Pairwise (fun x y => x.ownBlock ≠ y.ownBlock) := fun {L} => by rw [List.pairwise_map]
    rw [h2, hfst, ← h2]
    exact hap
end
/-- what waits: the numbers of Q, all of them below N -/
def Wq (B : Nat) (W : World) (v : Value) (fs : List Value) (N : Nat) (Q : Nat → Bool) : Prop := ∃ Ls : List Lev, Ls.map Prod.fst = fs ∧ Wt B W v Ls ∧ Lvs N Q (Ls.map Prod.snd)
section
variable {B : Nat} {W W' : World} {v : Value} {fs : List Value} {N : Nat} {Q : Nat → Bool}
theorem Wq.lt (h : Wq B W v fs N Q) : ∀ k, wown v fs k → B ≤ k ∧ k < W.heap.size := by
  obtain ⟨Ls, rfl, h, _⟩ := h
  exact h.lt
theorem Wq.kept (h : Wq B W v fs N Q) (hk : ∀ k, wown v fs k → W'.heap[k]? = W.heap[k]?) : Wq B W' v fs N Q := by
  obtain ⟨Ls, rfl, h, h2⟩ := h
  exact ⟨Ls, rfl, h.kept hk, h2⟩
theorem Wq.below (h : Wq B W v fs N Q) (hb : Below W.heap.size W W') : Wq B W' v fs N Q := h.kept fun k hk => hb.block k (h.lt k hk).2
end
theorem map_pair {Ls : List Lev} {j : Nat} (hj : j < Ls.length) : Ls[j]? = some ((Ls.map Prod.fst)[j]'(by simpa using hj), (Ls.map Prod.snd)[j]'(by simpa using hj)) := by
  rw [List.getElem?_eq_getElem hj]; simp
end Go.Proofs.YtjajafeaengnjaaGreatDoor
