/-
  unit: a closing that is being made.
  KEEP: set on app at below new trans refl start ap kept rd rds mono lt add none own nil put len pos setF setV putL putR other neV same_any
-/
import Derived.Test.YtkinilhapgagcaaDoorUnS
set_option linter.unusedSimpArgs false
set_option linter.unusedVariables false
namespace Go.Proofs.YtkinilhapgagcaaDoor
open Go Go.RowKit

theorem wq_base {B B' : Nat} {W : World} {v : Value} {fs : List Value} {N : Nat} {Q : Nat → Bool} (h : Wq B W v fs N Q) (hb : B' ≤ B) : Wq B' W v fs N Q := by
  obtain ⟨Ls, e, hw, hl⟩ := h
  exact ⟨Ls, e, ⟨row_mono hw.row hb, fun c hc => row_mono (hw.lv c hc) hb, hw.ap⟩, hl⟩
/-- how many literals there are -/
def lsum (css : List (List Int)) : Nat := (css.map List.length).sum
theorem back_of {ops : Array Oper} {md : Region.Mode} (h : ((List.range ops.size).all fun j => match ops[j]? with | some o => o.after.all (fun e => decide (e.on < j)) | none => true) = true) : ∀ (j : Nat) o, ops[j]? = some o → ∀ e ∈ o.after, Region.binds md e = true → e.on < j := by
  intro j o ho e he _
  have hj : j < ops.size := (Array.getElem?_eq_some_iff.1 ho).1
  have := List.all_eq_true.1 h j (List.mem_range.2 hj)
  rw [ho] at this
  exact of_decide_eq_true (Array.all_eq_true_iff_forall_mem.1 this e he)
theorem made_two6 (z : Value) (m : Nat) : madeCells #[z, z] m = (List.replicate m z).toArray := by
  apply Array.ext'
  refine List.ext_getElem? fun i => ?_
  by_cases hi : i < m
  · have : i % 2 = 0 ∨ i % 2 = 1 := by omega
    rcases this with h | h <;> simp [madeCells, hi, h]
  · simp [madeCells, hi]
/-- a closing that is being made -/
structure Ce (w0 W : World) (b : Nat) (s : Sz) (n : Nat) (X : List (List Int)) (Q : Nat → Bool) : Prop where
  bel : Below w0.heap.size w0 W
  fit : Fit X n
  z : ∃ F P, Cz w0.heap.size W b s n X.length (inLs n []) (lefts X []) F P Q [] ∧ Pls X n F P ∧ P.length ≤ lsum X + 1
theorem Ce.below {w0 W W' : World} {b : Nat} {s : Sz} {n : Nat} {X : List (List Int)} {Q : Nat → Bool} (h : Ce w0 W b s n X Q) (hb : Below W.heap.size W W') : Ce w0 W' b s n X Q := by
  obtain ⟨F, P, hz, hp⟩ := h.z
  exact ⟨Below.step h.bel hb, h.fit, F, P, hz.below hb, hp⟩
theorem Bg.fin {w w1 : World} {v : Int} {s : Value} {N sz n bx : Nat} {L : Nat → Bool} {W : World} {x4 x10 x11 x12 x13 x14 x15 x16 x17 x18 x19 x20 x21 x22 x23 x24 x25 x26 x27 x28 x29 : Value} (h : Bg w w1 v s N sz n bx L W x4 x10 x11 x12 x13 x14 x15 x16 x17 x18 x19 x20 x21 x22 x23 x24 x25 x26 x27 x28 x29) (hall : ∀ j, j < 21 → L j = true) (hb : Below w.heap.size w w1) (hN : N ≤ 1073741824) (hn : n ≤ 2097152) (hev : n % 2 = 0) (hsz : sz + 1 ≤ maxLen) :
    ∃ b sz, x4 = .pointer (some ⟨b, 0, none⟩) ∧ Ce w W b sz n (List.replicate N []) (fun _ => false) ∧ sz.C = s := by
  have t : ∀ j, j < 21 → L j = true := hall
  obtain ⟨b, e29, hbx, hbb⟩ := h.f19 (t 19 (by decide))
  have e4 := h.f20 (t 20 (by decide))
  have e11 := h.f1 (t 1 (by decide))
  obtain ⟨g3, e13, m3⟩ := h.f3 (t 3 (by decide))
  obtain ⟨g7, e17, m7⟩ := h.f7 (t 7 (by decide))
  obtain ⟨g9, e19, m9⟩ := h.f9 (t 9 (by decide))
  obtain ⟨g13, e23, m13, m13b⟩ := h.f13 (t 13 (by decide))
  obtain ⟨fs, hq⟩ := h.f17 (t 17 (by decide))
  have hne := h.f79 (t 7 (by decide)) (t 9 (by decide))
  have row : ∀ {g : Nat} {e : TypeId} {z : Value} {m : Nat}, Mk w W g e z m → m ≤ maxLen → W.ownsRow w.heap.size e 1 (.slice (some ⟨g, 0, none⟩) m m) m (List.replicate m z) := fun {g e z m} hm hl => by
    refine ⟨by simp, .inr ⟨g, m, _, rfl, hm.2, hm.1, Nat.le_refl _, hl, by rw [made_zero6]; simp, ?_⟩⟩
    rw [made_zero6]; simp
  refine ⟨b, ⟨s, x13, x17, x19, x23, x27, .slice none 0 0, fs⟩, e4.trans e29, ⟨Below.step hb h.bel, ⟨hn, hev, by simpa using hN, fun c hc => ?_, fun c hc l hl => ?_⟩, List.replicate n 0, [(0, 0)], ⟨by rw [← e11]; exact hbx, hbb, ?_, ?_, ?_, ?_, ?_, World.ownsRow_nil _ _ _ _, ?_⟩, ⟨by simp, by simp, fun i p hi => ?_, fun p k q hp hq => ?_⟩, by simp⟩, rfl⟩
  · rw [(List.mem_replicate.1 hc).2]; simp
  · rw [(List.mem_replicate.1 hc).2] at hl; simp at hl
  · have e : (inLs n []).map Value.bool = List.replicate n (.bool false) := by
      unfold inLs; rw [List.map_map]; apply List.ext_getElem (by simp); intro i h1 h2; simp
    rw [e, e13]; exact row m3 (by unfold maxLen; omega)
  · have e : i32s (lefts (List.replicate N []) []) = List.replicate N (.int .i32 0) := by
      unfold i32s lefts; rw [List.map_replicate, List.map_replicate]; simp [cnt_nil]
    rw [e, e17, List.length_replicate]; exact row m7 (by unfold maxLen; omega)
  · have e : i32s ((List.replicate n 0).map fun (x : Nat) => (x : Int)) = List.replicate n (.int .i32 0) := by
      unfold i32s; rw [List.map_replicate, List.map_replicate]; rfl
    rw [e, e19]; exact row m9 (by unfold maxLen; omega)
  · rw [e23]
    refine ⟨by simp [twp], .inr ⟨g13, sz + 1, _, rfl, m13b, m13, by simp, hsz, by simp [size_madeCells], ?_⟩⟩
    rw [made_two6]; simp [twp, List.take_replicate]
    rw [Nat.min_eq_left (by omega)]; rfl
  · rw [List.length_replicate]; exact hq
  · intro k hk hk2
    exact hne (by rw [← hk, ← hk2])
  · have hp : p = 0 := by
      rw [List.getElem?_replicate] at hi
      split at hi
      · injection hi with hi; exact hi.symm
      · cases hi
    subst hp
    refine ⟨by simp, [], .nil, by simp, fun k => ?_⟩
    have : (List.replicate N ([] : List Int)).getD k [] = [] := by
      rw [List.getD_eq_getElem?_getD, List.getElem?_replicate]; split <;> rfl
    rw [this]
    simp
  · have := (List.getElem?_eq_some_iff.1 hq).1
    simp at this
    omega
end Go.Proofs.YtkinilhapgagcaaDoor
