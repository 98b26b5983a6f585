/-
  a region that draws its order, by a relation that every order keeps: one step an operation, however many orders there are.
-/
import Derived.Orders
import Derived.RegionTactic
set_option linter.unusedSimpArgs false
set_option linter.unusedVariables false
namespace Go.Proofs.YtjajafeaengnjaaGreatDoor
open Go

theorem filt_lt {p q : Nat → Bool} {x : Nat} : ∀ {l : List Nat}, (∀ y, q y = true → p y = true) → x ∈ l → p x = true → q x = false → (l.filter q).length < (l.filter p).length
  | [], _, h, _, _ => by simp at h
  | y :: r, hpq, hx, hp, hq => by
    have hle : ∀ r : List Nat, (r.filter q).length ≤ (r.filter p).length := by
      intro r
      induction r with
      | nil => simp
      | cons z r ih =>
        have hz := hpq z
        rw [List.filter_cons, List.filter_cons]
        cases h1 : q z
        · cases h2 : p z
          · simpa using ih
          · simp; omega
        · rw [hz h1]; simp; omega
    have hle := hle r
    rcases List.mem_cons.1 hx with e | e
    · subst e
      rw [List.filter_cons, List.filter_cons, if_pos hp, if_neg (by rw [hq]; simp)]
      simp; omega
    · have ih := filt_lt (l := r) hpq e hp hq
      have hy := hpq y
      rw [List.filter_cons, List.filter_cons]
      cases h1 : q y
      · cases h2 : p y
        · simpa using ih
        · simp; omega
      · rw [hy h1]; simp; omega
theorem set_getD {a : Array Bool} {i j : Nat} (d : Bool) (hi : i < a.size) : (a.setIfInBounds i true).getD j d = (j == i || a.getD j d) := by
  by_cases e : j = i
  · subst e
    simp [Array.getD, hi]
  · have e2 : (j == i) = false := by simpa using e
    rw [e2, Bool.false_or]
    by_cases hj : j < a.size
    · simp [Array.getD, hj, Array.getElem_setIfInBounds, Ne.symm e]
    · simp [Array.getD, hj]
section
variable {P : Program} {ops : Array Oper} {Q : Exit → Act → World → Prop} {md : Region.Mode}
def unl (ops : Array Oper) (listed : Array Bool) : Nat := ((List.range ops.size).filter fun j => !listed.getD j true).length
theorem all_listed {listed : Array Bool} (hsz : listed.size = ops.size) (hback : ∀ (j : Nat) o, ops[j]? = some o → ∀ e ∈ o.after, Region.binds md e = true → e.on < j) (hr : Region.ready md ops listed = []) : ∀ j, j < ops.size → listed.getD j false = true := by
  intro j
  induction j using Nat.strongRecOn with
  | _ j ih =>
    intro hj
    cases h : listed.getD j false
    · exfalso
      have h2 : listed.getD j true = false := by
        have hj2 : j < listed.size := by rw [hsz]; exact hj
        simp [Array.getD, hj2] at h ⊢
        exact h
      have : j ∈ Region.ready md ops listed := mem_ready.2 ⟨h2, ops[j], by simp [hj], fun e he hb => ih e.on (hback j _ (by simp [hj]) e he hb) (Nat.lt_trans (hback j _ (by simp [hj]) e he hb) hj)⟩
      rw [hr] at this
      simp at this
    · rfl
theorem any_inv (I : Array Bool → Act → World → Prop)
    (hback : ∀ (j : Nat) o, ops[j]? = some o → ∀ e ∈ o.after, Region.binds md e = true → e.on < j)
    (hstep : ∀ (listed : Array Bool) a w i o, I listed a w → ops[i]? = some o → listed.getD i true = false → (∀ e ∈ o.after, Region.binds md e = true → listed.getD e.on false = true) → ∀ K : Act → World → Prop, (∀ a' w', I (listed.setIfInBounds i true) a' w' → K a' w') → wpOp P ops Q i K a w)
    (hend : ∀ listed a w, I listed a w → (∀ j, j < ops.size → listed.getD j false = true) → Q .normal a w) :
    ∀ (fuel : Nat) (listed : Array Bool) (a : Act) (w : World), listed.size = ops.size → unl ops listed ≤ fuel → I listed a w → wpAny P md ops Q fuel listed a w
  | 0, listed, a, w, hsz, hf, hI => by
    have hall : ∀ j, j < ops.size → listed.getD j true = true := by
      intro j hj
      cases h : listed.getD j true
      · exfalso
        have hmem : j ∈ (List.range ops.size).filter fun j => !listed.getD j true := by rw [List.mem_filter, List.mem_range]; exact ⟨hj, by rw [h]; rfl⟩
        have := List.length_pos_of_mem hmem
        unfold unl at hf
        omega
      · rfl
    have hr : Region.ready md ops listed = [] := by
      rw [List.eq_nil_iff_forall_not_mem]
      intro j hj
      obtain ⟨h1, o, h2, _⟩ := mem_ready.1 hj
      rw [hall j (Array.getElem?_eq_some_iff.1 h2).1] at h1
      cases h1
    exact ⟨hr, hend listed a w hI (all_listed hsz hback hr)⟩
  | fuel + 1, listed, a, w, hsz, hf, hI => by
    refine ⟨fun hr => hend listed a w hI (all_listed hsz hback hr), fun i hi => ?_⟩
    obtain ⟨h1, o, h2, h3⟩ := mem_ready.1 hi
    have hlt : i < ops.size := (Array.getElem?_eq_some_iff.1 h2).1
    refine hstep listed a w i o hI h2 h1 h3 _ fun a' w' hI' => any_inv I hback hstep hend fuel _ a' w' (by simpa using hsz) ?_ hI'
    have : unl ops (listed.setIfInBounds i true) < unl ops listed := by
      refine filt_lt (x := i) (fun y hy => ?_) (List.mem_range.2 hlt) (by rw [h1]; rfl) ?_
      · rw [set_getD true (by rw [hsz]; exact hlt)] at hy
        simp at hy ⊢
        exact hy.2
      · rw [set_getD true (by rw [hsz]; exact hlt)]
        simp
    omega
end
end Go.Proofs.YtjajafeaengnjaaGreatDoor
