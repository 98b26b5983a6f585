/-
  A region that draws its order, whose first operations only read, and whose others come behind them all, one behind the other (stores of an assignment): the reading walked once in the text's order, then the stores.
  KEEP: nil cons
-/
import Derived.Test.YtjajafeaengnjaaGreatDoorAnyInv
import Derived.Deep.QuietTactic
import Derived.BigQuiet
set_option linter.unusedSimpArgs false
set_option linter.unusedVariables false
namespace Go.Proofs.YtjajafeaengnjaaGreatDoor
open Go

section
variable {P : Program} {ops : Array Oper} {Q : Exit → Act → World → Prop} {md : Region.Mode} {C : World → Prop}
theorem wpAny_more : ∀ (fuel : Nat) {listed : Array Bool} {a : Act} {w : World}, wpAny P md ops Q fuel listed a w → wpAny P md ops Q (fuel + 1) listed a w
  | 0, _, _, _, h => ⟨fun _ => h.2, by rw [h.1]; simp⟩
  | fuel + 1, _, _, _, h => ⟨h.1, fun i hi => wpOp_mono (fun a w h2 => wpAny_more fuel h2) (h.2 i hi)⟩
theorem wpAny_mores (k : Nat) {fuel : Nat} {listed : Array Bool} {a : Act} {w : World} (h : wpAny P md ops Q fuel listed a w) : wpAny P md ops Q (fuel + k) listed a w := by
  induction k with
  | zero => exact h
  | succ k ih => exact wpAny_more _ ih
/-- one behind the other -/
def seqFrom (md : Region.Mode) (ops : Array Oper) : Nat → Nat → Array Bool → Bool
  | 0, _, listed => (Region.ready md ops listed).isEmpty
  | f + 1, k, listed => (Region.ready md ops listed == [k]) && seqFrom md ops f (k + 1) (listed.setIfInBounds k true)
theorem wpAny_seq : ∀ (l : List Oper) (k : Nat) (listed : Array Bool) (a : Act) (w : World), (∀ j, l[j]? = ops[k + j]?) → seqFrom md ops l.length k listed = true → wpList P ops Q l a w → wpAny P md ops Q l.length listed a w
  | [], k, listed, a, w, _, hB, h => ⟨by simpa [seqFrom] using hB, h⟩
  | o :: l, k, listed, a, w, hl, hB, h => by
    have h0 : ops[k]? = some o := by simpa using (hl 0).symm
    simp only [List.length_cons, seqFrom, Bool.and_eq_true, beq_iff_eq] at hB
    refine wpAny_all hB.1 (by simp) fun i hi => ?_
    have e : i = k := by simpa using hi
    subst e
    have ih := fun a w => wpAny_seq l (i + 1) (listed.setIfInBounds i true) a w (fun j => by have := hl (j + 1); simpa [Nat.add_assoc, Nat.add_comm 1 j] using this) hB.2
    refine wpOp_mono (K := wpList P ops Q l) ih ?_
    unfold wpOp
    simp only [h0]
    exact h
end
section
variable {P : Program} {Q : Exit → Act → World → Prop} {md : Region.Mode} {C : World → Prop} {l1 l2 : List Oper}
/-- who must have been ahead, step by step back -/
def edgeB (md : Region.Mode) (o : Oper) (j : Nat) : Bool := o.after.any fun e => decide (e.on = j) && Region.binds md e
def dirL (md : Region.Mode) (m : Nat) (o : Oper) : List Bool := (List.range m).map fun j => edgeB md o j
def stepL (md : Region.Mode) (l1 : List Oper) (S : List Bool) : List Bool := (List.range l1.length).map fun j => S.getD j false || (List.range l1.length).any fun j' => S.getD j' false && match l1[j']? with
  | some o => edgeB md o j
  | none => false
def covL (md : Region.Mode) (l1 : List Oper) (o : Oper) : Nat → List Bool
  | 0 => dirL md l1.length o
  | k + 1 => stepL md l1 (covL md l1 o k)
/-- what is asked of the region: no guards ahead, edges that point back, the others behind all but those in fl -/
def rwEdges (md : Region.Mode) (fl : List Nat) (l1 l2 : List Oper) : Bool :=
  (List.range l1.length).all (fun j => match l1[j]? with
    | some o => o.guard.isNone && o.after.all (fun e => !Region.binds md e || decide (e.on < j))
    | none => false) &&
  l2.all (fun o => (List.range l1.length).all fun j => fl.contains j || (covL md l1 o 5).getD j false)
theorem edgeB_spec {md : Region.Mode} {o : Oper} {j : Nat} (h : edgeB md o j = true) : ∃ e ∈ o.after, e.on = j ∧ Region.binds md e = true := by
  obtain ⟨i, hi, h2⟩ := Array.any_eq_true.1 h
  simp only [Bool.and_eq_true, decide_eq_true_eq] at h2
  exact ⟨o.after[i], Array.getElem_mem hi, h2⟩
theorem getD_map_range {m j : Nat} {f : Nat → Bool} (h : ((List.range m).map f).getD j false = true) : j < m ∧ f j = true := by
  rw [List.getD_eq_getElem?_getD, List.getElem?_map] at h
  by_cases hj : j < m
  · rw [List.getElem?_range hj] at h; exact ⟨hj, h⟩
  · rw [List.getElem?_eq_none (by simpa using hj)] at h; cases h
/-- each that is listed is listed behind those that it must be behind -/
def Clsd (md : Region.Mode) (l1 : List Oper) (listed : Array Bool) : Prop := ∀ (j : Nat) o, l1[j]? = some o → listed.getD j false = true → ∀ e ∈ o.after, Region.binds md e = true → listed.getD e.on false = true
theorem cov_listed {md : Region.Mode} {l1 : List Oper} {o : Oper} {listed : Array Bool} (hc : Clsd md l1 listed) (hd : ∀ e ∈ o.after, Region.binds md e = true → e.on < l1.length → listed.getD e.on false = true) : ∀ (k j : Nat), (covL md l1 o k).getD j false = true → listed.getD j false = true
  | 0, j, h => by
    obtain ⟨hj, h1⟩ := getD_map_range h
    obtain ⟨e, he, e1, e2⟩ := edgeB_spec h1
    have := hd e he e2 (by omega)
    rwa [e1] at this
  | k + 1, j, h => by
    obtain ⟨hj, h1⟩ := getD_map_range h
    rcases Bool.or_eq_true _ _ ▸ h1 with h2 | h2
    · exact cov_listed hc hd k j h2
    · obtain ⟨j', hj', h3⟩ := List.any_eq_true.1 h2
      simp only [Bool.and_eq_true] at h3
      have h4 := cov_listed hc hd k j' h3.1
      cases ho : l1[j']? with
      | none => rw [ho] at h3; cases h3.2
      | some o' =>
        rw [ho] at h3
        obtain ⟨e, he, e1, e2⟩ := edgeB_spec h3.2
        have := hc j' o' ho h4 e he e2
        rwa [e1] at this
theorem app_set {a b : Array Bool} {i : Nat} (h : i < a.size) : (a ++ b).setIfInBounds i true = a.setIfInBounds i true ++ b := by
  refine Array.ext_getElem? fun j => ?_
  rw [Array.getElem?_setIfInBounds]
  by_cases e : i = j
  · subst e
    rw [if_pos rfl, if_pos (by simp; omega), Array.getElem?_append_left (by simpa using h), Array.getElem?_setIfInBounds_self_of_lt h]
  · rw [if_neg e]
    by_cases hj : j < a.size
    · rw [Array.getElem?_append_left hj, Array.getElem?_append_left (by simpa using hj), Array.getElem?_setIfInBounds_ne e]
    · rw [Array.getElem?_append_right (by omega), Array.getElem?_append_right (by simpa using hj)]; simp
theorem app_getD {a : Array Bool} {m i : Nat} {d : Bool} (h : i < a.size) : (a ++ Array.replicate m false).getD i d = a.getD i d := by
  simp [Array.getD, h, Array.getElem_append_left h, show i < a.size + m by omega]
theorem wpAny_rw (fl : List Nat) (hE : rwEdges md fl l1 l2 = true) (Q1 : Act → Prop)
    (hQ : ∀ a w, C w → Q1 a → wpAny P md (l1 ++ l2).toArray Q l2.length (Array.replicate l1.length true ++ Array.replicate l2.length false) a w) :
    ∀ (fuel : Nat) (listed : Array Bool) (a : Act) (w : World), C w → listed.size = l1.length → unl l1.toArray listed ≤ fuel → Clsd md l1 listed → (∀ f ∈ fl, f < l1.length → listed.getD f false = true) → wpAnyQ P md l1.toArray C Q1 fuel listed a →
      wpAny P md (l1 ++ l2).toArray Q (fuel + l2.length) (listed ++ Array.replicate l2.length false) a w := by
  simp only [rwEdges, Bool.and_eq_true] at hE
  have hE1 : ∀ (j : Nat) o, l1[j]? = some o → o.guard = none ∧ ∀ e ∈ o.after, Region.binds md e = true → e.on < j := fun j o ho => by
    have hj : j < l1.length := (List.getElem?_eq_some_iff.1 ho).1
    have := List.all_eq_true.1 hE.1 j (List.mem_range.2 hj)
    rw [ho] at this
    simp only [Bool.and_eq_true, Option.isNone_iff_eq_none] at this
    exact ⟨this.1, fun e he hb => by
      have h9 := Array.all_eq_true_iff_forall_mem.1 this.2 e he
      rw [hb] at h9
      exact of_decide_eq_true (by simpa using h9)⟩
  have hE2 : ∀ o ∈ l2, ∀ j, j < l1.length → j ∈ fl ∨ (covL md l1 o 5).getD j false = true := fun o ho j hj => by
    have h1 := List.all_eq_true.1 (List.all_eq_true.1 hE.2 o ho) j (List.mem_range.2 hj)
    rcases Bool.or_eq_true _ _ ▸ h1 with h2 | h2
    · exact .inl (List.contains_iff_mem.1 h2)
    · exact .inr h2
  have hback : ∀ (j : Nat) o, l1.toArray[j]? = some o → ∀ e ∈ o.after, Region.binds md e = true → e.on < j := fun j o ho e he hb => (hE1 j o (by simpa using ho)).2 e he hb
  have full : ∀ (listed : Array Bool), listed.size = l1.length → (∀ j, j < l1.length → listed.getD j false = true) → listed = Array.replicate l1.length true := fun listed hs h => by
    refine Array.ext (by simpa using hs) fun i h1 h2 => ?_
    have := h i (by omega)
    simp [Array.getD, h1] at this
    simpa using this
  have unl0 : ∀ (listed : Array Bool), listed.size = l1.length → unl l1.toArray listed = 0 → ∀ j, j < l1.length → listed.getD j false = true := fun listed hs h j hj => by
    cases hc : listed.getD j true
    · exfalso
      have hm : j ∈ (List.range l1.toArray.size).filter fun j => !listed.getD j true := by rw [List.mem_filter, List.mem_range]; exact ⟨by simpa using hj, by rw [hc]; rfl⟩
      have := List.length_pos_of_mem hm
      unfold unl at h
      omega
    · have hj2 : j < listed.size := by omega
      simp [Array.getD, hj2] at hc ⊢
      exact hc
  intro fuel
  induction fuel with
  | zero =>
    intro listed a w hC hs hu hcl hfl h
    rw [full listed hs (unl0 listed hs (by omega)), Nat.zero_add]
    exact hQ a w hC h.2
  | succ fuel ih =>
    intro listed a w hC hs hu hcl hfl h
    by_cases hall : ∀ j, j < l1.length → listed.getD j false = true
    · have hr : Region.ready md l1.toArray listed = [] := by
        rw [List.eq_nil_iff_forall_not_mem]
        intro j hj
        obtain ⟨h1, o, h2, _⟩ := mem_ready.1 hj
        have hj2 : j < l1.length := by have := (Array.getElem?_eq_some_iff.1 h2).1; simpa using this
        have h3 := hall j hj2
        have hj3 : j < listed.size := by omega
        simp [Array.getD, hj3] at h1 h3
        rw [h3] at h1; cases h1
      rw [full listed hs hall, Nat.add_comm]
      exact wpAny_mores _ (hQ a w hC (h.1 hr))
    · obtain ⟨j0, hj0⟩ : ∃ j0, ¬ (j0 < l1.length → listed.getD j0 false = true) := Classical.byContradiction fun hn => hall fun j => Classical.byContradiction fun hq => hn ⟨j, hq⟩
      have hj0l : j0 < l1.length := Classical.byContradiction fun hn => hj0 fun hh => absurd hh hn
      have hj0f : listed.getD j0 false = false := by
        cases hc : listed.getD j0 false
        · rfl
        · exact absurd (fun _ => hc) hj0
      have rdy : ∀ i, i ∈ Region.ready md (l1 ++ l2).toArray (listed ++ Array.replicate l2.length false) → i < l1.length ∧ i ∈ Region.ready md l1.toArray listed := fun i hi => by
        obtain ⟨h1, o, h2, h3⟩ := mem_ready.1 hi
        by_cases hil : i < l1.length
        · have h2' : l1[i]? = some o := by
            have : (l1 ++ l2)[i]? = some o := by simpa using h2
            rwa [List.getElem?_append_left hil] at this
          refine ⟨hil, mem_ready.2 ⟨by rw [app_getD (by omega)] at h1; exact h1, o, by simpa using h2', fun e he hb => ?_⟩⟩
          have := h3 e he hb
          have hlt := (hE1 i o h2').2 e he hb
          rwa [app_getD (by omega)] at this
        · exfalso
          have h2' : l2[i - l1.length]? = some o := by
            have : (l1 ++ l2)[i]? = some o := by simpa using h2
            rwa [List.getElem?_append_right (by omega)] at this
          rcases hE2 o (List.mem_of_getElem? h2') j0 hj0l with hx | hx
          · rw [hfl j0 hx hj0l] at hj0f; cases hj0f
          · have := cov_listed hcl (fun e he hb hlt => by
              have := h3 e he hb
              rwa [app_getD (by omega)] at this) 5 j0 hx
            rw [hj0f] at this; cases this
      rw [show fuel + 1 + l2.length = (fuel + l2.length) + 1 by omega]
      refine ⟨fun hr => ?_, fun i hi => ?_⟩
      · exfalso
        have hr1 : Region.ready md l1.toArray listed = [] := by
          rw [List.eq_nil_iff_forall_not_mem]
          intro i hi
          obtain ⟨h1, o, h2, h3⟩ := mem_ready.1 hi
          have hil : i < l1.length := by have := (Array.getElem?_eq_some_iff.1 h2).1; simpa using this
          have h2' : l1[i]? = some o := by simpa using h2
          have : i ∈ Region.ready md (l1 ++ l2).toArray (listed ++ Array.replicate l2.length false) := mem_ready.2 ⟨by rw [app_getD (by omega)]; exact h1, o, by simp [List.getElem?_append_left hil, h2'], fun e he hb => by
            have hlt := (hE1 i o h2').2 e he hb
            rw [app_getD (by omega)]; exact h3 e he hb⟩
          rw [hr] at this; cases this
        have := all_listed (md := md) (ops := l1.toArray) (by simpa using hs) hback hr1 j0 (by simpa using hj0l)
        rw [hj0f] at this; cases this
      · obtain ⟨hil, hi1⟩ := rdy i hi
        have hq := h.2 i hi1
        obtain ⟨h1, o, h2, h3⟩ := mem_ready.1 hi1
        have h2' : l1[i]? = some o := by simpa using h2
        have hg := (hE1 i o h2').1
        have hw : ∀ (ops : Array Oper) (t : Array Value), Region.wanted o (yielded ops t) = true := fun ops t => by simp [Region.wanted, hg]
        unfold qOp at hq
        simp only [h2, hw, if_true] at hq
        unfold wpOp
        have h4 : (l1 ++ l2).toArray[i]? = some o := by simp [List.getElem?_append_left hil, h2']
        simp only [h4, hw, if_true]
        refine .inl (Oper.wp_of_quiet hC (fun a' w' hC' hk => ?_) hq)
        rw [app_set (by omega)]
        have hu2 : unl l1.toArray (listed.setIfInBounds i true) < unl l1.toArray listed := by
          refine filt_lt (x := i) (fun y hy => ?_) (List.mem_range.2 (by simpa using hil)) (by rw [h1]; rfl) ?_
          · rw [set_getD true (by omega)] at hy
            simp at hy ⊢
            exact hy.2
          · rw [set_getD true (by omega)]
            simp
        have hcl2 : Clsd md l1 (listed.setIfInBounds i true) := fun j o' ho' hj e he hb => by
          rw [set_getD false (by omega)] at hj ⊢
          by_cases ej : j = i
          · subst ej
            rw [h2'] at ho'
            injection ho' with ho'
            subst ho'
            rw [h3 e he hb]; simp
          · simp [ej] at hj
            rw [hcl j o' ho' (by simpa using hj) e he hb]; simp
        have hfl2 : ∀ f ∈ fl, f < l1.length → (listed.setIfInBounds i true).getD f false = true := fun f hf hlt => by
          rw [set_getD false (by omega), hfl f hf hlt]; simp
        exact ih _ a' w' hC' (by simpa using hs) (by omega) hcl2 hfl2 hk
/-- an operation that hands a value on can be taken first -/
theorem float_one {C : World → Prop} {Q1 : Act → Prop} {fuel f k : Nat} {listed : Array Bool} {a : Act} {w0 w : World} {o : Oper} {x : Operand} (hq : wpAnyQ P md l1.toArray C Q1 (fuel + 1) listed a) (hC : C w0) (hs : listed.size = l1.length) (hf : l1[f]? = some o) (hop : o.op = .move x) (haf : o.after.all (fun e => !Region.binds md e) = true) (hg : o.guard = none)
    (hun : listed.getD f true = false) (hfree : Region.free md (l1 ++ l2).toArray (Array.replicate (l1 ++ l2).length false) f = true) (hsel : Region.noSelect (l1 ++ l2).toArray = true) (hQp : ∀ c a v w, Q (.panic c) (a.put o.dst v) w → Q (.panic c) a w) :
    ∃ v, wpAnyQ P md l1.toArray C Q1 fuel (listed.setIfInBounds f true) (a.put o.dst v) ∧ (wpAny P md (l1 ++ l2).toArray Q (fuel + k) (listed.setIfInBounds f true ++ Array.replicate l2.length false) (a.put o.dst v) w → wpAny P md (l1 ++ l2).toArray Q (fuel + 1 + k) (listed ++ Array.replicate l2.length false) a w) := by
  have hfl : f < l1.length := (List.getElem?_eq_some_iff.1 hf).1
  have hw : ∀ (ops : Array Oper) (t : Array Value), Region.wanted o (yielded ops t) = true := fun ops t => by simp [Region.wanted, hg]
  have h2 : l1.toArray[f]? = some o := by simpa using hf
  have hno : ∀ e ∈ o.after, Region.binds md e = true → False := fun e he hb => by
    have := Array.all_eq_true_iff_forall_mem.1 haf e he
    rw [hb] at this; cases this
  have hr : f ∈ Region.ready md l1.toArray listed := mem_ready.2 ⟨hun, o, h2, fun e he hb => (hno e he hb).elim⟩
  have h1 := hq.2 f hr
  unfold qOp at h1
  simp only [h2, hw, if_true] at h1
  obtain ⟨v, hv, hk⟩ := h1
  have hrun : ∀ w, (execOp a.eval o).run P w = .ok (.value (a.eval x)) w := fun w => by simp [execOp, hop]
  have hv1 := hv w0 hC
  unfold Oper.quietAt at hv1
  rw [hrun] at hv1
  have ev : a.eval x = v := hv1.2
  subst ev
  refine ⟨_, hk, fun h => ?_⟩
  have h4 : (l1 ++ l2).toArray[f]? = some o := by simp [List.getElem?_append_left hfl, hf]
  rw [show fuel + 1 + k = (fuel + k) + 1 by omega]
  refine wpAny_first h4 (Region.noSelect_spec hsel) (fun c a w h => hQp c a _ w h) _ _ a w (fun j oj hj hne hu hno => Region.free_spec h4 hfree j oj hj hne (by have := (Array.getElem?_eq_some_iff.1 hj).1; simp [Array.getD] at this ⊢; omega) hno) (mem_ready.2 ⟨by rw [app_getD (by omega)]; exact hun, o, h4, fun e he hb => (hno e he hb).elim⟩) (.inl ⟨hw _ _, hrun⟩) ?_
  rw [app_set (by omega)]
  exact h
/-- the region's law: cut at m; one operation, number f, that hands a value on may come late -/
theorem region_rw_at {id : Nat} {a : Act} {w : World} (m f : Nat) {l : List Oper} {o : Oper} {x : Operand} (hm : P.follows .mixedOrders = true) (hB : Region.lexB .any (l.take m).toArray = true) (hE : rwEdges .any [f] (l.take m) (l.drop m) = true) (hS : seqFrom .any l.toArray (l.drop m).length (l.take m).length (Array.replicate (l.take m).length true ++ Array.replicate (l.drop m).length false) = true)
    (hf : (l.take m)[f]? = some o) (hop : o.op = .move x) (haf : o.after.all (fun e => !Region.binds .any e) = true) (hg : o.guard = none) (hfree : Region.free .any l.toArray (Array.replicate l.length false) f = true) (hsel : Region.noSelect l.toArray = true) (hQp : ∀ c a v w, Q (.panic c) (a.put o.dst v) w → Q (.panic c) a w)
    (h : wpQuiet P (l.take m).toArray (fun w' => ∃ n, w' = w.drewN n) (fun a' => ∀ w', (∃ n, w' = w.drewN n) → wpList P l.toArray Q (l.drop m) a' w') (l.take m) a) : (Code.region id l.toArray true).wp P Q a w := by
  have hB' := hB
  simp only [Region.lexB, Bool.and_eq_true] at hB'
  generalize hl1 : l.take m = l1 at *
  generalize hl2 : l.drop m = l2 at *
  have hl : l = l1 ++ l2 := by rw [← hl1, ← hl2, List.take_append_drop]
  subst hl
  have hq := wpAnyQ_lex (C := fun w' => ∃ n, w' = w.drewN n) (md := .any) hB'.1 l1 0 (Array.replicate l1.toArray.size false) a (by simp) (by simpa using hB'.2) h
  have hfl : f < l1.length := (List.getElem?_eq_some_iff.1 hf).1
  obtain ⟨n1, hn1⟩ : ∃ n1, l1.length = n1 + 1 := ⟨l1.length - 1, by omega⟩
  rw [hn1] at hq
  obtain ⟨v, hk, hgo⟩ := float_one (Q := Q) (l2 := l2) (k := l2.length) (w := { w with drawn := w.drawn + 1 }) hq ⟨0, rfl⟩ (by simp) hf hop haf hg (by simp [Array.getD, hfl]) hfree hsel hQp
  refine wp_region_any hm ?_
  have e1 : (l1 ++ l2).toArray.size = n1 + 1 + l2.length := by simp; omega
  have e2 : Array.replicate (l1 ++ l2).toArray.size false = Array.replicate l1.toArray.size false ++ Array.replicate l2.length false := by
    rw [Array.replicate_append_replicate]; simp
  rw [e2, e1]
  refine hgo ?_
  have hu : unl l1.toArray ((Array.replicate l1.toArray.size false).setIfInBounds f true) ≤ n1 := by
    have : unl l1.toArray ((Array.replicate l1.toArray.size false).setIfInBounds f true) < unl l1.toArray (Array.replicate l1.toArray.size false) := by
      refine filt_lt (x := f) (fun y hy => ?_) (List.mem_range.2 (by simpa using hfl)) (by simp [Array.getD, hfl]) ?_
      · rw [set_getD true (by simpa using hfl)] at hy
        simp at hy ⊢
        exact hy.2
      · rw [set_getD true (by simpa using hfl)]
        simp
    have h2 : unl l1.toArray (Array.replicate l1.toArray.size false) ≤ l1.length := by
      unfold unl
      refine Nat.le_trans (List.length_filter_le _ _) (by simp)
    omega
  refine wpAny_rw [f] hE (fun a' => ∀ w', (∃ n, w' = w.drewN n) → wpList P (l1 ++ l2).toArray Q l2 a' w') (fun a' w' hC hh => wpAny_seq l2 l1.length _ a' w' (fun j => by rw [List.getElem?_toArray, List.getElem?_append_right (by omega)]; simp) hS (hh w' hC)) n1 _ _ _ ⟨1, rfl⟩ (by simp) hu ?_ ?_ hk
  · intro j o' ho' hj e he hb
    rw [set_getD false (by simpa using hfl)] at hj
    have hjl : j < l1.length := (List.getElem?_eq_some_iff.1 ho').1
    have : j = f := by
      simp [Array.getD, hjl] at hj
      exact hj
    subst this
    rw [hf] at ho'
    injection ho' with ho'
    subst ho'
    have := Array.all_eq_true_iff_forall_mem.1 haf e he
    rw [hb] at this; cases this
  · intro f' hf' _
    have : f' = f := by simpa using hf'
    subst this
    rw [set_getD false (by simpa using hfl)]; simp
/-- is it an operation that hands a value on, bound behind nothing, apart from all that may come ahead of it? -/
def flB (l1 l2 : List Oper) (f : Nat) : Bool := match l1[f]? with
  | some o => (match o.op with | .move _ => true | _ => false) && o.after.all (fun e => !Region.binds .any e) && o.guard.isNone && Region.free .any (l1 ++ l2).toArray (Array.replicate (l1 ++ l2).length false) f
  | none => false
theorem flB_spec {f : Nat} (h : flB l1 l2 f = true) : ∃ o x, l1[f]? = some o ∧ o.op = .move x ∧ o.after.all (fun e => !Region.binds .any e) = true ∧ o.guard = none ∧ Region.free .any (l1 ++ l2).toArray (Array.replicate (l1 ++ l2).length false) f = true := by
  unfold flB at h
  cases ho : l1[f]? with
  | none => rw [ho] at h; cases h
  | some o =>
    rw [ho] at h
    simp only [Bool.and_eq_true, Option.isNone_iff_eq_none] at h
    obtain ⟨⟨⟨h1, h2⟩, h3⟩, h4⟩ := h
    cases hop : o.op with
    | move x => exact ⟨o, x, rfl, hop, h2, h3, h4⟩
    | _ => rw [hop] at h1; cases h1
theorem float_many {C : World → Prop} {Q1 : Act → Prop} {k : Nat} {w0 w : World} (hC : C w0) (hsel : Region.noSelect (l1 ++ l2).toArray = true) (hQp : ∀ c a d v w, Q (.panic c) (Act.put a d v) w → Q (.panic c) a w) :
    ∀ (fl : List Nat) (fuel : Nat) (listed : Array Bool) (a : Act), (∀ f ∈ fl, flB l1 l2 f = true) → fl.Nodup → (∀ f ∈ fl, listed.getD f true = false) → fl.length ≤ fuel → wpAnyQ P .any l1.toArray C Q1 fuel listed a → listed.size = l1.length →
      (∀ fuel' listed' a', fuel' + fl.length = fuel → (∀ j, listed'.getD j false = (listed.getD j false || fl.contains j)) → listed'.size = l1.length → wpAnyQ P .any l1.toArray C Q1 fuel' listed' a' → wpAny P .any (l1 ++ l2).toArray Q (fuel' + k) (listed' ++ Array.replicate l2.length false) a' w) →
      wpAny P .any (l1 ++ l2).toArray Q (fuel + k) (listed ++ Array.replicate l2.length false) a w
  | [], fuel, listed, a, _, _, _, _, hq, hs, hfin => hfin fuel listed a rfl (by simp) hs hq
  | f :: fl, fuel, listed, a, hb, hn, hu, hle, hq, hs, hfin => by
    obtain ⟨o, x, h1, h2, h3, h4, h5⟩ := flB_spec (hb f (by simp))
    have hfl : f < l1.length := (List.getElem?_eq_some_iff.1 h1).1
    obtain ⟨n1, rfl⟩ : ∃ n1, fuel = n1 + 1 := ⟨fuel - 1, by simp at hle; omega⟩
    obtain ⟨v, hk, hgo⟩ := float_one (Q := Q) (l2 := l2) (k := k) (w := w) hq hC hs h1 h2 h3 h4 (hu f (by simp)) h5 hsel (fun c a v w h => hQp c a _ v w h)
    have hn2 := List.nodup_cons.1 hn
    refine hgo (float_many hC hsel hQp fl n1 _ _ (fun g hg => hb g (List.mem_cons_of_mem _ hg)) hn2.2 (fun g hg => ?_) (by simp at hle; omega) hk (by simpa using hs) fun fuel' listed' a' e1 e2 e3 e4 => hfin fuel' listed' a' (by simp; omega) (fun j => ?_) e3 e4)
    · rw [set_getD true (by omega), hu g (List.mem_cons_of_mem _ hg)]
      have : g ≠ f := fun e => hn2.1 (by rw [← e]; exact hg)
      simp [this]
    · rw [e2 j, set_getD false (by omega)]
      rw [List.contains_cons, Bool.or_comm (j == f) (listed.getD j false), Bool.or_assoc]
/-- the region's law with several that may come late -/
theorem region_rw_fl {id : Nat} {a : Act} {w : World} (m : Nat) (fl : List Nat) {l : List Oper} (hm : P.follows .mixedOrders = true) (hB : Region.lexB .any (l.take m).toArray = true) (hE : rwEdges .any fl (l.take m) (l.drop m) = true) (hS : seqFrom .any l.toArray (l.drop m).length (l.take m).length (Array.replicate (l.take m).length true ++ Array.replicate (l.drop m).length false) = true)
    (hf : fl.all (flB (l.take m) (l.drop m)) = true) (hnd : fl.Nodup) (hle : fl.length ≤ (l.take m).length) (hsel : Region.noSelect l.toArray = true) (hQp : ∀ c a d v w, Q (.panic c) (Act.put a d v) w → Q (.panic c) a w)
    (h : wpQuiet P (l.take m).toArray (fun w' => ∃ n, w' = w.drewN n) (fun a' => ∀ w', (∃ n, w' = w.drewN n) → wpList P l.toArray Q (l.drop m) a' w') (l.take m) a) : (Code.region id l.toArray true).wp P Q a w := by
  have hB' := hB
  simp only [Region.lexB, Bool.and_eq_true] at hB'
  generalize hl1 : l.take m = l1 at *
  generalize hl2 : l.drop m = l2 at *
  have hl : l = l1 ++ l2 := by rw [← hl1, ← hl2, List.take_append_drop]
  subst hl
  have hq := wpAnyQ_lex (C := fun w' => ∃ n, w' = w.drewN n) (md := .any) hB'.1 l1 0 (Array.replicate l1.toArray.size false) a (by simp) (by simpa using hB'.2) h
  have hfb : ∀ f ∈ fl, flB l1 l2 f = true := fun f hx => List.all_eq_true.1 hf f hx
  have hflt : ∀ f ∈ fl, f < l1.length := fun f hx => by
    obtain ⟨o, x, h1, _⟩ := flB_spec (hfb f hx)
    exact (List.getElem?_eq_some_iff.1 h1).1
  refine wp_region_any hm ?_
  have e1 : (l1 ++ l2).toArray.size = l1.length + l2.length := by simp
  have e2 : Array.replicate (l1 ++ l2).toArray.size false = Array.replicate l1.toArray.size false ++ Array.replicate l2.length false := by
    rw [Array.replicate_append_replicate]; simp
  rw [e2, e1]
  refine float_many (C := fun w' => ∃ n, w' = w.drewN n) (w0 := w.drewN 0) ⟨0, rfl⟩ hsel hQp fl l1.length _ a hfb hnd (fun f hx => by have := hflt f hx; simp [Array.getD, this]) hle hq (by simp) fun fuel' listed' a' f1 f2 f3 f4 => ?_
  have hld : ∀ j, j < l1.length → listed'.getD j false = fl.contains j := fun j hj => by
    rw [f2 j]; simp [Array.getD, hj]
  have hu : unl l1.toArray listed' ≤ fuel' := by
    -- as many are left as there are others
    have key : ∀ (fl : List Nat), fl.Nodup → (∀ f ∈ fl, f < l1.length) → ((List.range l1.length).filter fun j => !fl.contains j).length + fl.length = l1.length := by
      intro fl
      induction fl with
      | nil => intro _ _; rw [List.filter_eq_self.2 (by simp)]; simp
      | cons f fl ih =>
        intro hn hlt
        have hn2 := List.nodup_cons.1 hn
        have ih := ih hn2.2 (fun g hg => hlt g (List.mem_cons_of_mem _ hg))
        have hp : (List.range l1.length).filter (fun j => !fl.contains j) = (List.range l1.length).filter (fun j => !fl.contains j) := rfl
        have hsplit : ((List.range l1.length).filter fun j => !(f :: fl).contains j).length + 1 = ((List.range l1.length).filter fun j => !fl.contains j).length := by
          have h1 : ((List.range l1.length).filter fun j => !(f :: fl).contains j) = ((List.range l1.length).filter fun j => !fl.contains j).erase f := by
            rw [List.Nodup.erase_eq_filter (List.nodup_range.filter _), List.filter_filter]
            refine List.filter_congr fun j _ => ?_
            rw [List.contains_cons, Bool.not_or]; rfl
          have hmf : f ∈ (List.range l1.length).filter (fun j => !fl.contains j) := List.mem_filter.2 ⟨List.mem_range.2 (hlt f (by simp)), by simpa using hn2.1⟩
          rw [h1, List.length_erase_of_mem hmf]
          have := List.length_pos_of_mem hmf
          omega
        simp only [List.length_cons]
        omega
    have h1 := key fl hnd hflt
    have h2 : unl l1.toArray listed' = ((List.range l1.length).filter fun j => !fl.contains j).length := by
      unfold unl
      congr 1
      have e3 : l1.toArray.size = l1.length := by simp
      rw [e3]
      refine List.filter_congr fun j hj => ?_
      have hj := List.mem_range.1 hj
      have hj3 : j < listed'.size := by omega
      have := hld j hj
      simp [Array.getD, hj3] at this ⊢
      rw [this]
    omega
  refine wpAny_rw fl hE (fun a' => ∀ w', (∃ n, w' = w.drewN n) → wpList P (l1 ++ l2).toArray Q l2 a' w') (fun a' w' hC hh => wpAny_seq l2 l1.length _ a' w' (fun j => by rw [List.getElem?_toArray, List.getElem?_append_right (by omega)]; simp) hS (hh w' hC)) fuel' _ _ _ ⟨1, rfl⟩ f3 hu ?_ (fun f hx hlt => by rw [hld f hlt]; simpa using hx) f4
  intro j o' ho' hj e he hb
  have hjl : j < l1.length := (List.getElem?_eq_some_iff.1 ho').1
  rw [hld j hjl] at hj
  obtain ⟨o, x, h1, _, h3, _⟩ := flB_spec (hfb j (by simpa using hj))
  rw [h1] at ho'
  injection ho' with ho'
  subst ho'
  have := Array.all_eq_true_iff_forall_mem.1 h3 e he
  rw [hb] at this; cases this
end
end Go.Proofs.YtjajafeaengnjaaGreatDoor
