/-
  A region's lexical order, checked over its table of numbers: read once, an operation after the other, and written out as it is read.
-/
import Derived.BigQuiet
set_option linter.unusedSimpArgs false
set_option linter.unusedVariables false
namespace Go.Proofs.YtilcokpaeapmeaaDoor
open Go

abbrev TabRow := List Nat × Nat × List Nat
def rowT (ops : Array Oper) (o : Oper) : TabRow := ((o.after.toList.filter (Region.binds .any)).map (·.on), (match o.dst with | some d => d + 1 | none => 0), o.looksAt ops)
def apT (x y : TabRow) : Bool :=
  (match x.2.1 with
   | d + 1 => !y.2.2.contains d && y.2.1 != d + 1
   | 0 => true) &&
  (match y.2.1 with
   | d + 1 => !x.2.2.contains d
   | 0 => true)
def lexT : Nat → List TabRow → Bool
  | _, [] => true
  | k, t :: r => t.1.all (fun n => Nat.blt n k) && (r.all fun u => u.1.contains k || apT t u) && lexT (k + 1) r
def putNat (n : Nat) (f : Nat → Bool) : Bool := match n with
  | 0 => f 0
  | m + 1 => f (m + 1)
def putList : List Nat → (List Nat → Bool) → Bool
  | [], f => f []
  | x :: xs, f => putNat x fun y => putList xs fun ys => f (y :: ys)
def putRow (t : TabRow) (f : TabRow → Bool) : Bool := putList t.1 fun a => putNat t.2.1 fun d => putList t.2.2 fun l => f (a, d, l)
def putTab : List TabRow → (List TabRow → Bool) → Bool
  | [], f => f []
  | t :: ts, f => putRow t fun u => putTab ts fun us => f (u :: us)
theorem putNat_eq (n : Nat) (f : Nat → Bool) : putNat n f = f n := by cases n <;> rfl
theorem putList_eq : ∀ (l : List Nat) (f : List Nat → Bool), putList l f = f l
  | [], _ => rfl
  | x :: xs, f => by rw [putList, putNat_eq, putList_eq xs]
theorem putRow_eq (t : TabRow) (f : TabRow → Bool) : putRow t f = f t := by
  obtain ⟨a, d, l⟩ := t
  rw [putRow, putList_eq, putNat_eq, putList_eq]
theorem putTab_eq : ∀ (l : List TabRow) (f : List TabRow → Bool), putTab l f = f l
  | [], _ => rfl
  | x :: xs, f => by rw [putTab, putRow_eq, putTab_eq xs]

theorem apT_spec {ops : Array Oper} {x y : Oper} (h : apT (rowT ops x) (rowT ops y) = true) : x.apart ops y = true := by
  unfold Oper.apart
  unfold apT rowT at h
  cases hx : x.dst <;> cases hy : y.dst <;> simp [hx, hy] at h ⊢ <;> simp_all

theorem lexT_from {ops : Array Oper} : ∀ (l : List Oper) (k : Nat) (listed : Array Bool), (∀ j, l[j]? = ops[k + j]?) → k + l.length = ops.size → listed.size = ops.size →
    (∀ j, j < ops.size → listed[j]? = some (decide (j < k))) → lexT k (l.map (rowT ops)) = true → Region.lexFrom .any ops l.length k listed = true
  | [], k, listed, hl, hk, hz, hd, h => by
    simp only [List.length_nil, Nat.add_zero] at hk
    subst hk
    simp only [List.length_nil, Region.lexFrom, Region.ready, List.isEmpty_iff, List.filter_eq_nil_iff, List.mem_range]
    intro j hj
    have h1 := hd j hj
    simp [Array.getD_eq_getD_getElem?, h1, hj]
  | o :: l, k, listed, hl, hk, hz, hd, h => by
    have h0 : ops[k]? = some o := by simpa using (hl 0).symm
    have hlt : k < ops.size := by simp only [List.length_cons] at hk; omega
    simp only [List.map_cons, lexT, Bool.and_eq_true, List.all_eq_true] at h
    obtain ⟨⟨ha, hf⟩, hr⟩ := h
    simp only [List.length_cons, Region.lexFrom, Bool.and_eq_true]
    refine ⟨⟨?_, ?_⟩, ?_⟩
    · simp only [List.contains_iff_mem, Region.ready, List.mem_filter, List.mem_range]
      refine ⟨hlt, ?_⟩
      have h1 := hd k hlt
      simp only [Array.getD_eq_getD_getElem?, h1, h0, Option.map_some, Option.getD_some, Nat.lt_irrefl, decide_false, Bool.not_false, Bool.true_and, Array.all_eq_true_iff_forall_mem]
      intro e he
      cases hb : Region.binds .any e with
      | false => rfl
      | true =>
        have h2 : e.on < k := by
          have h3 := ha e.on (by
            unfold rowT
            simp only [List.mem_map, List.mem_filter]
            exact ⟨e, ⟨by simpa using he, hb⟩, rfl⟩)
          have h7 : e.on + 1 ≤ k := by simpa [Nat.blt] using h3
          omega
        have h4 := hd e.on (by omega)
        simp [h4, h2]
    · unfold Region.free
      simp only [h0, List.all_eq_true, List.mem_range]
      intro j hj
      by_cases hjk : j = k
      · simp [hjk]
      · by_cases hlt2 : j < k
        · have h1 := hd j hj
          simp [Array.getD_eq_getD_getElem?, h1, hlt2]
        · have hoj : ops[j]? = l[j - k - 1]? := by
            have h5 := hl (j - k - 1 + 1)
            rw [show k + (j - k - 1 + 1) = j by omega] at h5
            rw [← h5]
            simp
          cases he : ops[j]? with
          | none => simp
          | some oj =>
            rw [he] at hoj
            have hm : oj ∈ l := List.mem_of_getElem? hoj.symm
            have h6 := hf (rowT ops oj) (List.mem_map.2 ⟨oj, hm, rfl⟩)
            simp only [Bool.or_eq_true] at h6 ⊢
            refine Or.inr ?_
            rcases h6 with h6 | h6
            · refine Or.inl ?_
              unfold rowT at h6
              simp only [List.contains_iff_mem, List.mem_map, List.mem_filter] at h6
              obtain ⟨e, ⟨he1, he2⟩, he3⟩ := h6
              refine Array.any_eq_true'.2 ⟨e, by simpa using he1, ?_⟩
              simp [he2, he3]
            · exact Or.inr (apT_spec h6)
    · refine lexT_from l (k + 1) _ (fun j => ?_) (by simp only [List.length_cons] at hk; omega) (by simpa using hz) (fun j hj => ?_) hr
      · have h5 := hl (j + 1)
        simpa [Nat.add_assoc, Nat.add_comm 1 j] using h5
      · by_cases hjk : k = j
        · subst hjk
          simp [Array.getElem?_setIfInBounds, hz, hlt]
        · rw [Array.getElem?_setIfInBounds_ne hjk, hd j hj]
          congr 1
          simp only [decide_eq_decide]
          omega

def noSel (o : Oper) : Bool := match o.op with | .select .. => false | _ => true
theorem lexB_tab {l : List Oper} (hs : l.all noSel = true) (h : putTab (l.map (rowT l.toArray)) (lexT 0) = true) : Region.lexB .any l.toArray = true := by
  rw [putTab_eq] at h
  unfold Region.lexB
  rw [Bool.and_eq_true]
  refine ⟨?_, ?_⟩
  · unfold Region.noSelect
    rw [List.all_toArray]
    exact hs
  · have := lexT_from (ops := l.toArray) l 0 (Array.replicate l.toArray.size false) (by simp) (by simp) (by simp) (fun j hj => by
      have hj' : j < l.length := by simpa using hj
      simp [Array.getElem?_replicate, hj']) h
    simpa using this
end Go.Proofs.YtilcokpaeapmeaaDoor
