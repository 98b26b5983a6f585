/-
  Trails (pure): entries, places, which are well shaped.
-/
import Derived.Test.YtgngdohhlhlcpaaPlain
set_option linter.unusedSimpArgs false
set_option linter.unusedVariables false
namespace Go.Proofs.Ytgngdohhlhlcpaa
/-- an entry: its literal, its level, its reason -/
abbrev Ent := Int × Int × List Int
abbrev e0 : Ent := (0, 0, [])
/-- the place of the entry of a variable -/
def vpl (t : List Ent) (v : Int) : Option Nat := t.findIdx? (fun e => varOf e.1 == v)
/-- the place of the entry that makes a literal false -/
def plc (t : List Ent) (x : Int) : Option Nat := t.findIdx? (fun e => e.1 == -x)
/-- is the literal false, as the program asks it -/
def isF (t : List Ent) (x : Int) : Bool := match vpl t (varOf x) with | some i => (t.getD i e0).1 == -x | none => false
/-- the level of the last entry -/
def lstL (t : List Ent) : Int := (t.getD (t.length - 1) e0).2.1
def lvB (p : List Ent) (e : Ent) : Bool := (e.2.1 == lstL p || e.2.1 == lstL p + 1) && (e.2.1 == 0 || (e.2.1 != lstL p) == (e.2.2.length == 0))
def rsB (p : List Ent) (e : Ent) : Bool := e.2.2.contains e.1 && e.2.2.all (fun y => y == e.1 || isF p y)
/-- may the entry stand behind these? -/
def okE (p : List Ent) (e : Ent) : Bool := fmd e.1 && (vpl p (varOf e.1)).isNone && lvB p e && (e.2.2.length == 0 || rsB p e)
/-- well shaped -/
def Ws (t : List Ent) : Prop := ∀ i, i < t.length → okE (t.take i) (t.getD i e0) = true
def frmE (t : List Ent) : Bool := (List.range t.length).all fun i => okE (t.take i) (t.getD i e0)
theorem frmE_iff (t : List Ent) : frmE t = true ↔ Ws t := by simp [frmE, Ws]
theorem Ws.nil : Ws [] := fun i h => by simp at h
theorem Ws.take {t : List Ent} (h : Ws t) (k : Nat) : Ws (t.take k) := fun i hi => by
  have hi' : i < k ∧ i < t.length := by simpa [List.length_take, Nat.lt_min] using hi
  have := h i hi'.2
  rw [List.take_take, Nat.min_eq_left (by omega)]
  simpa [List.getD_eq_getElem?_getD, List.getElem?_take, hi'.1] using this
theorem ws_snoc {t : List Ent} {k : Nat} (hk : k < t.length) : Ws (t.take (k + 1)) ↔ Ws (t.take k) ∧ okE (t.take k) (t.getD k e0) = true := by
  constructor
  · intro h
    refine ⟨by have := h.take k; rwa [List.take_take, Nat.min_eq_left (by omega)] at this, ?_⟩
    have := h k (by simp; omega)
    rw [List.take_take, Nat.min_eq_left (by omega)] at this
    simpa [List.getD_eq_getElem?_getD, List.getElem?_take] using this
  · rintro ⟨h1, h2⟩ i hi
    have hi' : i < k + 1 ∧ i < t.length := by simpa [List.length_take, Nat.lt_min] using hi
    rw [List.take_take, Nat.min_eq_left (by omega)]
    by_cases e : i = k
    · subst e
      simpa [List.getD_eq_getElem?_getD, List.getElem?_take] using h2
    · have := h1 i (by simp; omega)
      rw [List.take_take, Nat.min_eq_left (by omega)] at this
      simpa [List.getD_eq_getElem?_getD, List.getElem?_take, show i < k by omega, show i < k + 1 by omega] using this
theorem Ws.end {t : List Ent} (h : Ws (t.take t.length)) : frmE t = true := by rw [List.take_length] at h; exact (frmE_iff t).2 h
theorem frmE_no {t : List Ent} {k : Nat} (hk : k < t.length) (h : okE (t.take k) (t.getD k e0) = false) : frmE t = false := by
  cases e : frmE t with
  | false => rfl
  | true => have := (frmE_iff t).1 e k hk; rw [h] at this; cases this
section
variable {t : List Ent}
theorem okE_parts {p : List Ent} {e : Ent} (h : okE p e = true) : fmd e.1 = true ∧ vpl p (varOf e.1) = none ∧ lvB p e = true ∧ (e.2.2.length = 0 ∨ rsB p e = true) := by
  unfold okE at h
  simp only [Bool.and_eq_true, Bool.or_eq_true, beq_iff_eq, Option.isNone_iff_eq_none] at h
  exact ⟨h.1.1.1, h.1.1.2, h.1.2, h.2⟩
theorem Ws.lit (h : Ws t) {i : Nat} (hi : i < t.length) : fmd (t.getD i e0).1 = true := (okE_parts (h i hi)).1
theorem vpl_some {p : List Ent} {v : Int} {i : Nat} (h : vpl p v = some i) : i < p.length ∧ varOf (p.getD i e0).1 = v ∧ ∀ j, j < i → varOf (p.getD j e0).1 ≠ v := by
  unfold vpl at h
  rw [List.findIdx?_eq_some_iff_getElem] at h
  obtain ⟨h1, h2, h3⟩ := h
  refine ⟨h1, by simpa [List.getD_eq_getElem?_getD, h1] using h2, fun j hj => ?_⟩
  have := h3 j hj
  simpa [List.getD_eq_getElem?_getD, show j < p.length by omega] using this
theorem vpl_none {p : List Ent} {v : Int} : vpl p v = none ↔ ∀ j, j < p.length → varOf (p.getD j e0).1 ≠ v := by
  unfold vpl
  rw [List.findIdx?_eq_none_iff]
  constructor
  · intro h j hj
    have := h _ (List.getElem_mem hj)
    simpa [List.getD_eq_getElem?_getD, hj] using this
  · intro h x hx
    obtain ⟨j, hj, rfl⟩ := List.getElem_of_mem hx
    have := h j hj
    simpa [List.getD_eq_getElem?_getD, hj] using this
theorem plc_some {p : List Ent} {v : Int} {i : Nat} (h : plc p v = some i) : i < p.length ∧ (p.getD i e0).1 = -v ∧ ∀ j, j < i → (p.getD j e0).1 ≠ -v := by
  unfold plc at h
  rw [List.findIdx?_eq_some_iff_getElem] at h
  obtain ⟨h1, h2, h3⟩ := h
  refine ⟨h1, by simpa [List.getD_eq_getElem?_getD, h1] using h2, fun j hj => ?_⟩
  have := h3 j hj
  simpa [List.getD_eq_getElem?_getD, show j < p.length by omega] using this
theorem plc_none {p : List Ent} {v : Int} : plc p v = none ↔ ∀ j, j < p.length → (p.getD j e0).1 ≠ -v := by
  unfold plc
  rw [List.findIdx?_eq_none_iff]
  constructor
  · intro h j hj
    have := h _ (List.getElem_mem hj)
    simpa [List.getD_eq_getElem?_getD, hj] using this
  · intro h x hx
    obtain ⟨j, hj, rfl⟩ := List.getElem_of_mem hx
    have := h j hj
    simpa [List.getD_eq_getElem?_getD, hj] using this
theorem take_at {k j : Nat} (hj : j < k) (t : List Ent) : (t.take k).getD j e0 = t.getD j e0 := by simp [List.getD_eq_getElem?_getD, List.getElem?_take, hj]
/-- no variable twice -/
theorem Ws.apart (h : Ws t) {i j : Nat} (hi : i < t.length) (hj : j < i) : varOf (t.getD j e0).1 ≠ varOf (t.getD i e0).1 := by
  have := vpl_none.1 (okE_parts (h i hi)).2.1 j (by simp; omega)
  rwa [take_at hj] at this
theorem Ws.one (h : Ws t) {i j : Nat} (hi : i < t.length) (hj : j < t.length) (e : varOf (t.getD j e0).1 = varOf (t.getD i e0).1) : i = j := by
  rcases Nat.lt_trichotomy i j with k | k | k
  · exact absurd e.symm (h.apart hj k)
  · exact k
  · exact absurd e (h.apart hi k)
theorem varOf_opp {x : Int} (h : fmd x = true) : varOf (-x) = varOf x := by
  have h1 := fmd_range h
  rcases Int.lt_trichotomy x 0 with k | k | k
  · rw [(there_neg h k).2, (there_pos (fmd_neg h) (by omega)).2]
  · exact absurd k h1.1
  · rw [(there_pos h k).2, (there_neg (fmd_neg h) (by omega)).2]; omega
theorem varOf_eq {x y : Int} (hx : fmd x = true) (hy : fmd y = true) (h : varOf x = varOf y) : x = y ∨ x = -y := by
  rcases Int.lt_trichotomy x 0 with k | k | k <;> rcases Int.lt_trichotomy y 0 with m | m | m
  all_goals first
    | exact absurd k (fmd_range hx).1
    | exact absurd m (fmd_range hy).1
    | skip
  · rw [(there_neg hx k).2, (there_neg hy m).2] at h; left; omega
  · rw [(there_neg hx k).2, (there_pos hy m).2] at h; right; omega
  · rw [(there_pos hx k).2, (there_neg hy m).2] at h; right; omega
  · rw [(there_pos hx k).2, (there_pos hy m).2] at h; left; omega
theorem varOf_pos {x : Int} (h : fmd x = true) : 1 ≤ varOf x ∧ varOf x ≤ 1048576 := by
  have h1 := fmd_range h
  rcases Int.lt_trichotomy x 0 with k | k | k
  · rw [(there_neg h k).2]; omega
  · exact absurd k h1.1
  · rw [(there_pos h k).2]; omega
theorem varOf_no {x : Int} (h : fmd x = false) : varOf x = 0 := by simp [varOf, h]
theorem varOf_le (x : Int) : 0 ≤ varOf x ∧ varOf x ≤ 1048576 := by
  cases h : fmd x with
  | false => rw [varOf_no h]; omega
  | true => have := varOf_pos h; omega
/-- the place of a literal that is false is its variable's -/
theorem Ws.plc_vpl (h : Ws t) {x : Int} {i : Nat} (hx : fmd x = true) (hp : plc t x = some i) : vpl t (varOf x) = some i := by
  obtain ⟨h1, h2, h3⟩ := plc_some hp
  have hv : varOf (t.getD i e0).1 = varOf x := by rw [h2, varOf_opp hx]
  cases e : vpl t (varOf x) with
  | none => exact absurd hv (vpl_none.1 e i h1)
  | some j =>
    obtain ⟨k1, k2, _⟩ := vpl_some e
    rw [h.one h1 k1 (by rw [k2, hv])]
theorem Ws.vpl_plc (h : Ws t) {x : Int} {i : Nat} (hx : fmd x = true) (hp : vpl t (varOf x) = some i) (he : (t.getD i e0).1 = -x) : plc t x = some i := by
  obtain ⟨h1, h2, _⟩ := vpl_some hp
  cases e : plc t x with
  | none => exact absurd he (plc_none.1 e i h1)
  | some j =>
    have := h.plc_vpl hx e
    rw [hp] at this
    rw [Option.some.inj this]
theorem Ws.isF_no (h : Ws t) {x : Int} (hx : fmd x = false) : isF t x = false := by
  unfold isF
  rw [varOf_no hx]
  have : vpl t 0 = none := vpl_none.2 fun j hj => by have := varOf_pos (h.lit hj); omega
  rw [this]
theorem Ws.isF_plc (h : Ws t) {x : Int} (hx : fmd x = true) : isF t x = (plc t x).isSome := by
  unfold isF
  cases e : plc t x with
  | some i =>
    rw [h.plc_vpl hx e]
    show ((t.getD i e0).1 == -x) = true
    rw [(plc_some e).2.1]; simp
  | none =>
    cases e2 : vpl t (varOf x) with
    | none => rfl
    | some j =>
      have : ¬ (t.getD j e0).1 = -x := plc_none.1 e j (vpl_some e2).1
      simpa using this
theorem Ws.isF_iff (h : Ws t) {x : Int} : isF t x = true ↔ fmd x = true ∧ ∃ i, plc t x = some i := by
  cases hx : fmd x with
  | false => rw [h.isF_no hx]; simp
  | true => rw [h.isF_plc hx, Option.isSome_iff_exists]; simp
theorem vpl_snoc (p : List Ent) (e : Ent) (v : Int) (h : vpl p (varOf e.1) = none) : vpl (p ++ [e]) v = if v = varOf e.1 then some p.length else vpl p v := by
  have key : vpl (p ++ [e]) v = (vpl p v).or (if v = varOf e.1 then some p.length else none) := by
    unfold vpl
    rw [List.findIdx?_append]
    by_cases q : v = varOf e.1
    · subst q; simp
    · have : ¬ varOf e.1 = v := fun h => q h.symm
      simp [q, this]
  rw [key]
  by_cases q : v = varOf e.1
  · subst q; rw [h]; simp
  · simp [q]
theorem takeE_snoc {k : Nat} (hk : k < t.length) : t.take (k + 1) = t.take k ++ [t.getD k e0] := by
  rw [List.take_add_one]; simp [List.getD_eq_getElem?_getD, hk]
/-- where a variable stands, one entry further -/
theorem vpl_more {k : Nat} (hk : k < t.length) (h : vpl (t.take k) (varOf (t.getD k e0).1) = none) (v : Int) : vpl (t.take (k + 1)) v = if v = varOf (t.getD k e0).1 then some k else vpl (t.take k) v := by
  rw [takeE_snoc hk, vpl_snoc _ _ _ h]
  simp [Nat.min_eq_left (Nat.le_of_lt hk)]
theorem lstL_take {k : Nat} (hk : k < t.length) : lstL (t.take (k + 1)) = (t.getD k e0).2.1 := by
  unfold lstL
  rw [List.length_take, Nat.min_eq_left (by omega), Nat.add_sub_cancel, take_at (by omega)]
theorem lstL_nil : lstL (t.take 0) = 0 := rfl
/-- the levels: from 0 on, by ones -/
theorem Ws.lev (h : Ws t) : ∀ i, i < t.length → 0 ≤ (t.getD i e0).2.1 ∧ (t.getD i e0).2.1 ≤ (i : Int) + 1
  | 0, hi => by
    have := (okE_parts (h 0 hi)).2.2.1
    unfold lvB at this
    simp only [Bool.and_eq_true, Bool.or_eq_true, beq_iff_eq] at this
    rw [lstL_nil] at this
    omega
  | i + 1, hi => by
    have ih := h.lev i (by omega)
    have := (okE_parts (h (i + 1) hi)).2.2.1
    unfold lvB at this
    simp only [Bool.and_eq_true, Bool.or_eq_true, beq_iff_eq] at this
    rw [lstL_take (by omega)] at this
    omega
theorem Ws.lstB (h : Ws t) : 0 ≤ lstL t ∧ lstL t ≤ (t.length : Int) := by
  by_cases e : t.length = 0
  · have : t = [] := List.length_eq_zero_iff.1 e
    subst this; exact ⟨Int.le_refl _, Int.le_refl _⟩
  · have := h.lev (t.length - 1) (by omega)
    unfold lstL
    omega
theorem Ws.rise (h : Ws t) {i j : Nat} (hj : j < t.length) : i ≤ j → (t.getD i e0).2.1 ≤ (t.getD j e0).2.1 := by
  induction j with
  | zero => intro hij; obtain rfl : i = 0 := by omega
            exact Int.le_refl _
  | succ j ih =>
    intro hij
    by_cases e : i = j + 1
    · subst e; exact Int.le_refl _
    · have h1 := ih (by omega) (by omega)
      have := (okE_parts (h (j + 1) hj)).2.2.1
      unfold lvB at this
      simp only [Bool.and_eq_true, Bool.or_eq_true, beq_iff_eq] at this
      rw [lstL_take (by omega)] at this
      omega
/-- how many entries there can be -/
theorem len_of_apart : ∀ (n : Nat) (l : List Int), l.Pairwise (fun a b => a ≠ b) → (∀ x ∈ l, 1 ≤ x ∧ x ≤ (n : Int)) → l.length ≤ n
  | 0, l, _, h => by
    cases l with
    | nil => simp
    | cons a r => have := h a (by simp); omega
  | n + 1, l, hp, h => by
    have h1 := len_of_apart n (l.filter (fun x => x != ((n : Int) + 1))) (hp.filter _) (fun x hx => by
      obtain ⟨h1, h2⟩ := List.mem_filter.1 hx
      have := h x h1
      have : x ≠ (n : Int) + 1 := by simpa using h2
      omega)
    have h2 : l.length ≤ (l.filter (fun x => x != ((n : Int) + 1))).length + 1 := by
      clear h1 h
      induction l with
      | nil => simp
      | cons a r ih =>
        rw [List.pairwise_cons] at hp
        by_cases e : a = (n : Int) + 1
        · have : r.filter (fun x => x != ((n : Int) + 1)) = r := List.filter_eq_self.2 fun x hx => by
            have := hp.1 x hx
            simp only [bne_iff_ne, ne_eq]; omega
          simp [e, this]
        · have := ih hp.2
          simp [e]; omega
    omega
theorem Ws.len (h : Ws t) : t.length ≤ 1048576 := by
  have hp : (t.map fun e => varOf e.1).Pairwise (fun a b => a ≠ b) := by
    rw [List.pairwise_map, List.pairwise_iff_getElem]
    intro i j hi hj hij
    have := h.apart hj hij
    simpa [List.getD_eq_getElem?_getD, hi, hj] using this
  have := len_of_apart 1048576 _ hp (fun x hx => by
    obtain ⟨e, he, rfl⟩ := List.mem_map.1 hx
    obtain ⟨i, hi, rfl⟩ := List.getElem_of_mem he
    have := varOf_pos (h.lit hi)
    simpa [List.getD_eq_getElem?_getD, hi] using this)
  simpa using this
/-- a reason's other literals stand ahead -/
theorem Ws.reason (h : Ws t) {i : Nat} (hi : i < t.length) (hr : (t.getD i e0).2.2.length ≠ 0) : (t.getD i e0).1 ∈ (t.getD i e0).2.2 ∧ ∀ y ∈ (t.getD i e0).2.2, y ≠ (t.getD i e0).1 → fmd y = true ∧ ∃ j, j < i ∧ plc t y = some j := by
  rcases (okE_parts (h i hi)).2.2.2 with e | e
  · exact absurd e hr
  unfold rsB at e
  simp only [Bool.and_eq_true, List.all_eq_true, Bool.or_eq_true, beq_iff_eq] at e
  refine ⟨by simpa using e.1, fun y hy hne => ?_⟩
  rcases e.2 y hy with q | q
  · exact absurd q hne
  · obtain ⟨h1, j, h2⟩ := (h.take i).isF_iff.1 q
    obtain ⟨k1, k2, k3⟩ := plc_some h2
    have hj : j < i := by simp at k1; omega
    rw [take_at hj] at k2
    refine ⟨h1, j, hj, ?_⟩
    have := (h.take i).plc_vpl h1 h2
    have hv : vpl t (varOf y) = some j := by
      cases e : vpl t (varOf y) with
      | none => exact absurd (by rw [k2, varOf_opp h1]) (vpl_none.1 e j (by omega))
      | some m =>
        obtain ⟨m1, m2, _⟩ := vpl_some e
        rw [h.one (i := j) (j := m) (by omega) m1 (by rw [m2, k2, varOf_opp h1])]
    exact h.vpl_plc h1 hv k2
end
/-- the document's reading of a reason -/
def rsR (p : List Ent) (e : Ent) : Bool := e.2.2.all fmd && e.2.2.contains e.1 && e.2.2.all (fun y => y == e.1 || (plc p y).isSome)
theorem rs_same {p : List Ent} (h : Ws p) {e : Ent} (he : fmd e.1 = true) : rsR p e = rsB p e := by
  rw [Bool.eq_iff_iff]
  unfold rsR rsB
  simp only [Bool.and_eq_true, List.all_eq_true, Bool.or_eq_true, beq_iff_eq]
  constructor
  · rintro ⟨⟨h1, h2⟩, h3⟩
    exact ⟨h2, fun y hy => (h3 y hy).imp id fun q => by rw [h.isF_plc (h1 y hy)]; exact q⟩
  · rintro ⟨h2, h3⟩
    refine ⟨⟨fun y hy => ?_, h2⟩, fun y hy => (h3 y hy).imp id fun q => ?_⟩
    · rcases h3 y hy with q | q
      · rw [q]; exact he
      · exact (h.isF_iff.1 q).1
    · obtain ⟨_, i, hi⟩ := h.isF_iff.1 q
      rw [hi]; rfl
/-- no entry of the variable: neither of the literal nor of its opposite -/
theorem vpl_both {p : List Ent} (h : Ws p) {x : Int} (hx : fmd x = true) : (vpl p (varOf x)).isNone = ((plc p x).isNone && (plc p (-x)).isNone) := by
  cases e : vpl p (varOf x) with
  | none =>
    have n1 : plc p x = none := plc_none.2 fun j hj q => vpl_none.1 e j hj (by rw [q, varOf_opp hx])
    have n2 : plc p (-x) = none := plc_none.2 fun j hj q => vpl_none.1 e j hj (by rw [q, Int.neg_neg])
    rw [n1, n2]; rfl
  | some i =>
    obtain ⟨h1, h2, _⟩ := vpl_some e
    rcases varOf_eq (h.lit h1) hx h2 with q | q
    · have : plc p (-x) = some i := h.vpl_plc (fmd_neg hx) (by rw [varOf_opp hx]; exact e) (by rw [q, Int.neg_neg])
      rw [this]; simp
    · have : plc p x = some i := h.vpl_plc hx e q
      rw [this]; simp
/-- the level of a literal's variable -/
def lvl (t : List Ent) (x : Int) : Int := match vpl t (varOf x) with | some i => (t.getD i e0).2.1 | none => 0
/-- all literals of a list are false -/
def falB (t : List Ent) (c : List Int) : Bool := c.all fun x => isF t x
/-- the refusals: 1, 2; 0 none -/
def askI (t : List Ent) (c : List Int) : Int := if frmE t && c.all fmd then (if falB t c then 0 else 2) else 1
/-- all variables of a list have entries -/
def hasB (t : List Ent) (c : List Int) : Bool := c.all fun x => (vpl t (varOf x)).isSome
def addL (acc : List Int) (x : Int) : List Int := if acc.contains x then acc else acc ++ [x]
def dis (l : List Int) : List Int := l.foldl addL []
def lvsI (t : List Ent) (c : List Int) : Int × Int := if frmE t && c.all fmd then (if hasB t c then (((dis (c.map (lvl t))).length : Int), 0) else (0, 2)) else (0, 1)
end Go.Proofs.Ytgngdohhlhlcpaa
