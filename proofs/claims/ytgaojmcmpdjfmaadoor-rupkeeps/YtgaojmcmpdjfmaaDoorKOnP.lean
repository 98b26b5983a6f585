/-
  rup: a closing that is led further and taken back. No program here.
-/
import Derived.Test.YtgaojmcmpdjfmaaDoorKUnC
set_option linter.unusedSimpArgs false
set_option linter.unusedVariables false
namespace Go.Proofs.YtgaojmcmpdjfmaaDoor

/-- what of a clause is open under K: nothing of one that is true -/
def red (K c : List Int) : List Int := if c.any (fun l => decide (l ∈ K)) then [] else c.filter (fun l => decide (-l ∉ K))
def reds (K : List Int) (css : List (List Int)) : List (List Int) := css.map (red K)
theorem red_true {K c : List Int} {m : Int} (h : m ∈ c) (hK : m ∈ K) : red K c = [] := by
  unfold red; rw [if_pos]; exact List.any_eq_true.2 ⟨m, h, decide_eq_true hK⟩
theorem red_else {K c : List Int} (h : ∀ m ∈ c, m ∉ K) : red K c = c.filter (fun l => decide (-l ∉ K)) := by
  unfold red; rw [if_neg]
  intro he
  obtain ⟨m, hm, hd⟩ := List.any_eq_true.1 he
  exact h m hm (of_decide_eq_true hd)
theorem mem_red {K c : List Int} {x : Int} : x ∈ red K c ↔ (∀ m ∈ c, m ∉ K) ∧ x ∈ c ∧ -x ∉ K := by
  by_cases h : ∀ m ∈ c, m ∉ K
  · rw [red_else h, List.mem_filter, decide_eq_true_eq]
    exact ⟨fun a => ⟨h, a⟩, fun a => a.2⟩
  · obtain ⟨m, hm, hK⟩ : ∃ m, m ∈ c ∧ m ∈ K := Classical.byContradiction fun hn => h fun m hm hK => hn ⟨m, hm, hK⟩
    rw [red_true hm hK]
    exact ⟨fun a => by simp at a, fun a => absurd a.1 h⟩
theorem reds_len (K : List Int) (css : List (List Int)) : (reds K css).length = css.length := by simp [reds]
theorem reds_at (K : List Int) (css : List (List Int)) (k : Nat) (h : k < css.length) : (reds K css).getD k [] = red K (css.getD k []) := by
  rw [List.getD_eq_getElem?_getD, List.getD_eq_getElem?_getD]
  unfold reds
  rw [List.getElem?_map, List.getElem?_eq_getElem h]
  rfl
theorem reds_out {K : List Int} {css : List (List Int)} {k : Nat} {x : Int} (h : x ∈ (reds K css).getD k []) : k < css.length := by
  refine Classical.byContradiction fun hn => ?_
  rw [List.getD_eq_getElem?_getD, List.getElem?_eq_none (by rw [reds_len]; omega)] at h
  simp at h
theorem red_cnt {K c M : List Int} (h : ∀ m ∈ c, m ∉ K) : cnt M (red K c) = cnt (K ++ M) c :=
  nodup_len6 (opl_nodup _ _) (opl_nodup _ _) fun x => by
    rw [mem_opl, mem_opl, mem_red, List.mem_append]
    constructor
    · rintro ⟨⟨a, b, c⟩, d⟩; exact ⟨b, fun e => e.elim c d⟩
    · rintro ⟨a, b⟩; exact ⟨⟨h, a, fun e => b (.inl e)⟩, fun e => b (.inr e)⟩
/-- the closing K led further to M; R: the clauses that are ready; t of them have been looked at -/
structure On (css : List (List Int)) (K M : List Int) (R : List Nat) (t : Nat) : Prop where
  con : Con (K ++ M)
  nd : R.Nodup
  sub : ∀ k ∈ R, k < css.length ∧ (∀ m ∈ css.getD k [], m ∉ K) ∧ cnt (K ++ M) (css.getD k []) ≤ 1
  all : ∀ k, k < css.length → (∀ m ∈ css.getD k [], m ∉ K) → cnt (K ++ M) (css.getD k []) ≤ 1 → k ∈ R
  done : ∀ i, i < t → i < R.length → ∃ m ∈ css.getD (R.getD i 0) [], m ∈ K ++ M
theorem On.start {css : List (List Int)} {K : List Int} (hc : Con K) (h : Calm css K) : On css K [] [] 0 := by
  refine ⟨by simpa using hc, List.nodup_nil, by simp, fun k hk hn hc => ?_, fun i hi => by omega⟩
  exfalso
  rw [List.append_nil] at hc
  have hz := h k hk
  rcases kd_cases K (css.getD k []) with ⟨e, (⟨m, h1, h2⟩ | ⟨m, h1, m', h2, h3, h4, h5⟩)⟩ | ⟨e, h1, h2⟩ | ⟨l, e, h1, h2, h3, h4⟩
  · exact hn m h1 h2
  · exact h5 (cnt_one hc h1 h4 m' h2 (Ne.symm h3))
  · rw [hz] at e; cases e
  · rw [hz] at e; cases e
/-- the clauses that become ready when l is put -/
def newR (css : List (List Int)) (K M : List Int) (l : Int) (S : List Nat) : Prop := S.Nodup ∧ ∀ k, k ∈ S ↔ k < css.length ∧ (∀ m ∈ css.getD k [], m ∉ K) ∧ -l ∈ css.getD k [] ∧ cnt (K ++ (M ++ [l])) (css.getD k []) = 1
theorem On.put {css : List (List Int)} {K M : List Int} {R S : List Nat} {t : Nat} {l : Int} (h : On css K M R t) (h0 : l ≠ 0) (h1 : l ∉ K ++ M) (h2 : -l ∉ K ++ M) (ht : t ≤ R.length) (hS : newR css K M l S) : On css K (M ++ [l]) (R ++ S) t := by
  have hcd : ∀ c, cnt (K ++ (M ++ [l])) c = cnt (K ++ M) c - (if -l ∈ c then 1 else 0) := fun c => by rw [← List.append_assoc, cnt_put h1]
  have hp : ∀ c, -l ∈ c → 1 ≤ cnt (K ++ M) c := fun c hc => cnt_pos h1 hc
  refine ⟨by rw [← List.append_assoc]; exact h.con.snoc h0 h2, ?_, fun k hk => ?_, fun k hk hn hc => ?_, fun i hi hiR => ?_⟩
  · rw [List.nodup_append]
    refine ⟨h.nd, hS.1, fun a ha b hb e => ?_⟩
    subst e
    obtain ⟨_, _, a3, a4⟩ := (hS.2 a).1 hb
    have := (h.sub a ha).2.2
    have h5 := hp _ a3
    rw [hcd, if_pos a3] at a4
    omega
  · rcases List.mem_append.1 hk with a | a
    · obtain ⟨b1, b2, b3⟩ := h.sub k a
      exact ⟨b1, b2, by rw [hcd]; omega⟩
    · obtain ⟨b1, b2, b3, b4⟩ := (hS.2 k).1 a
      exact ⟨b1, b2, by omega⟩
  · by_cases hl : -l ∈ css.getD k []
    · by_cases hone : cnt (K ++ (M ++ [l])) (css.getD k []) = 1
      · exact List.mem_append.2 (.inr ((hS.2 k).2 ⟨hk, hn, hl, hone⟩))
      · refine List.mem_append.2 (.inl (h.all k hk hn ?_))
        have h5 := hp _ hl
        have h6 := hcd (css.getD k [])
        rw [if_pos hl] at h6
        omega
    · refine List.mem_append.2 (.inl (h.all k hk hn ?_))
      have h6 := hcd (css.getD k [])
      rw [if_neg hl] at h6
      omega
  · obtain ⟨m, a, b⟩ := h.done i hi (by omega)
    refine ⟨m, ?_, by rw [← List.append_assoc]; exact List.mem_append.2 (.inl b)⟩
    have e : (R ++ S).getD i 0 = R.getD i 0 := by rw [List.getD_eq_getElem?_getD, List.getElem?_append_left (by omega), ← List.getD_eq_getElem?_getD]
    rw [e]
    exact a
theorem On.len {css : List (List Int)} {K M : List Int} {R : List Nat} {t : Nat} (h : On css K M R t) : R.length ≤ css.length := by
  have e : R.length = ((List.range css.length).filter fun k => decide (k ∈ R)).length := ((List.perm_ext_iff_of_nodup h.nd (List.nodup_range.filter _)).2 fun x => by
    rw [List.mem_filter, List.mem_range, decide_eq_true_eq]
    exact ⟨fun a => ⟨(h.sub x a).1, a⟩, fun a => a.2⟩).length_eq
  rw [e]
  exact Nat.le_trans (List.length_filter_le _ _) (by simp)
/-- a clause that was ready has been looked at -/
theorem On.look {css : List (List Int)} {K M : List Int} {R : List Nat} {t : Nat} (h : On css K M R t) (hm : ∃ m ∈ css.getD (R.getD t 0) [], m ∈ K ++ M) : On css K M R (t + 1) :=
  ⟨h.con, h.nd, h.sub, h.all, fun i hi hiR => by
    by_cases e : i = t
    · subst e; exact hm
    · exact h.done i (by omega) hiR⟩
theorem On.calm {css : List (List Int)} {K M : List Int} {R : List Nat} {t : Nat} (h : On css K M R t) (ht : R.length ≤ t) : Calm css (K ++ M) := by
  intro k hk
  by_cases hn : ∀ m ∈ css.getD k [], m ∉ K
  · by_cases hc : cnt (K ++ M) (css.getD k []) ≤ 1
    · obtain ⟨i, hi, e⟩ := List.getElem_of_mem (h.all k hk hn hc)
      obtain ⟨m, a, b⟩ := h.done i (by omega) hi
      have e2 : R.getD i 0 = k := by rw [List.getD_eq_getElem?_getD, List.getElem?_eq_getElem hi]; exact e
      rw [e2] at a
      exact kd_true a b
    · obtain ⟨m, h1, m', h2, h3, h4, h5⟩ := cnt_two (by omega : 2 ≤ cnt (K ++ M) (css.getD k []))
      exact kd_two h1 h2 h3 h4 h5
  · obtain ⟨m, hm, hK⟩ : ∃ m, m ∈ css.getD k [] ∧ m ∈ K := Classical.byContradiction fun h2 => hn fun m hm hK => h2 ⟨m, hm, hK⟩
    exact kd_true hm (List.mem_append.2 (.inl hK))
/-- led to its end: no clash -/
theorem On.fin {css : List (List Int)} {K M G : List Int} {R : List Nat} {t : Nat} (h : On css K M R t) (ht : R.length ≤ t) (hG : ∀ x ∈ G, x ∈ K ++ M) : ¬ Cla css (K ++ G) := by
  intro hc
  refine (calm_der h.con (h.calm ht)).2 (hc.trans fun x hx => .fact ?_)
  rcases List.mem_append.1 hx with a | a
  · exact List.mem_append.2 (.inl a)
  · exact hG x a
/-- all that is put follows -/
def Led (css : List (List Int)) (K G M : List Int) : Prop := ∀ x ∈ K ++ M, Der css (K ++ G) x
theorem Led.nil (css : List (List Int)) (K G : List Int) : Led css K G [] := fun x hx => .fact (List.mem_append.2 (.inl (by simpa using hx)))
theorem Led.fact {css : List (List Int)} {K G M : List Int} {l : Int} (h : Led css K G M) (hl : l ∈ G) : Led css K G (M ++ [l]) := fun x hx => by
  rw [← List.append_assoc] at hx
  rcases List.mem_append.1 hx with a | a
  · exact h x a
  · have e : x = l := by simpa using a
    subst e; exact .fact (List.mem_append.2 (.inr hl))
theorem Led.unit {css : List (List Int)} {K G M : List Int} {l : Int} {k : Nat} (h : Led css K G M) (hk : k < css.length) (hl : l ∈ css.getD k []) (hu : ∀ m ∈ css.getD k [], m ≠ l → -m ∈ K ++ M) : Led css K G (M ++ [l]) := fun x hx => by
  rw [← List.append_assoc] at hx
  rcases List.mem_append.1 hx with a | a
  · exact h x a
  · have e : x = l := by simpa using a
    subst e; exact .unit (getD_in hk) hl fun m hm hne => h _ (hu m hm hne)
theorem Led.clash {css : List (List Int)} {K G M : List Int} {l : Int} (h : Led css K G M) (h1 : l ∈ G) (h2 : -l ∈ K ++ M) : Cla css (K ++ G) := .inl ⟨l, .fact (List.mem_append.2 (.inr h1)), h _ h2⟩
theorem Led.fls {css : List (List Int)} {K G M : List Int} {k : Nat} (h : Led css K G M) (hk : k < css.length) (hf : ∀ m ∈ css.getD k [], -m ∈ K ++ M) : Cla css (K ++ G) := .inr ⟨_, getD_in hk, fun m hm => h _ (hf m hm)⟩

open Classical in
/-- is it a clash? -/
noncomputable def claB (css : List (List Int)) (L : List Int) : Bool := decide (Cla css L)
theorem claB_true {css : List (List Int)} {L : List Int} : claB css L = true ↔ Cla css L := by unfold claB; exact @decide_eq_true_iff _ (Classical.propDecidable _)
theorem claB_of {css : List (List Int)} {L : List Int} (h : Cla css L) : claB css L = true := claB_true.2 h
theorem claB_not {css : List (List Int)} {L : List Int} (h : ¬ Cla css L) : claB css L = false := by
  cases e : claB css L
  · rfl
  · exact absurd (claB_true.1 e) h
theorem claB_congr {css css' : List (List Int)} {L L' : List Int} (h : Cla css L ↔ Cla css' L') : claB css L = claB css' L' := by
  cases e : claB css' L'
  · exact claB_not fun h2 => by rw [claB_of (h.1 h2)] at e; cases e
  · exact claB_of (h.2 (claB_true.1 e))
/-- a formula's closure in place of the facts -/
theorem cla_clos {css : List (List Int)} {L K G : List Int} (h : ∀ x, x ∈ K ↔ Der css L x) : Cla css (K ++ G) ↔ Cla css (L ++ G) := by
  constructor
  · refine fun hc => hc.trans fun x hx => ?_
    rcases List.mem_append.1 hx with a | a
    · exact ((h x).1 a).trans fun y hy => .fact (List.mem_append.2 (.inl hy))
    · exact .fact (List.mem_append.2 (.inr a))
  · refine fun hc => hc.trans fun x hx => .fact ?_
    rcases List.mem_append.1 hx with a | a
    · exact List.mem_append.2 (.inl ((h x).2 (.fact a)))
    · exact List.mem_append.2 (.inr a)
theorem cla_set {css : List (List Int)} {L L' : List Int} (h : ∀ x, x ∈ L ↔ x ∈ L') : Cla css L ↔ Cla css L' :=
  ⟨fun hc => hc.trans fun x hx => .fact ((h x).1 hx), fun hc => hc.trans fun x hx => .fact ((h x).2 hx)⟩
/-- a closure is calm -/
theorem calm_clos {css : List (List Int)} {L K : List Int} (nz : Nz css) (hn : ¬ Cla css L) (h : ∀ x, x ∈ K ↔ Der css L x) : Con K ∧ Calm css K := by
  refine ⟨fun l a b => hn (.inl ⟨l, (h l).1 a, (h _).1 b⟩), fun k hk => ?_⟩
  rcases kd_cases K (css.getD k []) with ⟨e, _⟩ | ⟨e, h1, h2⟩ | ⟨l, e, h1, h2, h3, h4⟩
  · exact e
  · exact absurd (.inr ⟨_, getD_in hk, fun m hm => (h _).1 (h1 m hm)⟩) hn
  · exact absurd ((h l).2 (.unit (getD_in hk) h1 fun m hm hne => (h _).1 (h3 m hm hne))) (h4 l h1)

/-- the opposites -/
def opp (c : List Int) : List Int := c.map (fun x => -x)
theorem mem_opp {c : List Int} {x : Int} : x ∈ opp c ↔ -x ∈ c := by
  unfold opp; rw [List.mem_map]
  constructor
  · rintro ⟨y, a, rfl⟩; simpa using a
  · intro h; exact ⟨-x, h, by simp⟩
/-- c follows -/
noncomputable def folB (css : List (List Int)) (c : List Int) : Bool := claB css (opp c)
/-- the partner's other literals -/
def rst (d : List Int) (p : Int) : List Int := d.filter (fun l => decide (l ≠ -p))
theorem mem_rst {d : List Int} {p x : Int} : x ∈ rst d p ↔ x ∈ d ∧ x ≠ -p := by unfold rst; rw [List.mem_filter, decide_eq_true_eq]
/-- all partners' resolvents follow -/
noncomputable def parB (css : List (List Int)) (L : List Int) (p : Int) (ds : List (List Int)) : Bool := ds.all fun d => !decide (-p ∈ d) || claB css (L ++ opp (rst d p))
/-- c is safe -/
noncomputable def safB (css : List (List Int)) : List Int → Bool
  | [] => false
  | p :: r => parB css (opp (p :: r)) p css
theorem parB_clos {css : List (List Int)} {L K : List Int} {p : Int} {ds : List (List Int)} (h : ∀ x, x ∈ K ↔ Der css L x) : parB css K p ds = parB css L p ds := by
  unfold parB
  congr 1
  funext d
  rw [claB_congr (cla_clos (G := opp (rst d p)) h)]
theorem parB_clash {css : List (List Int)} {L : List Int} {p : Int} {ds : List (List Int)} (h : Cla css L) : parB css L p ds = true := by
  unfold parB
  rw [List.all_eq_true]
  intro d _
  rw [Bool.or_eq_true]
  exact .inr (claB_of (h.trans fun x hx => .fact (List.mem_append.2 (.inl hx))))
/-- what the kind is -/
noncomputable def kndI (css : List (List Int)) (c : List Int) : Int := if folB css c then 1 else if safB css c then 2 else 0
end Go.Proofs.YtgaojmcmpdjfmaaDoor
