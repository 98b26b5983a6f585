/-
  unit: what the closing of a formula is, and that it is one. No program here.
-/
import Derived.Test.YtcblejbdoegckaaDoorPlain
set_option linter.unusedSimpArgs false
set_option linter.unusedVariables false
namespace Go.Proofs.YtcblejbdoegckaaDoor

/-- how a clause stands under L: none: neither false nor unit; 0: false; l: unit on l -/
def kd (L c : List Int) : Option Int :=
  if c.any (fun l => decide (l ∈ L)) then none else
  match c.filter (fun l => decide (-l ∉ L)) with
  | [] => some 0
  | l :: r => if r.all (fun m => decide (m = l)) then some l else none
theorem kd_true {L c : List Int} {m : Int} (h : m ∈ c) (hL : m ∈ L) : kd L c = none := by
  unfold kd; rw [if_pos]; exact List.any_eq_true.2 ⟨m, h, decide_eq_true hL⟩
theorem kd_two {L c : List Int} {m m' : Int} (h : m ∈ c) (h' : m' ∈ c) (hne : m ≠ m') (hm : -m ∉ L) (hm' : -m' ∉ L) : kd L c = none := by
  unfold kd
  split
  · rfl
  · have a1 : m ∈ c.filter (fun l => decide (-l ∉ L)) := List.mem_filter.2 ⟨h, decide_eq_true hm⟩
    have a2 : m' ∈ c.filter (fun l => decide (-l ∉ L)) := List.mem_filter.2 ⟨h', decide_eq_true hm'⟩
    split
    · rename_i e; rw [e] at a1; simp at a1
    · rename_i l r e
      rw [e] at a1 a2
      rw [if_neg]
      intro hall
      have hh : ∀ x ∈ l :: r, x = l := fun x hx => by
        rcases List.mem_cons.1 hx with e | e
        · exact e
        · exact of_decide_eq_true (List.all_eq_true.1 hall x e)
      exact hne ((hh m a1).trans (hh m' a2).symm)
theorem kd_false {L c : List Int} (h : ∀ m ∈ c, -m ∈ L) (hn : ∀ m ∈ c, m ∉ L) : kd L c = some 0 := by
  unfold kd
  rw [if_neg]
  · have : c.filter (fun l => decide (-l ∉ L)) = [] := List.filter_eq_nil_iff.2 fun m hm => by simpa using h m hm
    rw [this]
  · intro he
    obtain ⟨m, hm, hd⟩ := List.any_eq_true.1 he
    exact hn m hm (of_decide_eq_true hd)
theorem kd_unit {L c : List Int} {l : Int} (hl : l ∈ c) (h1 : -l ∉ L) (h : ∀ m ∈ c, m ≠ l → -m ∈ L) (hn : ∀ m ∈ c, m ∉ L) : kd L c = some l := by
  unfold kd
  rw [if_neg]
  · have a1 : l ∈ c.filter (fun l => decide (-l ∉ L)) := List.mem_filter.2 ⟨hl, decide_eq_true h1⟩
    have a2 : ∀ x ∈ c.filter (fun l => decide (-l ∉ L)), x = l := fun x hx => by
      obtain ⟨b1, b2⟩ := List.mem_filter.1 hx
      have b2 := of_decide_eq_true b2
      exact Classical.byContradiction fun hne => b2 (h x b1 hne)
    split
    · rename_i e; rw [e] at a1; simp at a1
    · rename_i m r e
      rw [e] at a2
      have e1 : m = l := a2 m (by simp)
      subst e1
      rw [if_pos]
      exact List.all_eq_true.2 fun x hx => decide_eq_true (a2 x (List.mem_cons_of_mem _ hx))
  · intro he
    obtain ⟨m, hm, hd⟩ := List.any_eq_true.1 he
    exact hn m hm (of_decide_eq_true hd)
/-- all that kd can say -/
theorem kd_cases (L c : List Int) : (kd L c = none ∧ ((∃ m ∈ c, m ∈ L) ∨ ∃ m ∈ c, ∃ m' ∈ c, m ≠ m' ∧ -m ∉ L ∧ -m' ∉ L)) ∨ (kd L c = some 0 ∧ (∀ m ∈ c, -m ∈ L) ∧ ∀ m ∈ c, m ∉ L) ∨ ∃ l, kd L c = some l ∧ l ∈ c ∧ -l ∉ L ∧ (∀ m ∈ c, m ≠ l → -m ∈ L) ∧ ∀ m ∈ c, m ∉ L := by
  by_cases ht : ∃ m ∈ c, m ∈ L
  · obtain ⟨m, h1, h2⟩ := ht
    exact .inl ⟨kd_true h1 h2, .inl ⟨m, h1, h2⟩⟩
  · have hn : ∀ m ∈ c, m ∉ L := fun m hm h => ht ⟨m, hm, h⟩
    by_cases hf : ∀ m ∈ c, -m ∈ L
    · exact .inr (.inl ⟨kd_false hf hn, hf, hn⟩)
    · obtain ⟨l, hl⟩ : ∃ l, l ∈ c ∧ -l ∉ L := Classical.byContradiction fun h => hf fun m hm => Classical.byContradiction fun h2 => h ⟨m, hm, h2⟩
      by_cases hu : ∀ m ∈ c, m ≠ l → -m ∈ L
      · exact .inr (.inr ⟨l, kd_unit hl.1 hl.2 hu hn, hl.1, hl.2, hu, hn⟩)
      · obtain ⟨m, hm⟩ : ∃ m, m ∈ c ∧ m ≠ l ∧ -m ∉ L := Classical.byContradiction fun h => hu fun m hm h1 => Classical.byContradiction fun h2 => h ⟨m, hm, h1, h2⟩
        exact .inl ⟨kd_two hm.1 hl.1 hm.2.1 hm.2.2 hl.2, .inr ⟨m, hm.1, l, hl.1, hm.2.1, hm.2.2, hl.2⟩⟩
/-- kd goes by what stands in L alone -/
theorem kd_congr {L L' c : List Int} (h : ∀ m ∈ c, (m ∈ L ↔ m ∈ L') ∧ (-m ∈ L ↔ -m ∈ L')) : kd L c = kd L' c := by
  rcases kd_cases L c with ⟨e, (⟨m, h1, h2⟩ | ⟨m, h1, m', h2, h3, h4, h5⟩)⟩ | ⟨e, h1, h2⟩ | ⟨l, e, h1, h2, h3, h4⟩
  · rw [e]; exact (kd_true h1 ((h m h1).1.1 h2)).symm
  · rw [e]; exact (kd_two h1 h2 h3 (fun x => h4 ((h m h1).2.2 x)) (fun x => h5 ((h m' h2).2.2 x))).symm
  · rw [e]; exact (kd_false (fun m hm => (h m hm).2.1 (h1 m hm)) (fun m hm x => h2 m hm ((h m hm).1.2 x))).symm
  · rw [e]; exact (kd_unit h1 (fun x => h2 ((h l h1).2.2 x)) (fun m hm hne => (h m hm).2.1 (h3 m hm hne)) (fun m hm x => h4 m hm ((h m hm).1.2 x))).symm

/-- the least clause that is false or unit -/
structure At (css : List (List Int)) (L : List Int) (k : Nat) (x : Int) : Prop where
  lt : k < css.length
  at' : kd L (css.getD k []) = some x
  first : ∀ j, j < k → kd L (css.getD j []) = none
def Calm (css : List (List Int)) (L : List Int) : Prop := ∀ j, j < css.length → kd L (css.getD j []) = none
theorem At.unique {css : List (List Int)} {L : List Int} {k k' : Nat} {x x' : Int} (h : At css L k x) (h' : At css L k' x') : k = k' ∧ x = x' := by
  have e : k = k' := by
    rcases Nat.lt_trichotomy k k' with a | a | a
    · have := h'.first k a; rw [h.at'] at this; cases this
    · exact a
    · have := h.first k' a; rw [h'.at'] at this; cases this
  subst e
  have := h.at'.symm.trans h'.at'
  injection this with this
  exact ⟨rfl, this⟩
theorem At.calm {css : List (List Int)} {L : List Int} {k : Nat} {x : Int} (h : At css L k x) (hc : Calm css L) : False := by
  have := hc k h.lt; rw [h.at'] at this; cases this
/-- a piece of the closing -/
def Pth (css : List (List Int)) : List Int → List (Int × Nat) → Prop
  | _, [] => True
  | L, c :: cs => At css L c.2 c.1 ∧ c.1 ≠ 0 ∧ Pth css (L ++ [c.1]) cs
/-- its end -/
def End (css : List (List Int)) (L : List Int) (e : Int) : Prop := (e = -1 ∧ Calm css L) ∨ ∃ k : Nat, e = k ∧ At css L k 0
def Clo (css : List (List Int)) (L : List Int) (cs : List (Int × Nat)) (e : Int) : Prop := Pth css L cs ∧ End css (L ++ cs.map Prod.fst) e
theorem Pth.snoc {css : List (List Int)} : ∀ {L : List Int} {cs : List (Int × Nat)} {k : Nat} {l : Int}, Pth css L cs → At css (L ++ cs.map Prod.fst) k l → l ≠ 0 → Pth css L (cs ++ [(l, k)])
  | L, [], k, l, _, h, h0 => ⟨by simpa using h, h0, trivial⟩
  | L, c :: cs, k, l, hp, h, h0 => ⟨hp.1, hp.2.1, Pth.snoc hp.2.2 (by simpa using h) h0⟩
theorem Clo.unique {css : List (List Int)} : ∀ {L : List Int} {cs cs' : List (Int × Nat)} {e e' : Int}, Clo css L cs e → Clo css L cs' e' → cs = cs' ∧ e = e'
  | L, [], [], e, e', h, h' => by
    refine ⟨rfl, ?_⟩
    have h2 := h.2; have h2' := h'.2
    simp only [List.map_nil, List.append_nil] at h2 h2'
    rcases h2 with ⟨a, b⟩ | ⟨k, a, b⟩ <;> rcases h2' with ⟨a', b'⟩ | ⟨k', a', b'⟩
    · rw [a, a']
    · exact (b'.calm b).elim
    · exact (b.calm b').elim
    · rw [a, a', (b.unique b').1]
  | L, [], c :: cs, e, e', h, h' => by
    exfalso
    have h2 := h.2
    simp only [List.map_nil, List.append_nil] at h2
    rcases h2 with ⟨a, b⟩ | ⟨k, a, b⟩
    · exact h'.1.1.calm b
    · exact h'.1.2.1 (h'.1.1.unique b).2
  | L, c :: cs, [], e, e', h, h' => by
    exfalso
    have h2 := h'.2
    simp only [List.map_nil, List.append_nil] at h2
    rcases h2 with ⟨a, b⟩ | ⟨k, a, b⟩
    · exact h.1.1.calm b
    · exact h.1.2.1 (h.1.1.unique b).2
  | L, c :: cs, c' :: cs', e, e', h, h' => by
    obtain ⟨e1, e2⟩ := h.1.1.unique h'.1.1
    have hc : c = c' := Prod.ext e2 e1
    subst hc
    obtain ⟨a, b⟩ := Clo.unique (css := css) (L := L ++ [c.1]) (cs := cs) (cs' := cs') ⟨h.1.2.2, by simpa using h.2⟩ ⟨h'.1.2.2, by simpa using h'.2⟩
    exact ⟨by rw [a], b⟩
theorem Pth.get {css : List (List Int)} : ∀ {L : List Int} {cs : List (Int × Nat)}, Pth css L cs → ∀ {i : Nat} (hi : i < cs.length), At css (L ++ (cs.take i).map Prod.fst) (cs[i]).2 (cs[i]).1 ∧ (cs[i]).1 ≠ 0
  | L, [], _, i, hi => by simp at hi
  | L, c :: cs, h, 0, hi => by simpa using ⟨h.1, h.2.1⟩
  | L, c :: cs, h, i + 1, hi => by
    have := Pth.get h.2.2 (i := i) (by simpa using hi)
    simpa using this

/-- what follows by unit clauses -/
inductive Der (css : List (List Int)) (L : List Int) : Int → Prop
  | fact {l : Int} : l ∈ L → Der css L l
  | unit {c : List Int} {l : Int} : c ∈ css → l ∈ c → (∀ m ∈ c, m ≠ l → Der css L (-m)) → Der css L l
def Cla (css : List (List Int)) (L : List Int) : Prop := (∃ l, Der css L l ∧ Der css L (-l)) ∨ ∃ c ∈ css, ∀ m ∈ c, Der css L (-m)
theorem Der.mono {css css' : List (List Int)} {L L' : List Int} (hc : ∀ c ∈ css, ∃ c' ∈ css', ∀ x, x ∈ c ↔ x ∈ c') (hL : ∀ x ∈ L, Der css' L' x) {l : Int} (h : Der css L l) : Der css' L' l := by
  induction h with
  | fact h => exact hL _ h
  | unit h1 h2 h3 ih =>
    obtain ⟨c', g1, g2⟩ := hc _ h1
    exact .unit g1 ((g2 _).1 h2) fun m hm hne => ih m ((g2 m).2 hm) hne
theorem Cla.mono {css css' : List (List Int)} {L L' : List Int} (hc : ∀ c ∈ css, ∃ c' ∈ css', ∀ x, x ∈ c ↔ x ∈ c') (hL : ∀ x ∈ L, Der css' L' x) (h : Cla css L) : Cla css' L' := by
  rcases h with ⟨l, a, b⟩ | ⟨c, a, b⟩
  · exact .inl ⟨l, a.mono hc hL, b.mono hc hL⟩
  · obtain ⟨c', g1, g2⟩ := hc _ a
    exact .inr ⟨c', g1, fun m hm => (b m ((g2 m).2 hm)).mono hc hL⟩
theorem same_css (css : List (List Int)) : ∀ c ∈ css, ∃ c' ∈ css, ∀ x, x ∈ c ↔ x ∈ c' := fun c hc => ⟨c, hc, fun _ => Iff.rfl⟩
theorem Der.trans {css : List (List Int)} {L L' : List Int} (hL : ∀ x ∈ L, Der css L' x) {l : Int} (h : Der css L l) : Der css L' l := h.mono (same_css css) hL
theorem Cla.trans {css : List (List Int)} {L L' : List Int} (hL : ∀ x ∈ L, Der css L' x) (h : Cla css L) : Cla css L' := h.mono (same_css css) hL
/-- no literal beside its opposite -/
def Con (L : List Int) : Prop := ∀ l ∈ L, -l ∉ L
def Nz (css : List (List Int)) : Prop := ∀ c ∈ css, ∀ l ∈ c, l ≠ 0
theorem getD_in {css : List (List Int)} {k : Nat} (h : k < css.length) : css.getD k [] ∈ css := by
  rw [List.getD_eq_getElem?_getD, List.getElem?_eq_getElem h]; exact List.getElem_mem h
theorem in_getD {css : List (List Int)} {c : List Int} (h : c ∈ css) : ∃ k, k < css.length ∧ css.getD k [] = c := by
  obtain ⟨k, hk, e⟩ := List.getElem_of_mem h
  exact ⟨k, hk, by rw [List.getD_eq_getElem?_getD, List.getElem?_eq_getElem hk]; exact e⟩
/-- what a unit clause says -/
theorem At.unit {css : List (List Int)} {L : List Int} {k : Nat} {l : Int} (h : At css L k l) (h0 : l ≠ 0) : l ∈ css.getD k [] ∧ -l ∉ L ∧ l ∉ L ∧ ∀ m ∈ css.getD k [], m ≠ l → -m ∈ L := by
  rcases kd_cases L (css.getD k []) with ⟨e, _⟩ | ⟨e, h1, h2⟩ | ⟨l', e, h1, h2, h3, h4⟩
  · rw [h.at'] at e; cases e
  · rw [h.at'] at e; injection e with e; exact absurd e h0
  · rw [h.at'] at e; injection e with e; subst e; exact ⟨h1, h2, h4 _ h1, h3⟩
theorem At.fls {css : List (List Int)} {L : List Int} {k : Nat} (h : At css L k 0) (nz : Nz css) : ∀ m ∈ css.getD k [], -m ∈ L := by
  rcases kd_cases L (css.getD k []) with ⟨e, _⟩ | ⟨e, h1, h2⟩ | ⟨l', e, h1, h2, h3, h4⟩
  · rw [h.at'] at e; cases e
  · exact h1
  · rw [h.at'] at e; injection e with e; subst e; exact absurd rfl (nz _ (getD_in h.lt) _ h1)
theorem Con.snoc {L : List Int} {l : Int} (h : Con L) (h0 : l ≠ 0) (h1 : -l ∉ L) : Con (L ++ [l]) := by
  intro m hm hn
  rcases List.mem_append.1 hm with a | a
  · rcases List.mem_append.1 hn with b | b
    · exact h m a b
    · have : -m = l := by simpa using b
      exact h1 (by rw [← this]; simpa using a)
  · have e : m = l := by simpa using a
    subst e
    rcases List.mem_append.1 hn with b | b
    · exact h1 b
    · have : -m = m := by simpa using b
      omega
theorem Pth.con {css : List (List Int)} : ∀ {L : List Int} {cs : List (Int × Nat)}, Con L → Pth css L cs → Con (L ++ cs.map Prod.fst)
  | L, [], h, _ => by simpa using h
  | L, c :: cs, h, hp => by
    have := Pth.con (h.snoc hp.2.1 (hp.1.unit hp.2.1).2.1) hp.2.2
    simpa using this
theorem Pth.der {css : List (List Int)} : ∀ {L : List Int} {cs : List (Int × Nat)}, Pth css L cs → ∀ l ∈ L ++ cs.map Prod.fst, Der css L l
  | L, [], _ => fun l hl => .fact (by simpa using hl)
  | L, c :: cs, hp => fun l hl => by
    have h1 := Pth.der hp.2.2 l (by simpa using hl)
    refine h1.trans fun x hx => ?_
    rcases List.mem_append.1 hx with a | a
    · exact .fact a
    · have e : x = c.1 := by simpa using a
      subst e
      obtain ⟨u1, _, _, u4⟩ := hp.1.unit hp.2.1
      exact .unit (getD_in hp.1.lt) u1 fun m hm hne => .fact (u4 m hm hne)
/-- what is calm has all that follows, and no clash does -/
theorem calm_der {css : List (List Int)} {L : List Int} (hc : Con L) (h : Calm css L) : (∀ l, Der css L l → l ∈ L) ∧ ¬ Cla css L := by
  have key : ∀ c ∈ css, ∀ l ∈ c, (∀ m ∈ c, m ≠ l → -m ∈ L) → l ∈ L := by
    intro c hcs l hl hall
    obtain ⟨k, hk, e⟩ := in_getD hcs
    have hz := h k hk
    rw [e] at hz
    refine Classical.byContradiction fun hn => ?_
    have htr : ∀ m ∈ c, m ∉ L := fun m hm hmL => by
      by_cases e : m = l
      · subst e; exact hn hmL
      · exact hc m hmL (hall m hm e)
    by_cases hneg : -l ∈ L
    · have := kd_false (L := L) (c := c) (fun m hm => by
        by_cases e : m = l
        · subst e; exact hneg
        · exact hall m hm e) htr
      rw [hz] at this; cases this
    · have := kd_unit hl hneg hall htr
      rw [hz] at this; cases this
  have d : ∀ l, Der css L l → l ∈ L := by
    intro l hl
    induction hl with
    | fact h => exact h
    | unit h1 h2 h3 ih => exact key _ h1 _ h2 ih
  refine ⟨d, ?_⟩
  rintro (⟨l, a, b⟩ | ⟨c, a, b⟩)
  · exact hc l (d l a) (d _ b)
  · obtain ⟨k, hk, e⟩ := in_getD a
    have hz := h k hk
    rw [e] at hz
    have hf : ∀ m ∈ c, -m ∈ L := fun m hm => d _ (b m hm)
    have := kd_false hf (fun m hm hmL => hc m hmL (hf m hm))
    rw [hz] at this; cases this
/-- the closing comes to what follows -/
theorem Clo.calm {css : List (List Int)} {L : List Int} {cs : List (Int × Nat)} (hc : Con L) (h : Clo css L cs (-1)) : ¬ Cla css L ∧ ∀ l, Der css L l ↔ l ∈ L ++ cs.map Prod.fst := by
  have hk : Calm css (L ++ cs.map Prod.fst) := by
    rcases h.2 with ⟨_, b⟩ | ⟨k, a, _⟩
    · exact b
    · omega
  obtain ⟨h1, h2⟩ := calm_der (Pth.con hc h.1) hk
  have hin : ∀ x ∈ L, Der css (L ++ cs.map Prod.fst) x := fun x hx => .fact (List.mem_append.2 (.inl hx))
  exact ⟨fun h3 => h2 (h3.trans hin), fun l => ⟨fun h3 => h1 l (h3.trans hin), fun h3 => Pth.der h.1 l h3⟩⟩
theorem Clo.clash {css : List (List Int)} {L : List Int} {cs : List (Int × Nat)} {k : Nat} (nz : Nz css) (h : Clo css L cs k) : Cla css L := by
  rcases h.2 with ⟨a, _⟩ | ⟨k', a, b⟩
  · omega
  · refine .inr ⟨_, getD_in b.lt, fun m hm => ?_⟩
    exact Pth.der h.1 _ (b.fls nz m hm)
theorem not_con_cla {css : List (List Int)} {L : List Int} (h : ¬ Con L) : Cla css L := by
  refine Classical.byContradiction fun hn => h fun l h1 h2 => hn (.inl ⟨l, .fact h1, .fact h2⟩)

/-- what Close says -/
def Says6 (css : List (List Int)) (L : List Int) (clash : Bool) (D : List Int) : Prop :=
  (clash = true ∧ Cla css L ∧ D = []) ∨ (clash = false ∧ ¬ Cla css L ∧ (D.Pairwise fun a b => idx a < idx b) ∧ ∀ x, x ∈ D ↔ Der css L x)
theorem Says6.unique {css css' : List (List Int)} {L L' : List Int} {b b' : Bool} {D D' : List Int} (hd : ∀ x, Der css L x ↔ Der css' L' x) (hc : Cla css L ↔ Cla css' L') (h : Says6 css L b D) (h' : Says6 css' L' b' D') : b = b' ∧ D = D' := by
  rcases h with ⟨e, c, d⟩ | ⟨e, c, d, f⟩ <;> rcases h' with ⟨e', c', d'⟩ | ⟨e', c', d', f'⟩
  · exact ⟨by rw [e, e'], by rw [d, d']⟩
  · exact absurd (hc.1 c) c'
  · exact absurd (hc.2 c') c
  · exact ⟨by rw [e, e'], rising_unique d d' fun x => (f x).trans ((hd x).trans (f' x).symm)⟩
end Go.Proofs.YtcblejbdoegckaaDoor
