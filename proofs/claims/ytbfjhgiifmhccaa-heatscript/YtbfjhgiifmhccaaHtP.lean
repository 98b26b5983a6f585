/-
  Plain mathematics of layer 14: a heap over a row, with the numbers' places. No program here.
  KEEP: irr total trans set at len step fin pos none
-/
set_option linter.unusedSimpArgs false
set_option linter.unusedVariables false
namespace Go.Proofs.Ytbfjhgiifmhccaa

/-- does the number a go ahead of b -/
def ahd (κ : Nat → Nat) (a b : Nat) : Bool := decide (κ b < κ a ∨ κ a = κ b ∧ a < b)
theorem ahd_irr (κ : Nat → Nat) (a : Nat) : ahd κ a a = false := by simp [ahd]
theorem ahd_asym {κ : Nat → Nat} {a b : Nat} (h : ahd κ a b = true) : ahd κ b a = false := by simp [ahd] at *; omega
theorem ahd_total {κ : Nat → Nat} {a b : Nat} (h : ahd κ a b = false) (h' : ahd κ b a = false) : a = b := by simp [ahd] at *; omega
theorem ahd_trans {κ : Nat → Nat} {a b c : Nat} (h : ahd κ a b = true) (h' : ahd κ b c = true) : ahd κ a c = true := by simp [ahd] at *; omega
/-- not ahead, one behind the other -/
theorem ahd_le {κ : Nat → Nat} {a b c : Nat} (h : ahd κ a b = false) (h' : ahd κ b c = false) : ahd κ a c = false := by simp [ahd] at *; omega
theorem ahd_lt {κ : Nat → Nat} {a b c : Nat} (h : ahd κ a b = false) (h' : ahd κ c b = true) : ahd κ a c = false := by simp [ahd] at *; omega

def gt (l : List Nat) (k : Nat) : Nat := l.getD k 0
theorem gt_set {l : List Nat} {j k x : Nat} (hj : j < l.length) : gt (l.set j x) k = if k = j then x else gt l k := by
  unfold gt
  rw [List.getD_eq_getElem?_getD, List.getD_eq_getElem?_getD, List.getElem?_set]
  by_cases h : j = k
  · subst h; simp [hj]
  · rw [if_neg h, if_neg (fun e => h e.symm)]
theorem gt_app {l : List Nat} {k x : Nat} : gt (l ++ [x]) k = if k = l.length then x else gt l k := by
  unfold gt
  rw [List.getD_eq_getElem?_getD, List.getD_eq_getElem?_getD]
  by_cases h : k = l.length
  · subst h; simp
  · rw [if_neg h]
    by_cases h' : k < l.length
    · rw [List.getElem?_append_left h']
    · rw [List.getElem?_eq_none (by simp; omega), List.getElem?_eq_none (by omega)]
theorem gt_take {l : List Nat} {k m : Nat} (h : k < m) : gt (l.take m) k = gt l k := by
  unfold gt
  rw [List.getD_eq_getElem?_getD, List.getD_eq_getElem?_getD, List.getElem?_take_of_lt h]
theorem gt_at {l : List Nat} {k : Nat} (h : k < l.length) : l[k]? = some (gt l k) := by
  unfold gt
  rw [List.getD_eq_getElem?_getD, List.getElem?_eq_getElem h]; rfl
theorem gt_map {l : List Nat} {f : Nat → Nat} {k : Nat} (h : k < l.length) : gt (l.map f) k = f (gt l k) := by
  unfold gt
  rw [List.getD_eq_getElem?_getD, List.getD_eq_getElem?_getD, List.getElem?_map, List.getElem?_eq_getElem h]; rfl

/-- the row and the places fit -/
structure Bij (n : Nat) (R P : List Nat) : Prop where
  pl : P.length = n + 1
  pos : 1 ≤ R.length
  inn : ∀ p, 1 ≤ p → p < R.length → 1 ≤ gt R p ∧ gt R p ≤ n ∧ gt P (gt R p) = p
  out : ∀ v, 1 ≤ v → v ≤ n → gt P v < R.length ∧ (gt P v ≠ 0 → gt R (gt P v) = v)
theorem Bij.inj {n : Nat} {R P : List Nat} (h : Bij n R P) {p q : Nat} (hp : 1 ≤ p) (hp' : p < R.length) (hq : 1 ≤ q) (hq' : q < R.length) (e : gt R p = gt R q) : p = q := by
  have a := (h.inn p hp hp').2.2; have b := (h.inn q hq hq').2.2
  rw [e] at a; omega
/-- two of the row change places -/
def swpR (R : List Nat) (q j : Nat) : List Nat := (R.set q (gt R j)).set j (gt R q)
def swpP (R P : List Nat) (q j : Nat) : List Nat := (P.set (gt R j) q).set (gt R q) j
theorem swpR_len (R : List Nat) (q j : Nat) : (swpR R q j).length = R.length := by simp [swpR]
theorem swpR_at {R : List Nat} {q j : Nat} (hq : q < R.length) (hj : j < R.length) (k : Nat) : gt (swpR R q j) k = if k = j then gt R q else if k = q then gt R j else gt R k := by
  unfold swpR
  rw [gt_set (by simpa using hj), gt_set hq]
theorem Bij.swp {n : Nat} {R P : List Nat} (h : Bij n R P) {q j : Nat} (hq : 1 ≤ q) (hq' : q < R.length) (hj : 1 ≤ j) (hj' : j < R.length) (hne : q ≠ j) : Bij n (swpR R q j) (swpP R P q j) ∧ ∀ v, 1 ≤ v → v ≤ n → (gt (swpP R P q j) v ≠ 0 ↔ gt P v ≠ 0) := by
  have a := h.inn q hq hq'
  have b := h.inn j hj hj'
  have hun : gt R q ≠ gt R j := fun e => hne (h.inj hq hq' hj hj' e)
  have hP : ∀ v, gt (swpP R P q j) v = if v = gt R q then j else if v = gt R j then q else gt P v := fun v => by
    unfold swpP
    rw [gt_set (by simp [h.pl]; omega), gt_set (by rw [h.pl]; omega)]
  refine ⟨⟨by simp [swpP, h.pl], by rw [swpR_len]; exact h.pos, ?_, ?_⟩, ?_⟩
  · intro p hp hp'
    rw [swpR_len] at hp'
    rw [swpR_at hq' hj', hP]
    by_cases e1 : p = j
    · subst e1; rw [if_pos rfl, if_pos rfl]; exact ⟨a.1, a.2.1, rfl⟩
    · rw [if_neg e1]
      by_cases e2 : p = q
      · subst e2; rw [if_pos rfl, if_neg (fun e => hun e.symm), if_pos rfl]; exact ⟨b.1, b.2.1, rfl⟩
      · rw [if_neg e2]
        have c := h.inn p hp hp'
        rw [if_neg (fun e => e2 (h.inj hp hp' hq hq' e)), if_neg (fun e => e1 (h.inj hp hp' hj hj' e))]
        exact c
  · intro v hv hv'
    rw [swpR_len, hP]
    have c := h.out v hv hv'
    by_cases e1 : v = gt R q
    · rw [if_pos e1, swpR_at hq' hj', if_pos rfl]; exact ⟨hj', fun _ => e1.symm⟩
    · rw [if_neg e1]
      by_cases e2 : v = gt R j
      · rw [if_pos e2, swpR_at hq' hj', if_neg hne, if_pos rfl]; exact ⟨hq', fun _ => e2.symm⟩
      · rw [if_neg e2, swpR_at hq' hj']
        refine ⟨c.1, fun h0 => ?_⟩
        have d := c.2 h0
        rw [if_neg (fun e => e2 (by rw [← d, e])), if_neg (fun e => e1 (by rw [← d, e]))]
        exact d
  · intro v hv hv'
    rw [hP]
    by_cases e1 : v = gt R q
    · rw [if_pos e1, e1, a.2.2]; omega
    · rw [if_neg e1]
      by_cases e2 : v = gt R j
      · rw [if_pos e2, e2, b.2.2]; omega
      · rw [if_neg e2]

/-- from a place on none is ahead of the one at half its place -/
def HP (κ : Nat → Nat) (R : List Nat) (k : Nat) : Prop := ∀ p, 2 ≤ p → p < R.length → k ≤ p / 2 → ahd κ (gt R p) (gt R (p / 2)) = false
structure UpI (κ : Nat → Nat) (R : List Nat) (q : Nat) : Prop where
  a : ∀ p, 2 ≤ p → p < R.length → p ≠ q → ahd κ (gt R p) (gt R (p / 2)) = false
  b : ∀ p, p / 2 = q → 2 ≤ q → p < R.length → ahd κ (gt R p) (gt R (q / 2)) = false
structure DnI (κ : Nat → Nat) (R : List Nat) (k q : Nat) : Prop where
  a : ∀ p, 2 ≤ p → p < R.length → k ≤ p / 2 → p / 2 ≠ q → ahd κ (gt R p) (gt R (p / 2)) = false
  b : ∀ p, p / 2 = q → 2 ≤ q → k ≤ q / 2 → p < R.length → ahd κ (gt R p) (gt R (q / 2)) = false
theorem UpI.step {κ : Nat → Nat} {R : List Nat} {q : Nat} (h : UpI κ R q) (hq : 2 ≤ q) (hq' : q < R.length) (ha : ahd κ (gt R q) (gt R (q / 2)) = true) : UpI κ (swpR R q (q / 2)) (q / 2) := by
  have hj : q / 2 < R.length := by omega
  have hne : q ≠ q / 2 := by omega
  have at_ := swpR_at hq' hj
  refine ⟨?_, ?_⟩
  · intro p hp hp' hpn
    rw [swpR_len] at hp'
    rw [at_ p, at_ (p / 2), if_neg hpn]
    by_cases e1 : p = q
    · rw [if_pos e1, e1, if_pos rfl]; exact ahd_asym ha
    · rw [if_neg e1]
      by_cases e2 : p / 2 = q / 2
      · rw [if_pos e2]
        have := h.a p hp hp' e1
        rw [e2] at this
        exact ahd_lt this ha
      · rw [if_neg e2]
        by_cases e3 : p / 2 = q
        · rw [if_pos e3]; exact h.b p e3 hq hp'
        · rw [if_neg e3]; exact h.a p hp hp' e1
  · intro p hp hq2 hp'
    rw [swpR_len] at hp'
    rw [at_ p, at_ (q / 2 / 2), if_neg (by omega), if_neg (by omega : ¬ q / 2 / 2 = q / 2), if_neg (by omega : ¬ q / 2 / 2 = q)]
    have g := h.a (q / 2) hq2 hj (by omega)
    by_cases e1 : p = q
    · rw [if_pos e1]; exact g
    · rw [if_neg e1]
      have := h.a p (by omega) hp' e1
      rw [hp] at this
      exact ahd_le this g
theorem UpI.fin {κ : Nat → Nat} {R : List Nat} {q : Nat} (h : UpI κ R q) (he : q ≤ 1 ∨ ahd κ (gt R q) (gt R (q / 2)) = false) : HP κ R 1 := by
  intro p hp hp' _
  by_cases e : p = q
  · rcases he with he | he
    · omega
    · rw [e]; exact he
  · exact h.a p hp hp' e
theorem DnI.step {κ : Nat → Nat} {R : List Nat} {k q c : Nat} (h : DnI κ R k q) (hq : 1 ≤ q) (hc : c / 2 = q) (hc' : c < R.length) (hm : ∀ p, p / 2 = q → p < R.length → ahd κ (gt R p) (gt R c) = false) (ha : ahd κ (gt R c) (gt R q) = true) : DnI κ (swpR R q c) k c := by
  have hq' : q < R.length := by omega
  have at_ := swpR_at hq' hc'
  refine ⟨?_, ?_⟩
  · intro p hp hp' hk hpn
    rw [swpR_len] at hp'
    rw [at_ p, at_ (p / 2), if_neg hpn]
    by_cases e1 : p = c
    · rw [if_pos e1, e1, if_pos hc]; exact ahd_asym ha
    · rw [if_neg e1]
      by_cases e2 : p / 2 = q
      · rw [if_pos e2, if_neg (by omega)]; exact hm p e2 hp'
      · rw [if_neg e2]
        by_cases e3 : p = q
        · rw [if_pos e3, e3]; exact h.b c hc (by omega) (by omega) hc'
        · rw [if_neg e3]; exact h.a p hp hp' hk e2
  · intro p hp _ hk hp'
    rw [swpR_len] at hp'
    rw [at_ p, at_ (c / 2), if_neg (by omega), if_neg (by omega), if_neg (by omega), hc, if_pos rfl]
    have := h.a p (by omega) hp' (by omega) (by omega)
    rw [hp] at this
    exact this
theorem DnI.fin {κ : Nat → Nat} {R : List Nat} {k q : Nat} (h : DnI κ R k q) (he : ∀ p, p / 2 = q → 2 ≤ p → p < R.length → ahd κ (gt R p) (gt R q) = false) : HP κ R k := by
  intro p hp hp' hk
  by_cases e : p / 2 = q
  · rw [e]; exact he p e hp hp'
  · exact h.a p hp hp' hk e
theorem HP.root {κ : Nat → Nat} {R : List Nat} (h : HP κ R 1) : ∀ p, 1 ≤ p → p < R.length → ahd κ (gt R p) (gt R 1) = false := by
  intro p
  induction p using Nat.strongRecOn with
  | ind p ih =>
    intro hp hp'
    by_cases e : p = 1
    · rw [e]; exact ahd_irr _ _
    · have a := h p (by omega) hp' (by omega)
      exact ahd_le a (ih (p / 2) (by omega) (by omega) (by omega))
/-- none is there yet -/
theorem HP.none {κ : Nat → Nat} {R : List Nat} {k : Nat} (h : (R.length - 1) / 2 < k) : HP κ R k := fun p hp hp' hk => by omega
theorem HP.down {κ : Nat → Nat} {R : List Nat} {k : Nat} (h : HP κ R (k + 1)) (hk : 1 ≤ k) : DnI κ R k k := ⟨fun p hp hp' a b => h p hp hp' (by omega), fun p _ _ a _ => by omega⟩
/-- a number gets a key that is not less -/
theorem raise_up {n : Nat} {κ κ' : Nat → Nat} {R P : List Nat} (hb : Bij n R P) (h : HP κ R 1) {v : Nat} (hv : 1 ≤ v) (hv' : v ≤ n) (hk : ∀ u, u ≠ v → κ' u = κ u) (hge : κ v ≤ κ' v) (hh : gt P v ≠ 0) : UpI κ' R (gt P v) := by
  have o := hb.out v hv hv'
  have ov := o.2 hh
  have un : ∀ p, 1 ≤ p → p < R.length → p ≠ gt P v → gt R p ≠ v := fun p hp hp' hne e => hne (by rw [← e]; exact (hb.inn p hp hp').2.2.symm)
  have low : ∀ a b, ahd κ a b = false → a ≠ v → ahd κ' a b = false := fun a b h1 h2 => by
    by_cases e : b = v
    · subst e; simp only [ahd, hk a h2, decide_eq_false_iff_not] at *; omega
    · simp only [ahd, hk a h2, hk b e] at *; exact h1
  refine ⟨fun p hp hp' hne => low _ _ (h p hp hp' (by omega)) (un p (by omega) hp' hne), fun p hp hq hp' => low _ _ ?_ (un p (by omega) hp' (by omega))⟩
  have a := h p (by omega) hp' (by omega)
  rw [hp] at a
  exact ahd_le a (h _ hq (by omega) (by omega))
theorem raise_out {n : Nat} {κ κ' : Nat → Nat} {R P : List Nat} (hb : Bij n R P) (h : HP κ R 1) {v : Nat} (hk : ∀ u, u ≠ v → κ' u = κ u) (hh : gt P v = 0) : HP κ' R 1 := by
  intro p hp hp' hk1
  have un : ∀ p, 1 ≤ p → p < R.length → gt R p ≠ v := fun p hp hp' e => by have := (hb.inn p hp hp').2.2; rw [e] at this; omega
  have := h p hp hp' hk1
  simp only [ahd, hk _ (un p (by omega) hp'), hk _ (un (p / 2) (by omega) (by omega))] at *
  exact this
/-- one more -/
theorem put_up {n : Nat} {κ : Nat → Nat} {R P : List Nat} (hb : Bij n R P) (h : HP κ R 1) {v : Nat} (hv : 1 ≤ v) (hv' : v ≤ n) (hh : gt P v = 0) : Bij n (R ++ [v]) (P.set v R.length) ∧ UpI κ (R ++ [v]) R.length ∧ ∀ u, gt (P.set v R.length) u = if u = v then R.length else gt P u := by
  have hvl : v < P.length := by rw [hb.pl]; omega
  have hP : ∀ u, gt (P.set v R.length) u = if u = v then R.length else gt P u := fun u => gt_set hvl
  have hpos := hb.pos
  refine ⟨⟨by simp [hb.pl], by simp, ?_, ?_⟩, ⟨?_, ?_⟩, hP⟩
  · intro p hp hp'
    simp at hp'
    rw [gt_app, hP]
    by_cases e : p = R.length
    · rw [if_pos e, if_pos rfl]; exact ⟨hv, hv', e.symm⟩
    · rw [if_neg e]
      have c := hb.inn p hp (by omega)
      rw [if_neg (fun e' => by rw [e', hh] at c; omega)]; exact c
  · intro u hu hu'
    rw [hP, List.length_append]
    by_cases e : u = v
    · rw [if_pos e]; refine ⟨by simp, fun _ => ?_⟩; rw [gt_app, if_pos rfl, e]
    · rw [if_neg e]
      have c := hb.out u hu hu'
      refine ⟨by have := c.1; simp; omega, fun h0 => ?_⟩
      rw [gt_app, if_neg (by have := c.1; omega)]; exact c.2 h0
  · intro p hp hp' hne
    simp at hp'
    rw [gt_app, gt_app, if_neg hne, if_neg (by omega)]
    exact h p hp (by omega) (by omega)
  · intro p hp hq hp'
    simp at hp'
    omega
/-- the first goes; the last takes its place -/
theorem take_dn {n : Nat} {κ : Nat → Nat} {R P : List Nat} (hb : Bij n R P) (h : HP κ R 1) {m : Nat} (hm : R.length = m + 1) (hm1 : 2 ≤ m) :
    Bij n ((R.take m).set 1 (gt R m)) ((P.set (gt R 1) 0).set (gt R m) 1) ∧ DnI κ ((R.take m).set 1 (gt R m)) 1 1 ∧ gt R m ≠ gt R 1 ∧ ∀ u, gt ((P.set (gt R 1) 0).set (gt R m) 1) u = if u = gt R m then 1 else if u = gt R 1 then 0 else gt P u := by
  have a := hb.inn 1 (by omega) (by omega)
  have b := hb.inn m (by omega) (by omega)
  have hne : gt R m ≠ gt R 1 := fun e => by have := hb.inj (by omega) (by omega) (by omega) (by omega) e; omega
  have hl : (R.take m).length = m := by simp; omega
  have hR : ∀ p, p < m → gt ((R.take m).set 1 (gt R m)) p = if p = 1 then gt R m else gt R p := fun p hp => by
    rw [gt_set (by omega)]
    split
    · rfl
    · exact gt_take hp
  have hP : ∀ u, gt ((P.set (gt R 1) 0).set (gt R m) 1) u = if u = gt R m then 1 else if u = gt R 1 then 0 else gt P u := fun u => by
    rw [gt_set (by simp [hb.pl]; omega), gt_set (by rw [hb.pl]; omega)]
  refine ⟨⟨by simp [hb.pl], by rw [List.length_set, hl]; omega, ?_, ?_⟩, ⟨?_, ?_⟩, hne, hP⟩
  · intro p hp hp'
    rw [List.length_set, hl] at hp'
    rw [hR p hp', hP]
    by_cases e : p = 1
    · rw [if_pos e, if_pos rfl]; exact ⟨b.1, b.2.1, e.symm⟩
    · rw [if_neg e]
      have c := hb.inn p hp (by omega)
      rw [if_neg (fun e' => by have := hb.inj hp (by omega) (by omega) (by omega) e'; omega), if_neg (fun e' => e (hb.inj hp (by omega) (by omega) (by omega) e'))]
      exact c
  · intro u hu hu'
    rw [List.length_set, hl, hP]
    by_cases e : u = gt R m
    · rw [if_pos e]; refine ⟨by omega, fun _ => ?_⟩; rw [hR 1 (by omega), if_pos rfl, e]
    · rw [if_neg e]
      by_cases e2 : u = gt R 1
      · rw [if_pos e2]; exact ⟨by omega, fun h => absurd rfl h⟩
      · rw [if_neg e2]
        have c := hb.out u hu hu'
        by_cases h0 : gt P u = 0
        · exact ⟨by omega, fun h => absurd h0 h⟩
        · have d := c.2 h0
          have n1 : gt P u ≠ 1 := fun e' => e2 (by rw [← d, e'])
          have nm : gt P u ≠ m := fun e' => e (by rw [← d, e'])
          have := c.1
          refine ⟨by omega, fun _ => ?_⟩
          rw [hR _ (by omega), if_neg n1]; exact d
  · intro p hp hp' _ hn
    rw [List.length_set, hl] at hp'
    rw [hR p hp', hR (p / 2) (by omega), if_neg (by omega), if_neg hn]
    exact h p hp (by omega) (by omega)
  · intro p _ h2; omega
theorem take_one {n : Nat} {κ : Nat → Nat} {R P : List Nat} (hb : Bij n R P) (hm : R.length = 2) : Bij n (R.take 1) (P.set (gt R 1) 0) ∧ HP κ (R.take 1) 1 ∧ ∀ u, gt (P.set (gt R 1) 0) u = if u = gt R 1 then 0 else gt P u := by
  have a := hb.inn 1 (by omega) (by omega)
  have hl : (R.take 1).length = 1 := by simp; omega
  have hP : ∀ u, gt (P.set (gt R 1) 0) u = if u = gt R 1 then 0 else gt P u := fun u => gt_set (by rw [hb.pl]; omega)
  refine ⟨⟨by simp [hb.pl], by omega, fun p hp hp' => by omega, ?_⟩, fun p hp hp' _ => by omega, hP⟩
  intro u hu hu'
  rw [hP, hl]
  by_cases e : u = gt R 1
  · rw [if_pos e]; exact ⟨by omega, fun h => absurd rfl h⟩
  · rw [if_neg e]
    have c := hb.out u hu hu'
    by_cases h0 : gt P u = 0
    · exact ⟨by omega, fun h => absurd h0 h⟩
    · have d := c.2 h0
      exact absurd (by rw [← d, show gt P u = 1 by have := c.1; omega]) e
/-- all of them -/
theorem full_bij (n : Nat) : Bij n (List.range (n + 1)) (List.range (n + 1)) := by
  have g : ∀ k, k ≤ n → gt (List.range (n + 1)) k = k := fun k hk => by
    unfold gt; rw [List.getD_eq_getElem?_getD, List.getElem?_range (by omega)]; rfl
  refine ⟨by simp, by simp, fun p hp hp' => ?_, fun v hv hv' => ?_⟩
  · simp at hp'; rw [g p (by omega), g p (by omega)]; exact ⟨hp, by omega, rfl⟩
  · rw [g v hv']; refine ⟨by simp; omega, fun _ => g v hv'⟩
theorem full_hp (n : Nat) (κ : Nat → Nat) (h : ∀ v, κ v = 0) : HP κ (List.range (n + 1)) 1 := by
  intro p hp hp' _
  simp at hp'
  have g : ∀ k, k ≤ n → gt (List.range (n + 1)) k = k := fun k hk => by
    unfold gt; rw [List.getD_eq_getElem?_getD, List.getElem?_range (by omega)]; rfl
  rw [g p (by omega), g (p / 2) (by omega)]
  simp [ahd, h]; omega

/-- the order of those that are held -/
structure IsOrd (κ : Nat → Nat) (H : Nat → Bool) (n : Nat) (S : List Nat) : Prop where
  mem : ∀ v, v ∈ S ↔ (1 ≤ v ∧ v ≤ n ∧ H v = true)
  srt : S.Pairwise (fun a b => ahd κ a b = true)
theorem srt_unique {κ : Nat → Nat} : ∀ {l l' : List Nat}, l.Pairwise (fun a b => ahd κ a b = true) → l'.Pairwise (fun a b => ahd κ a b = true) → (∀ x, x ∈ l ↔ x ∈ l') → l = l'
  | [], [], _, _, _ => rfl
  | [], b :: r', _, _, h => by have := (h b).2 (by simp); simp at this
  | a :: r, [], _, _, h => by have := (h a).1 (by simp); simp at this
  | a :: r, b :: r', h1, h2, h => by
    rw [List.pairwise_cons] at h1 h2
    have ha : a = b := by
      rcases List.mem_cons.1 ((h a).1 (by simp)) with e | e
      · exact e
      · rcases List.mem_cons.1 ((h b).2 (by simp)) with e' | e'
        · exact e'.symm
        · have x := h2.1 a e; have y := h1.1 b e'; rw [ahd_asym x] at y; cases y
    subst ha
    congr 1
    refine srt_unique h1.2 h2.2 fun x => ⟨fun hx => ?_, fun hx => ?_⟩
    · rcases List.mem_cons.1 ((h x).1 (List.mem_cons_of_mem _ hx)) with e | e
      · subst e; have := h1.1 x hx; rw [ahd_irr] at this; cases this
      · exact e
    · rcases List.mem_cons.1 ((h x).2 (List.mem_cons_of_mem _ hx)) with e | e
      · subst e; have := h2.1 x hx; rw [ahd_irr] at this; cases this
      · exact e
theorem IsOrd.unique {κ : Nat → Nat} {H : Nat → Bool} {n : Nat} {S S' : List Nat} (h : IsOrd κ H n S) (h' : IsOrd κ H n S') : S = S' := srt_unique h.srt h'.srt fun x => (h.mem x).trans (h'.mem x).symm
end Go.Proofs.Ytbfjhgiifmhccaa
