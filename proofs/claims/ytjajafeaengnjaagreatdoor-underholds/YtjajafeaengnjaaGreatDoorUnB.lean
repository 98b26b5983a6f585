/-
  unit: what waits: numbers as bits of words, level over level. No program here.
-/
import Derived.Lib.TrailingZeros
set_option linter.unusedSimpArgs false
set_option linter.unusedVariables false
namespace Go.Proofs.YtjajafeaengnjaaGreatDoor

theorem ctz_spec {x : Nat} (h0 : x ≠ 0) (h : x < 2 ^ 64) : Lib.ctz 64 x < 64 ∧ x.testBit (Lib.ctz 64 x) = true ∧ ∀ i, i < Lib.ctz 64 x → x.testBit i = false := by
  have e : Lib.ctz 64 x = Lib.ctzFrom 64 x := by unfold Lib.ctz; rw [if_neg h0]
  rw [e]
  obtain ⟨m, hm, hk⟩ := Lib.ctzFrom_spec 64 x (by omega) h
  refine ⟨hk, ?_, fun i hi => ?_⟩
  · rw [hm]
    have e2 : Lib.ctzFrom 64 (2 ^ Lib.ctzFrom 64 x * (2 * m + 1)) = Lib.ctzFrom 64 x := by rw [← hm]
    rw [e2, Nat.testBit_two_pow_mul]
    simp
  · rw [hm, Nat.testBit_two_pow_mul]
    have e2 : Lib.ctzFrom 64 (2 ^ Lib.ctzFrom 64 x * (2 * m + 1)) = Lib.ctzFrom 64 x := by rw [← hm]
    simp
    omega
theorem setb_lt {x b : Nat} (h : x < 2 ^ 64) (hb : b < 64) : x ||| 2 ^ b < 2 ^ 64 := Nat.or_lt_two_pow h (Nat.pow_lt_pow_right (by decide) hb)
theorem setb_at (x b i : Nat) : (x ||| 2 ^ b).testBit i = (x.testBit i || decide (b = i)) := by
  rw [Nat.testBit_or, Nat.testBit_two_pow]
theorem clr_lt {x b : Nat} (h : x < 2 ^ 64) : x &&& (18446744073709551615 - 2 ^ b) < 2 ^ 64 := Nat.lt_of_le_of_lt Nat.and_le_left h
theorem clr_at {x b i : Nat} (hb : b < 64) (hi : i < 64) : (x &&& (18446744073709551615 - 2 ^ b)).testBit i = (x.testBit i && !decide (b = i)) := by
  rw [Nat.testBit_and]
  have e : 18446744073709551615 - 2 ^ b = 2 ^ 64 - (2 ^ b + 1) := by omega
  rw [e, Nat.testBit_two_pow_sub_succ (Nat.pow_lt_pow_right (by decide) hb), Nat.testBit_two_pow]
  simp [hi]
theorem some_bit {x : Nat} (h : x ≠ 0) (hx : x < 2 ^ 64) : ∃ b, b < 64 ∧ x.testBit b = true := by
  obtain ⟨h1, h2, _⟩ := ctz_spec h hx
  exact ⟨_, h1, h2⟩

def qadd (Q : Nat → Bool) (n : Nat) : Nat → Bool := fun k => Q k || decide (k = n)
def qdel (Q : Nat → Bool) (n : Nat) : Nat → Bool := fun k => Q k && !decide (k = n)
/-- a level of what waits -/
structure Lw (N : Nat) (Q : Nat → Bool) (j : Nat) (ws : List Nat) : Prop where
  pos : 0 < ws.length
  room : ∀ k : Nat, k < N → k / 64 ^ (j + 1) < ws.length
  lt : ∀ i x : Nat, ws[i]? = some x → x < 2 ^ 64
  bit : ∀ i x : Nat, ws[i]? = some x → ∀ b, b < 64 → (x.testBit b = true ↔ ∃ k : Nat, Q k = true ∧ k / 64 ^ j = 64 * i + b)
theorem div64 (k j : Nat) : k / 64 ^ (j + 1) = k / 64 ^ j / 64 := by rw [Nat.pow_succ, Nat.div_div_eq_div_mul]
theorem div64_up {k n j j' : Nat} (h : k / 64 ^ j = n / 64 ^ j) (hj : j ≤ j') : k / 64 ^ j' = n / 64 ^ j' := by
  obtain ⟨d, rfl⟩ : ∃ d, j' = j + d := ⟨j' - j, by omega⟩
  rw [Nat.pow_add, ← Nat.div_div_eq_div_mul, ← Nat.div_div_eq_div_mul, h]
section
variable {N : Nat} {Q : Nat → Bool} {j n : Nat} {ws : List Nat} {x : Nat}
theorem Lw.nz (h : Lw N Q j ws) {i : Nat} (hx : ws[i]? = some x) : x ≠ 0 ↔ ∃ k : Nat, Q k = true ∧ k / 64 ^ (j + 1) = i := by
  constructor
  · intro h0
    obtain ⟨b, hb, ht⟩ := some_bit h0 (h.lt i x hx)
    obtain ⟨k, hk, e⟩ := (h.bit i x hx b hb).1 ht
    exact ⟨k, hk, by rw [div64, e]; omega⟩
  · rintro ⟨k, hk, e⟩ rfl
    have : (0 : Nat).testBit (k / 64 ^ j % 64) = true := (h.bit i 0 hx _ (Nat.mod_lt _ (by decide))).2 ⟨k, hk, by rw [div64] at e; omega⟩
    simp at this
theorem Lw.add (h : Lw N Q j ws) (hx : ws[n / 64 ^ (j + 1)]? = some x) : Lw N (qadd Q n) j (ws.set (n / 64 ^ (j + 1)) (x ||| 2 ^ (n / 64 ^ j % 64))) := by
  have hb : n / 64 ^ j % 64 < 64 := Nat.mod_lt _ (by decide)
  have hl := (List.getElem?_eq_some_iff.1 hx).1
  have he : n / 64 ^ j = 64 * (n / 64 ^ (j + 1)) + n / 64 ^ j % 64 := by rw [div64]; omega
  refine ⟨by simpa using h.pos, fun k hk => by simpa using h.room k hk, fun i y hy => ?_, fun i y hy b hbb => ?_⟩
  · by_cases e : n / 64 ^ (j + 1) = i
    · subst e
      rw [List.getElem?_set_self hl] at hy
      injection hy with hy; subst hy
      exact setb_lt (h.lt _ x hx) hb
    · rw [List.getElem?_set_ne e] at hy
      exact h.lt i y hy
  · have hq : (∃ k, qadd Q n k = true ∧ k / 64 ^ j = 64 * i + b) ↔ (∃ k, Q k = true ∧ k / 64 ^ j = 64 * i + b) ∨ n / 64 ^ j = 64 * i + b := by
      constructor
      · rintro ⟨k, hk, e⟩
        simp only [qadd, Bool.or_eq_true, decide_eq_true_eq] at hk
        rcases hk with a | a
        · exact .inl ⟨k, a, e⟩
        · subst a; exact .inr e
      · rintro (⟨k, hk, e⟩ | e)
        · exact ⟨k, by simp [qadd, hk], e⟩
        · exact ⟨n, by simp [qadd], e⟩
    rw [hq]
    by_cases e : n / 64 ^ (j + 1) = i
    · subst e
      rw [List.getElem?_set_self hl] at hy
      injection hy with hy; subst hy
      rw [setb_at, Bool.or_eq_true, decide_eq_true_eq, h.bit _ x hx b hbb]
      constructor
      · rintro (a | a)
        · exact .inl a
        · exact .inr (by omega)
      · rintro (a | a)
        · exact .inl a
        · exact .inr (by omega)
    · rw [List.getElem?_set_ne e] at hy
      rw [h.bit i y hy b hbb]
      constructor
      · exact fun a => .inl a
      · rintro (a | a)
        · exact a
        · exact absurd (by rw [div64, a]; omega) e
theorem Lw.add_stop (h : Lw N Q j ws) {j' : Nat} (hs : ∃ k, Q k = true ∧ k / 64 ^ j' = n / 64 ^ j') (hj : j' ≤ j) : Lw N (qadd Q n) j ws := by
  refine ⟨h.pos, h.room, h.lt, fun i y hy b hb => ?_⟩
  rw [h.bit i y hy b hb]
  constructor
  · rintro ⟨k, hk, e⟩; exact ⟨k, by simp [qadd, hk], e⟩
  · rintro ⟨k, hk, e⟩
    simp only [qadd, Bool.or_eq_true, decide_eq_true_eq] at hk
    rcases hk with a | a
    · exact ⟨k, a, e⟩
    · subst a
      obtain ⟨k', g1, g2⟩ := hs
      exact ⟨k', g1, by rw [div64_up g2 hj]; exact e⟩
theorem Lw.del (h : Lw N Q j ws) (hx : ws[n / 64 ^ (j + 1)]? = some x) (ho : ∀ k, Q k = true → k ≠ n → k / 64 ^ j ≠ n / 64 ^ j) : Lw N (qdel Q n) j (ws.set (n / 64 ^ (j + 1)) (x &&& (18446744073709551615 - 2 ^ (n / 64 ^ j % 64)))) := by
  have hb : n / 64 ^ j % 64 < 64 := Nat.mod_lt _ (by decide)
  have hl := (List.getElem?_eq_some_iff.1 hx).1
  have he : n / 64 ^ j = 64 * (n / 64 ^ (j + 1)) + n / 64 ^ j % 64 := by rw [div64]; omega
  refine ⟨by simpa using h.pos, fun k hk => by simpa using h.room k hk, fun i y hy => ?_, fun i y hy b hbb => ?_⟩
  · by_cases e : n / 64 ^ (j + 1) = i
    · subst e
      rw [List.getElem?_set_self hl] at hy
      injection hy with hy; subst hy
      exact clr_lt (h.lt _ x hx)
    · rw [List.getElem?_set_ne e] at hy
      exact h.lt i y hy
  · have hq : (∃ k, qdel Q n k = true ∧ k / 64 ^ j = 64 * i + b) ↔ (∃ k, Q k = true ∧ k / 64 ^ j = 64 * i + b) ∧ n / 64 ^ j ≠ 64 * i + b := by
      constructor
      · rintro ⟨k, hk, e⟩
        simp only [qdel, Bool.and_eq_true, Bool.not_eq_true', decide_eq_false_iff_not] at hk
        exact ⟨⟨k, hk.1, e⟩, fun e2 => ho k hk.1 hk.2 (e.trans e2.symm)⟩
      · rintro ⟨⟨k, hk, e⟩, e2⟩
        exact ⟨k, by simp only [qdel, Bool.and_eq_true, Bool.not_eq_true', decide_eq_false_iff_not]; exact ⟨hk, fun e3 => by subst e3; exact e2 e⟩, e⟩
    rw [hq]
    by_cases e : n / 64 ^ (j + 1) = i
    · subst e
      rw [List.getElem?_set_self hl] at hy
      injection hy with hy; subst hy
      rw [clr_at hb hbb, Bool.and_eq_true, h.bit _ x hx b hbb]
      simp only [Bool.not_eq_true', decide_eq_false_iff_not]
      constructor
      · rintro ⟨a, c⟩; exact ⟨a, by omega⟩
      · rintro ⟨a, c⟩; exact ⟨a, by omega⟩
    · rw [List.getElem?_set_ne e] at hy
      rw [h.bit i y hy b hbb]
      constructor
      · exact fun a => ⟨a, fun c => e (by rw [div64, c]; omega)⟩
      · exact fun a => a.1
theorem Lw.del_stop (h : Lw N Q j ws) {j' : Nat} (hs : ∃ k, Q k = true ∧ k ≠ n ∧ k / 64 ^ j' = n / 64 ^ j') (hj : j' ≤ j) : Lw N (qdel Q n) j ws := by
  refine ⟨h.pos, h.room, h.lt, fun i y hy b hb => ?_⟩
  rw [h.bit i y hy b hb]
  constructor
  · rintro ⟨k, hk, e⟩
    by_cases e2 : k = n
    · subst e2
      obtain ⟨k', g1, g2, g3⟩ := hs
      exact ⟨k', by simp [qdel, g1, g2], by rw [div64_up g3 hj]; exact e⟩
    · exact ⟨k, by simp [qdel, hk, e2], e⟩
  · rintro ⟨k, hk, e⟩
    simp only [qdel, Bool.and_eq_true] at hk
    exact ⟨k, hk.1, e⟩
/-- the least one, level by level -/
theorem Lw.least (h : Lw N Q j ws) (hn : Q n = true) (hl : ∀ k, Q k = true → n ≤ k) (hx : ws[n / 64 ^ (j + 1)]? = some x) : x ≠ 0 ∧ Lib.ctz 64 x < 64 ∧ 64 * (n / 64 ^ (j + 1)) + Lib.ctz 64 x = n / 64 ^ j := by
  have h0 : x ≠ 0 := (h.nz hx).2 ⟨n, hn, rfl⟩
  obtain ⟨c1, c2, c3⟩ := ctz_spec h0 (h.lt _ x hx)
  have he : n / 64 ^ j = 64 * (n / 64 ^ (j + 1)) + n / 64 ^ j % 64 := by rw [div64]; omega
  have hb : n / 64 ^ j % 64 < 64 := Nat.mod_lt _ (by decide)
  have hset : x.testBit (n / 64 ^ j % 64) = true := (h.bit _ x hx _ hb).2 ⟨n, hn, he⟩
  have h1 : Lib.ctz 64 x ≤ n / 64 ^ j % 64 := Nat.le_of_not_lt fun hlt => by rw [c3 _ hlt] at hset; cases hset
  obtain ⟨k, hk, e⟩ := (h.bit _ x hx _ c1).1 c2
  have h2 : n / 64 ^ j ≤ k / 64 ^ j := Nat.div_le_div_right (hl k hk)
  exact ⟨h0, c1, by omega⟩
/-- behind the clearing of one level: is another one there? -/
theorem Lw.left (h : Lw N (qdel Q n) j ws) (hx : ws[n / 64 ^ (j + 1)]? = some x) : (x ≠ 0 → ∃ k, Q k = true ∧ k ≠ n ∧ k / 64 ^ (j + 1) = n / 64 ^ (j + 1)) ∧ (x = 0 → ∀ k, Q k = true → k ≠ n → k / 64 ^ (j + 1) ≠ n / 64 ^ (j + 1)) := by
  have := h.nz hx
  constructor
  · intro h0
    obtain ⟨k, hk, e⟩ := this.1 h0
    simp only [qdel, Bool.and_eq_true, Bool.not_eq_true', decide_eq_false_iff_not] at hk
    exact ⟨k, hk.1, hk.2, e⟩
  · intro h0 k hk hne e
    exact this.2 ⟨k, by simp [qdel, hk, hne], e⟩ h0
end
/-- all levels -/
structure Lvs (N : Nat) (Q : Nat → Bool) (wss : List (List Nat)) : Prop where
  pos : 0 < wss.length
  few : wss.length ≤ 6
  top : N ≤ 64 ^ wss.length
  sub : ∀ k, Q k = true → k < N
  lv : ∀ (j : Nat) (ws : List Nat), wss[j]? = some ws → Lw N Q j ws
/-- the levels below j are of the new set, the others of the old -/
def Mix (N : Nat) (Q Q' : Nat → Bool) (j : Nat) (wss : List (List Nat)) : Prop := ∀ (i : Nat) (ws : List Nat), wss[i]? = some ws → (i < j → Lw N Q' i ws) ∧ (j ≤ i → Lw N Q i ws)
theorem Mix.start {N : Nat} {Q Q' : Nat → Bool} {wss : List (List Nat)} (h : Lvs N Q wss) : Mix N Q Q' 0 wss := fun i ws hi => ⟨fun h => by omega, fun _ => h.lv i ws hi⟩
theorem Mix.step {N : Nat} {Q Q' : Nat → Bool} {j : Nat} {wss : List (List Nat)} {ws' : List Nat} (h : Mix N Q Q' j wss) (hj : j < wss.length) (hw : Lw N Q' j ws') : Mix N Q Q' (j + 1) (wss.set j ws') := by
  intro i ws hi
  by_cases e : j = i
  · subst e
    rw [List.getElem?_set_self hj] at hi
    injection hi with hi; subst hi
    exact ⟨fun _ => hw, fun h => by omega⟩
  · rw [List.getElem?_set_ne e] at hi
    obtain ⟨a, b⟩ := h i ws hi
    exact ⟨fun h => a (by omega), fun h => b (by omega)⟩
/-- is there none? -/
theorem Lvs.none {N : Nat} {Q : Nat → Bool} {wss : List (List Nat)} (h : Lvs N Q wss) {ws : List Nat} {x : Nat} (hw : wss[wss.length - 1]? = some ws) (hx : ws[0]? = some x) : x = 0 ↔ ∀ k, Q k = false := by
  have hp := h.pos
  have hl := h.lv _ ws hw
  have hnz := hl.nz hx
  have e1 : wss.length - 1 + 1 = wss.length := by omega
  rw [e1] at hnz
  constructor
  · intro e k
    cases hk : Q k
    · rfl
    · exact absurd e (hnz.2 ⟨k, hk, Nat.div_eq_of_lt (Nat.lt_of_lt_of_le (h.sub k hk) h.top)⟩)
  · intro hq
    refine Classical.byContradiction fun h0 => ?_
    obtain ⟨k, hk, _⟩ := hnz.1 h0
    rw [hq k] at hk; cases hk
theorem has_least {Q : Nat → Bool} (h : ¬ ∀ k, Q k = false) : ∃ n, Q n = true ∧ ∀ k, Q k = true → n ≤ k := by
  obtain ⟨m, hm⟩ : ∃ m, Q m = true := Classical.byContradiction fun hn => h fun k => by
    cases hk : Q k
    · rfl
    · exact (hn ⟨k, hk⟩).elim
  induction m using Nat.strongRecOn with
  | _ m ih =>
    by_cases hl : ∀ k, Q k = true → m ≤ k
    · exact ⟨m, hm, hl⟩
    · obtain ⟨k, hk, hlt⟩ : ∃ k, Q k = true ∧ k < m := Classical.byContradiction fun hn => hl fun k hk => Nat.le_of_not_lt fun h2 => hn ⟨k, hk, h2⟩
      exact ih k hlt hk
end Go.Proofs.YtjajafeaengnjaaGreatDoor
