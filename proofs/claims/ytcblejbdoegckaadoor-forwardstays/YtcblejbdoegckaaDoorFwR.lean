/-
  forward: the closing at rest; a clause comes in, a clause goes, what follows. No program here.
  KEEP: nil cons set len app mem lit one two move strike enlist put stay unit cla fin start pre nd con f qt qb tt der wa pm rk c grow push back rest calm clos
-/
import Derived.Test.YtcblejbdoegckaaDoorFwQ
set_option linter.unusedSimpArgs false
set_option linter.unusedVariables false
namespace Go.Proofs.YtcblejbdoegckaaDoor

section
variable {n : Nat} {cl : Fcl} {lk : List (Nat × Nat)} {fs : List Nat} {ch : Nat → List Nat}
/-- room for more variables -/
theorem Cn.grow (h : Cn n lk fs ch) {m : Nat} (ho : ∀ i, n ≤ i → ch i = []) : Cn (n + m) lk (fs ++ List.replicate m 0) ch := by
  refine ⟨by simp [h.len], fun i hi => ?_, h.sg, h.nd, h.dj, h.pos⟩
  have := h.len
  by_cases e : i < n
  · rw [List.getElem?_append_left (by omega)]; exact h.hd i e
  · rw [List.getElem?_append_right (by omega), ho i (by omega), List.getElem?_replicate, if_pos (by omega)]; rfl
theorem Wa.out (h : Wa n cl lk fs ch) {i : Nat} (hi : n ≤ i) : ch i = [] := by
  refine List.eq_nil_iff_forall_not_mem.2 fun a ha => ?_
  have := (h.link ha).2.2.1
  omega
theorem Wa.grow (h : Wa n cl lk fs ch) {m : Nat} (hm : m % 2 = 0) (hn : n + m ≤ 2097152) : Wa (n + m) cl lk (fs ++ List.replicate m 0) ch :=
  ⟨h.c.grow fun i hi => h.out hi, h.two, h.mem, fun k l hl => ⟨(h.lit k l hl).1, by have := (h.lit k l hl).2; omega⟩, h.nd, h.zero, by have := h.ev; omega, hn⟩
theorem Frk.grow {R : List Int} (h : Frk n R) (m : Nat) : Frk (n + m) R := ⟨h.nd, h.con, fun x hx => ⟨(h.f x hx).1, by have := (h.f x hx).2; omega⟩⟩
theorem inLs_grow {R : List Int} (h : Frk n R) {m : Nat} (hn : n + m ≤ 2097152) : inLs (n + m) R = inLs n R ++ List.replicate m false := by
  refine List.ext_getElem? fun i => ?_
  by_cases e : i < n
  · rw [List.getElem?_append_left (by rw [inLs_len]; exact e)]
    simp [inLs, e, show i < n + m by omega]
  · rw [List.getElem?_append_right (by rw [inLs_len]; omega), inLs_len, List.getElem?_replicate]
    by_cases e2 : i < n + m
    · rw [if_pos (by omega)]
      have hno : litAt (i : Int) ∉ R := fun hm => by
        have h1 := h.f _ hm
        obtain ⟨l, hl⟩ : ∃ l, l = litAt (i : Int) := ⟨_, rfl⟩
        rw [← hl] at h1
        have h3 := litAt_idx h1.1
        have h2 := idx_range h1.1
        have : (idx l).toNat = i := litAt_inj (by omega) (by omega) (by rw [show ((idx l).toNat : Int) = idx l by omega, h3, hl])
        omega
      simp [inLs, e2, hno]
    · rw [if_neg (by omega), List.getElem?_eq_none (by rw [inLs_len]; omega)]
theorem lts_push (cl : Fcl) (k : Nat) : lts (cl ++ [([], 0)]) k = lts cl k := by
  unfold lts
  rw [List.getD_eq_getElem?_getD, List.getD_eq_getElem?_getD]
  by_cases e : k < cl.length
  · rw [List.getElem?_append_left e]
  · rw [List.getElem?_append_right (by omega), List.getElem?_eq_none (l := cl) (by omega)]
    by_cases e2 : k - cl.length = 0
    · rw [e2]; rfl
    · rw [List.getElem?_eq_none (by simp; omega)]
theorem cssOf_push (cl : Fcl) : cssOf (cl ++ [([], 0)]) = cssOf cl := by simp [cssOf]
theorem Sg.push {x : List (Nat × Nat)} {q : Nat} : ∀ {L : List Nat} {p : Nat}, Sg lk p L q → Sg (lk ++ x) p L q
  | [], _, _ => trivial
  | a :: L, p, h => ⟨by rw [List.getElem?_append_left (List.getElem?_eq_some_iff.1 h.1).1]; exact h.1, Sg.push h.2⟩
theorem Wa.push (h : Wa n cl lk fs ch) : Wa n (cl ++ [([], 0)]) (lk ++ [(0, 0), (0, 0)]) fs ch :=
  ⟨⟨h.c.len, h.c.hd, fun i => (h.c.sg i).push, h.c.nd, h.c.dj, h.c.pos⟩, by have := h.two; simp; omega, fun i a => by rw [lts_push]; exact h.mem i a, fun k => by rw [lts_push]; exact h.lit k, fun k => by rw [lts_push]; exact h.nd k, by rw [lts_push]; exact h.zero, h.ev, h.hn⟩
/-- a clause that watches nothing comes in -/
theorem Wa.add0 (h : Wa n cl lk fs ch) {k fr : Nat} {c : List Int} (hk : 0 < k) (hkl : k < cl.length) (h0 : lts cl k = []) (hc : c.length < 2) (hl : ∀ l ∈ c, fmd l = true ∧ idx l < n) : Wa n (cl.set k (c, fr)) lk fs ch := by
  refine ⟨h.c, by simp; exact h.two, fun i a => ?_, fun j l hl2 => ?_, fun j => ?_, by rw [lts_set_ne (by omega)]; exact h.zero, h.ev, h.hn⟩
  · by_cases e : a / 2 = k
    · have := h.mem i a
      rw [e, h0] at this
      rw [e, lts_set_self hkl, this]
      simp; omega
    · rw [lts_set_ne e]; exact h.mem i a
  · by_cases e : j = k
    · subst e; rw [lts_set_self hkl] at hl2; exact hl l hl2
    · rw [lts_set_ne e] at hl2; exact h.lit j l hl2
  · by_cases e : j = k
    · subst e; rw [lts_set_self hkl]
      match c, hc with
      | [], _ => simp
      | [l], _ => simp
      | _ :: _ :: _, hc => simp at hc; omega
    · rw [lts_set_ne e]; exact h.nd j
/-- one that watches its first two comes in -/
theorem Wa.add2 (h : Wa n cl lk fs ch) {k fr i0 i1 : Nat} {c : List Int} (hk : 0 < k) (hkl : k < cl.length) (h0 : lts cl k = []) (hc : 2 ≤ c.length) (hl : ∀ l ∈ c, fmd l = true ∧ idx l < n) (hnd : c.Nodup) (e0 : idx (c.getD 0 0) = (i0 : Int)) (e1 : idx (c.getD 1 0) = (i1 : Int)) :
    Wa n (cl.set k (c, fr)) (enL (enL lk ((ch i0).headD 0) (2 * k)) ((ch i1).headD 0) (2 * k + 1)) ((fs.set i0 (2 * k)).set i1 (2 * k + 1)) (fupd (fupd ch i0 (2 * k :: ch i0)) i1 ((2 * k + 1) :: ch i1)) ∧ i0 ≠ i1 ∧ i0 < n ∧ i1 < n := by
  have m0 : c.getD 0 0 ∈ c := getD_mem0 (by omega)
  have m1 : c.getD 1 0 ∈ c := getD_mem0 (by omega)
  have n0 : i0 < n := by have := (hl _ m0).2; omega
  have n1 : i1 < n := by have := (hl _ m1).2; omega
  have hne : i0 ≠ i1 := fun e => by
    have := idx_inj (hl _ m0).1 (hl _ m1).1 (by rw [e0, e1, e])
    have := getD_inj0 hnd (by omega) (by omega) this
    omega
  have hno : ∀ a, a / 2 = k → ∀ j, a ∉ ch j := fun a e j ha => by
    have := (h.link ha).1
    rw [e, h0] at this
    simp at this
  have htw := h.two
  have c1 := h.c.enlist (i := i0) (a := 2 * k) n0 (hno _ (by omega)) (by omega) (by omega)
  have c2 := c1.enlist (i := i1) (a := 2 * k + 1) n1 (fun j ha => by
    by_cases e : j = i0
    · subst e; rw [fupd_self] at ha
      rcases List.mem_cons.1 ha with q | q
      · omega
      · exact hno _ (by omega) _ q
    · rw [fupd_ne _ _ e] at ha; exact hno _ (by omega) _ ha) (by omega) (by rw [enL_len]; omega)
  rw [fupd_ne _ _ (fun e => hne e.symm)] at c2
  refine ⟨⟨c2, by rw [enL_len, enL_len]; simp; exact h.two, fun i a => ?_, fun j l hl2 => ?_, fun j => ?_, by rw [lts_set_ne (by omega)]; exact h.zero, h.ev, h.hn⟩, hne, n0, n1⟩
  · have hmem : a ∈ fupd (fupd ch i0 (2 * k :: ch i0)) i1 ((2 * k + 1) :: ch i1) i ↔ (a = 2 * k ∧ i = i0) ∨ (a = 2 * k + 1 ∧ i = i1) ∨ a ∈ ch i := by
      by_cases e : i = i1
      · subst e; rw [fupd_self, List.mem_cons]
        constructor
        · rintro (q | q)
          · exact .inr (.inl ⟨q, rfl⟩)
          · exact .inr (.inr q)
        · rintro (⟨_, q⟩ | ⟨q, _⟩ | q)
          · exact absurd q.symm hne
          · exact .inl q
          · exact .inr q
      · rw [fupd_ne _ _ e]
        by_cases e2 : i = i0
        · subst e2; rw [fupd_self, List.mem_cons]; simp [e]
        · rw [fupd_ne _ _ e2]; simp [e, e2]
    rw [hmem]
    by_cases e : a / 2 = k
    · rw [e, lts_set_self hkl]
      have hx := hno a e i
      have : a % 2 = 0 ∨ a % 2 = 1 := by omega
      rcases this with q | q
      · show _ ↔ 2 ≤ c.length ∧ idx (c.getD (a % 2) 0) = (i : Int)
        rw [q, e0]
        constructor
        · rintro (⟨_, b⟩ | ⟨b, _⟩ | b)
          · exact ⟨hc, by omega⟩
          · omega
          · exact absurd b hx
        · rintro ⟨_, b⟩; exact .inl ⟨by omega, by omega⟩
      · show _ ↔ 2 ≤ c.length ∧ idx (c.getD (a % 2) 0) = (i : Int)
        rw [q, e1]
        constructor
        · rintro (⟨b, _⟩ | ⟨_, b⟩ | b)
          · omega
          · exact ⟨hc, by omega⟩
          · exact absurd b hx
        · rintro ⟨_, b⟩; exact .inr (.inl ⟨by omega, by omega⟩)
    · rw [lts_set_ne e, ← h.mem i a]
      constructor
      · rintro (⟨b, _⟩ | ⟨b, _⟩ | b)
        · omega
        · omega
        · exact b
      · exact fun b => .inr (.inr b)
  · by_cases e : j = k
    · subst e; rw [lts_set_self hkl] at hl2; exact hl l hl2
    · rw [lts_set_ne e] at hl2; exact h.lit j l hl2
  · by_cases e : j = k
    · subst e; rw [lts_set_self hkl]; exact hnd
    · rw [lts_set_ne e]; exact h.nd j
/-- one that watches goes -/
theorem Wa.gone (h : Wa n cl lk fs ch) {k : Nat} (hc : 2 ≤ (lts cl k).length) :
    ∃ (i0 i1 : Nat) (ch' : Nat → List Nat), i0 < n ∧ i1 < n ∧ idx ((lts cl k).getD 0 0) = (i0 : Int) ∧ idx ((lts cl k).getD 1 0) = (i1 : Int) ∧ k < cl.length ∧ 0 < k ∧
      (∃ q, lk[2 * k]? = some q ∧ q.1 < lk.length ∧ q.2 < lk.length) ∧ (∃ q, (skL lk (2 * k))[2 * k + 1]? = some q ∧ q.1 < lk.length ∧ q.2 < lk.length) ∧
      Wa n (cl.set k ([], 0)) (skL (skL lk (2 * k)) (2 * k + 1)) (skF (skL lk (2 * k)) (skF lk fs (2 * k) i0) (2 * k + 1) i1) ch' := by
  have hne : lts cl k ≠ [] := by intro e; rw [e] at hc; simp at hc
  have hkl := lts_in hne
  have hk0 : 0 < k := by
    rcases Nat.eq_zero_or_pos k with e | e
    · subst e; exact absurd h.zero hne
    · exact e
  have m0 : (lts cl k).getD 0 0 ∈ lts cl k := getD_mem0 (by omega)
  have m1 : (lts cl k).getD 1 0 ∈ lts cl k := getD_mem0 (by omega)
  have r0 := idx_range (h.lit _ _ m0).1
  have r1 := idx_range (h.lit _ _ m1).1
  have n0 := (h.lit _ _ m0).2
  have n1 := (h.lit _ _ m1).2
  obtain ⟨i0, e0⟩ : ∃ i0 : Nat, idx ((lts cl k).getD 0 0) = (i0 : Int) := ⟨(idx ((lts cl k).getD 0 0)).toNat, by omega⟩
  obtain ⟨i1, e1⟩ : ∃ i1 : Nat, idx ((lts cl k).getD 1 0) = (i1 : Int) := ⟨(idx ((lts cl k).getD 1 0)).toNat, by omega⟩
  have hij : i0 ≠ i1 := fun e => by
    have := idx_inj (h.lit _ _ m0).1 (h.lit _ _ m1).1 (by rw [e0, e1, e])
    have := getD_inj0 (h.nd k) (by omega) (by omega) this
    omega
  have a0 : 2 * k ∈ ch i0 := (h.mem _ _).2 (by rw [show 2 * k / 2 = k by omega, show 2 * k % 2 = 0 by omega]; exact ⟨hc, e0⟩)
  have a1 : 2 * k + 1 ∈ ch i1 := (h.mem _ _).2 (by rw [show (2 * k + 1) / 2 = k by omega, show (2 * k + 1) % 2 = 1 by omega]; exact ⟨hc, e1⟩)
  obtain ⟨X, Y, eX⟩ := List.append_of_mem a0
  obtain ⟨Z, U, eZ⟩ := List.append_of_mem a1
  have c1 := h.c.strike (i := i0) (a := 2 * k) (by omega) eX
  have eZ' : fupd ch i0 (X ++ Y) i1 = Z ++ (2 * k + 1) :: U := by rw [fupd_ne _ _ (fun e => hij e.symm)]; exact eZ
  have c2 := c1.strike (i := i1) (a := 2 * k + 1) (by omega) eZ'
  have g0 := (h.c.at' eX).1
  have g1 := (c1.at' eZ').1
  have inb : ∀ {lk : List (Nat × Nat)} {fs : List Nat} {ch : Nat → List Nat} {i a : Nat} {X Y : List Nat}, Cn n lk fs ch → ch i = X ++ a :: Y → 0 < lk.length → Y.headD 0 < lk.length ∧ X.getLastD 0 < lk.length := fun {lk fs ch i a X Y} hc he hpos => by
    have hs := (hc.sg i).lt
    rw [he] at hs
    constructor
    · by_cases e : Y.headD 0 = 0
      · omega
      · exact hs _ (List.mem_append.2 (.inr (List.mem_cons_of_mem _ (headD_mem e))))
    · by_cases e : X.getLastD 0 = 0
      · omega
      · exact hs _ (List.mem_append.2 (.inl (lastD_mem e)))
  have htw := h.two
  have b0 := inb h.c eX (by omega)
  have b1 := inb c1 eZ' (by rw [skL_len]; omega)
  rw [skL_len] at b1
  refine ⟨i0, i1, _, by omega, by omega, e0, e1, hkl, hk0, ⟨_, g0, b0⟩, ⟨_, g1, b1⟩, c2, by rw [skL_len, skL_len]; simp; exact h.two, fun i a => ?_, fun j l hl2 => ?_, fun j => ?_, by rw [lts_set_ne (by omega)]; exact h.zero, h.ev, h.hn⟩
  · have nd0 := h.c.nd i0
    rw [eX] at nd0
    have nd1 := h.c.nd i1
    rw [eZ] at nd1
    have hmem : a ∈ fupd (fupd ch i0 (X ++ Y)) i1 (Z ++ U) i ↔ a ∈ ch i ∧ a ≠ 2 * k ∧ a ≠ 2 * k + 1 := by
      have q0 : ∀ {x : Nat}, x ∈ X ++ Y ↔ x ∈ ch i0 ∧ x ≠ 2 * k := fun {x} => by
        obtain ⟨p1, p2, p3⟩ := List.nodup_append.1 nd0
        rw [eX]
        simp only [List.mem_append, List.mem_cons]
        constructor
        · rintro (b | b)
          · exact ⟨.inl b, fun e => p3 x b (2 * k) (by simp) e⟩
          · exact ⟨.inr (.inr b), fun e => (List.nodup_cons.1 p2).1 (by rw [← e]; exact b)⟩
        · rintro ⟨b | b | b, e⟩
          · exact .inl b
          · exact absurd b e
          · exact .inr b
      have q1 : ∀ {x : Nat}, x ∈ Z ++ U ↔ x ∈ ch i1 ∧ x ≠ 2 * k + 1 := fun {x} => by
        obtain ⟨p1, p2, p3⟩ := List.nodup_append.1 nd1
        rw [eZ]
        simp only [List.mem_append, List.mem_cons]
        constructor
        · rintro (b | b)
          · exact ⟨.inl b, fun e => p3 x b (2 * k + 1) (by simp) e⟩
          · exact ⟨.inr (.inr b), fun e => (List.nodup_cons.1 p2).1 (by rw [← e]; exact b)⟩
        · rintro ⟨b | b | b, e⟩
          · exact .inl b
          · exact absurd b e
          · exact .inr b
      by_cases e : i = i1
      · subst e; rw [fupd_self, q1]
        constructor
        · rintro ⟨b, b2⟩; exact ⟨b, fun e => hij (h.c.dj i0 i (2 * k) a0 (by rw [← e]; exact b)), b2⟩
        · rintro ⟨b, _, b2⟩; exact ⟨b, b2⟩
      · rw [fupd_ne _ _ e]
        by_cases e2 : i = i0
        · subst e2; rw [fupd_self, q0]
          constructor
          · rintro ⟨b, b2⟩; exact ⟨b, b2, fun e3 => e (h.c.dj i i1 (2 * k + 1) (by rw [← e3]; exact b) a1)⟩
          · rintro ⟨b, b2, _⟩; exact ⟨b, b2⟩
        · rw [fupd_ne _ _ e2]
          constructor
          · exact fun b => ⟨b, fun e3 => e2 (h.c.dj i i0 (2 * k) (by rw [← e3]; exact b) a0), fun e3 => e (h.c.dj i i1 (2 * k + 1) (by rw [← e3]; exact b) a1)⟩
          · exact fun b => b.1
    rw [hmem]
    by_cases e : a / 2 = k
    · rw [e, lts_set_self hkl]
      constructor
      · rintro ⟨_, b1, b2⟩; omega
      · rintro ⟨b, _⟩; simp at b
    · rw [lts_set_ne e, ← h.mem i a]
      constructor
      · exact fun b => b.1
      · exact fun b => ⟨b, by omega, by omega⟩
  · by_cases e : j = k
    · subst e; rw [lts_set_self hkl] at hl2; simp at hl2
    · rw [lts_set_ne e] at hl2; exact h.lit j l hl2
  · by_cases e : j = k
    · subst e; rw [lts_set_self hkl]; simp
    · rw [lts_set_ne e]; exact h.nd j
end
/-- at rest -/
structure Rs (n : Nat) (cl : Fcl) (lk : List (Nat × Nat)) (fs : List Nat) (ch : Nat → List Nat) (R : List Int) : Prop where
  wa : Wa n cl lk fs ch
  rk : Frk n R
  qt : Qt cl R R
  one : ∀ k l, lts cl k = [l] → l ∈ R
  der : ∀ x ∈ R, Der (cssOf cl) [] x
/-- what a tell leaves of the watches -/
structure Fbk (n : Nat) (cl0 cl : Fcl) (lk : List (Nat × Nat)) (fs : List Nat) (ch : Nat → List Nat) (T : List Int) : Prop where
  wa : Wa n cl lk fs ch
  pm : Fpm cl0 cl
  qb : Qt cl T T
section
variable {n : Nat} {cl0 cl : Fcl} {lk lk0 : List (Nat × Nat)} {fs fs0 : List Nat} {ch ch0 : Nat → List Nat} {R0 R T G : List Int} {td i : Nat} {X Y : List Nat}
theorem To.bk (h : To n cl0 cl lk fs ch R0 R td T) : Fbk n cl0 cl lk fs ch T := ⟨h.wa, h.pm, h.qb⟩
theorem Tl.bk (h : Tl n cl0 cl lk fs ch R0 R td T i X Y) : Fbk n cl0 cl lk fs ch T := ⟨h.wa, h.pm, h.qb⟩
theorem one_pm (hp : Fpm cl0 cl) {k : Nat} {l : Int} (h : lts cl k = [l]) : lts cl0 k = [l] := by
  have := hp.2 k
  rw [h] at this
  exact (List.perm_singleton.1 this.symm)
theorem Der.pm (hp : Fpm cl0 cl) {L : List Int} {x : Int} (h : Der (cssOf cl0) L x) : Der (cssOf cl) L x := h.mono hp.css fun x hx => .fact hx
theorem Fbk.rest (h : Fbk n cl0 cl lk fs ch T) (h0 : Rs n cl0 lk0 fs0 ch0 T) : Rs n cl lk fs ch T :=
  ⟨h.wa, h0.rk, h.qb, fun k l e => h0.one k l (one_pm h.pm e), fun x hx => (h0.der x hx).pm h.pm⟩
theorem Rs.to (h : Rs n cl lk fs ch R) (hk : Frk n (R ++ G)) : To n cl cl lk fs ch (R ++ G) (R ++ G) R.length R := by
  have e : (R ++ G).take R.length = R := by simp
  exact ⟨h.wa, .refl _, hk, List.prefix_refl _, by simp, by rw [e]; exact fun k hk e he hq => List.mem_append.2 (.inl (h.qt k hk e he hq)), h.qt, by rw [e]; exact fun x hx => hx, fun x hx => .fact hx⟩
theorem To.rest (h : To n cl0 cl lk fs ch R0 R td T) (he : R.length ≤ td) (h1 : ∀ k l, lts cl0 k = [l] → l ∈ R0) (h2 : ∀ x ∈ R0, Der (cssOf cl0) [] x) : Rs n cl lk fs ch R := by
  have et : R.take td = R := List.take_of_length_le he
  have hq := h.qt
  rw [et] at hq
  exact ⟨h.wa, h.rk, hq, fun k l e => h.pre.subset (h1 k l (one_pm h.pm e)), fun x hx => ((h.der x hx).trans h2).pm h.pm⟩
theorem Rs.calm (h : Rs n cl lk fs ch R) : Calm (cssOf cl) R := by
  have := h.to (G := []) (by simpa using h.rk)
  have h2 := To.calm this (by simp) (by simpa using h.one)
  simpa using h2
theorem Rs.clos (h : Rs n cl lk fs ch R) : (∀ x, x ∈ R ↔ Der (cssOf cl) [] x) ∧ ¬ Cla (cssOf cl) [] := by
  obtain ⟨h1, h2⟩ := calm_der h.rk.con h.calm
  exact ⟨fun x => ⟨h.der x, fun hx => h1 x (hx.trans (by simp))⟩, fun hx => h2 (hx.trans (by simp))⟩
/-- all literals of the clauses that are there lie below n -/
theorem Wa.css (h : Wa n cl lk fs ch) {c : List Int} (hc : c ∈ cssOf cl) : ∀ l ∈ c, fmd l = true ∧ idx l < n := by
  obtain ⟨_, k, _, e⟩ := mem_cssOf.1 hc
  subst e; exact h.lit k
theorem idx_neg_out {l : Int} {n : Nat} (hf : fmd l = true) (hev : n % 2 = 0) (h : (n : Int) ≤ idx l) : (n : Int) ≤ idx (-l) := by
  have h0 := fmd_range hf
  by_cases hs : 0 < l
  · rw [(there_neg (fmd_neg hf) (by omega)).1]; rw [(there_pos hf hs).1] at h; omega
  · rw [(there_pos (fmd_neg hf) (by omega)).1]; rw [(there_neg hf (by omega)).1] at h; omega
/-- calm: then the opposites of c clash with nothing -/
theorem Calm.fol {c : List Int} (hw : Wa n cl lk fs ch) (hr : Frk n R) (hc : Calm (cssOf cl) R) (hs : ∀ l ∈ c, fmd l = true) (ht : ∀ l ∈ c, -l ∉ c) (hin : ∀ l ∈ c, idx l < n → -l ∈ R) : ¬ Cla (cssOf cl) (opp c) := by
  have hcalm : Calm (cssOf cl) (R ++ opp (c.filter fun l => decide ((n : Int) ≤ idx l))) := by
    intro j hj
    rw [← hc j hj]
    refine (kd_congr fun m hm => ?_).symm
    have h1 := hw.css (getD_in hj) m hm
    have no : ∀ x : Int, fmd x = true → idx x < n → x ∉ opp (c.filter fun l => decide ((n : Int) ≤ idx l)) := fun x fx hx hxm => by
      rw [mem_opp, List.mem_filter, decide_eq_true_eq] at hxm
      have := idx_neg_out (hs _ hxm.1) hw.ev hxm.2
      rw [Int.neg_neg] at this
      omega
    have h2 : idx (-m) < n := by
      refine Classical.byContradiction fun hq => ?_
      have := idx_neg_out (fmd_neg h1.1) hw.ev (by omega)
      rw [Int.neg_neg] at this
      omega
    constructor
    · rw [List.mem_append]; exact ⟨.inl, fun q => q.resolve_right (no m h1.1 h1.2)⟩
    · rw [List.mem_append]; exact ⟨.inl, fun q => q.resolve_right (no (-m) (fmd_neg h1.1) h2)⟩
  have hcon : Con (R ++ opp (c.filter fun l => decide ((n : Int) ≤ idx l))) := by
    intro l hl hn
    have far : ∀ x : Int, x ∈ opp (c.filter fun l => decide ((n : Int) ≤ idx l)) → -x ∈ c ∧ (n : Int) ≤ idx x := fun x hx => by
      rw [mem_opp, List.mem_filter, decide_eq_true_eq] at hx
      have := idx_neg_out (hs _ hx.1) hw.ev hx.2
      rw [Int.neg_neg] at this
      exact ⟨hx.1, this⟩
    rcases List.mem_append.1 hl with a | a <;> rcases List.mem_append.1 hn with b | b
    · exact hr.con l a b
    · have h1 := (far _ b)
      have h2 := hr.f l a
      have := idx_neg_out (fmd_neg h2.1) hw.ev h1.2
      rw [Int.neg_neg] at this
      omega
    · have h1 := (far _ a)
      have h2 := hr.f _ b
      have h3 := hs _ h1.1
      have := idx_neg_out (by rw [← Int.neg_neg l]; exact fmd_neg h3) hw.ev h1.2
      omega
    · have h1 := (far _ a).1
      have h2 := (far _ b).1
      exact ht _ h1 h2
  refine fun hcl => (calm_der hcon hcalm).2 (hcl.trans fun x hx => .fact ?_)
  rw [mem_opp] at hx
  rw [List.mem_append]
  by_cases e : idx (-x) < n
  · left
    have := hin _ hx e
    rwa [Int.neg_neg] at this
  · right
    rw [mem_opp, List.mem_filter, decide_eq_true_eq]
    exact ⟨hx, by omega⟩
end
end Go.Proofs.YtcblejbdoegckaaDoor
