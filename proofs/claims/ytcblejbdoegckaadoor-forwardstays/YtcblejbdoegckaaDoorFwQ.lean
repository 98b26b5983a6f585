/-
  forward: watched literals, and what it is to tell them which literals are true. No program here.
  KEEP: nil cons set len app mem lit one two move strike enlist put stay unit cla fin start pre nd con f qt qb tt der wa pm rk c
-/
import Derived.Test.YtcblejbdoegckaaDoorFwP
set_option linter.unusedSimpArgs false
set_option linter.unusedVariables false
namespace Go.Proofs.YtcblejbdoegckaaDoor

abbrev Fcl := List (List Int × Nat)
/-- a clause's literals, by its number -/
def lts (cl : Fcl) (k : Nat) : List Int := (cl.getD k ([], 0)).1
/-- the clauses that are there -/
def cssOf (cl : Fcl) : List (List Int) := (cl.map Prod.fst).filter (fun c => decide (c ≠ []))
theorem lts_in {cl : Fcl} {k : Nat} (h : lts cl k ≠ []) : k < cl.length := by
  refine Classical.byContradiction fun hn => h ?_
  unfold lts
  rw [List.getD_eq_getElem?_getD, List.getElem?_eq_none (by omega)]; rfl
theorem lts_at {cl : Fcl} {k : Nat} {x : List Int × Nat} (h : cl[k]? = some x) : lts cl k = x.1 := by
  unfold lts; rw [List.getD_eq_getElem?_getD, h]; rfl
theorem mem_cssOf {cl : Fcl} {c : List Int} : c ∈ cssOf cl ↔ c ≠ [] ∧ ∃ k, k < cl.length ∧ lts cl k = c := by
  unfold cssOf
  rw [List.mem_filter, decide_eq_true_eq, List.mem_map]
  constructor
  · rintro ⟨⟨x, hx, e⟩, h⟩
    obtain ⟨k, hk, e2⟩ := List.getElem_of_mem hx
    exact ⟨h, k, hk, by rw [lts_at (List.getElem?_eq_getElem hk), e2, e]⟩
  · rintro ⟨h, k, hk, e⟩
    exact ⟨⟨cl[k], List.getElem_mem hk, by rw [← e, lts_at (List.getElem?_eq_getElem hk)]⟩, h⟩
theorem lts_set_self {cl : Fcl} {k : Nat} {x : List Int × Nat} (h : k < cl.length) : lts (cl.set k x) k = x.1 := lts_at (by simp [h])
theorem lts_set_ne {cl : Fcl} {k j : Nat} {x : List Int × Nat} (h : j ≠ k) : lts (cl.set k x) j = lts cl j := by
  unfold lts; rw [List.getD_eq_getElem?_getD, List.getD_eq_getElem?_getD, List.getElem?_set_ne (fun e => h e.symm)]
/-- the watches' book -/
structure Wa (n : Nat) (cl : Fcl) (lk : List (Nat × Nat)) (fs : List Nat) (ch : Nat → List Nat) : Prop where
  c : Cn n lk fs ch
  two : lk.length = 2 * cl.length
  mem : ∀ i a, a ∈ ch i ↔ 2 ≤ (lts cl (a / 2)).length ∧ idx ((lts cl (a / 2)).getD (a % 2) 0) = (i : Int)
  lit : ∀ k, ∀ l ∈ lts cl k, fmd l = true ∧ idx l < n
  nd : ∀ k, (lts cl k).Nodup
  zero : lts cl 0 = []
  ev : n % 2 = 0
  hn : n ≤ 2097152
theorem getD_mem0 {c : List Int} {k : Nat} (h : k < c.length) : c.getD k 0 ∈ c := by
  rw [List.getD_eq_getElem?_getD, List.getElem?_eq_getElem h]; exact List.getElem_mem h
theorem getD_inj0 {c : List Int} (hn : c.Nodup) {j k : Nat} (hj : j < c.length) (hk : k < c.length) (h : c.getD j 0 = c.getD k 0) : j = k := by
  rw [List.getD_eq_getElem?_getD, List.getD_eq_getElem?_getD, List.getElem?_eq_getElem hj, List.getElem?_eq_getElem hk] at h
  exact (List.getElem_inj hn).1 h
/-- two places of a list change -/
def mvd (c : List Int) (e p : Nat) : List Int := (c.set e (c.getD p 0)).set p (c.getD e 0)
theorem mvd_len (c : List Int) (e p : Nat) : (mvd c e p).length = c.length := by simp [mvd]
theorem mvd_perm {c : List Int} {e p : Nat} (he : e < c.length) (hp : p < c.length) : (mvd c e p).Perm c := by
  have := List.set_set_perm (as := c) he hp
  unfold mvd
  rw [List.getD_eq_getElem?_getD, List.getD_eq_getElem?_getD, List.getElem?_eq_getElem hp, List.getElem?_eq_getElem he]
  exact this
theorem mvd_e {c : List Int} {e p : Nat} (he : e < c.length) (hne : e ≠ p) : (mvd c e p).getD e 0 = c.getD p 0 := by
  unfold mvd
  rw [List.getD_eq_getElem?_getD, List.getElem?_set_ne (fun h => hne h.symm), List.getElem?_set_self he]; rfl
theorem mvd_o {c : List Int} {e p j : Nat} (h1 : j ≠ e) (h2 : j ≠ p) : (mvd c e p).getD j 0 = c.getD j 0 := by
  unfold mvd
  rw [List.getD_eq_getElem?_getD, List.getElem?_set_ne (fun h => h2 h.symm), List.getElem?_set_ne (fun h => h1 h.symm), ← List.getD_eq_getElem?_getD]
/-- the same clauses, their literals in another order -/
def Fpm (cl cl' : Fcl) : Prop := cl'.length = cl.length ∧ ∀ k, (lts cl' k).Perm (lts cl k)
theorem Fpm.refl (cl : Fcl) : Fpm cl cl := ⟨rfl, fun _ => .refl _⟩
theorem Fpm.trans {a b c : Fcl} (h : Fpm a b) (h' : Fpm b c) : Fpm a c := ⟨h'.1.trans h.1, fun k => (h'.2 k).trans (h.2 k)⟩
theorem Fpm.symm {a b : Fcl} (h : Fpm a b) : Fpm b a := ⟨h.1.symm, fun k => (h.2 k).symm⟩
theorem Fpm.css {a b : Fcl} (h : Fpm a b) : ∀ c ∈ cssOf a, ∃ c' ∈ cssOf b, ∀ x, x ∈ c ↔ x ∈ c' := fun c hc => by
  obtain ⟨h0, k, hk, e⟩ := mem_cssOf.1 hc
  have hp := h.2 k
  rw [e] at hp
  exact ⟨lts b k, mem_cssOf.2 ⟨fun e2 => h0 (by rw [e2] at hp; exact List.Perm.nil_eq hp |>.symm), k, by rw [h.1]; exact hk, rfl⟩, fun x => (hp.mem_iff).symm⟩
theorem Fpm.set {cl : Fcl} {k : Nat} {c : List Int} {fr : Nat} (hp : c.Perm (lts cl k)) : Fpm cl (cl.set k (c, fr)) := by
  refine ⟨by simp, fun j => ?_⟩
  by_cases e : j = k
  · subst e
    by_cases hk : j < cl.length
    · rw [lts_set_self hk]; exact hp
    · rw [List.set_eq_of_length_le (by omega)]
  · rw [lts_set_ne e]
section
variable {n : Nat} {cl : Fcl} {lk : List (Nat × Nat)} {fs : List Nat} {ch : Nat → List Nat}
/-- a link of a list -/
theorem Wa.link (h : Wa n cl lk fs ch) {i a : Nat} (ha : a ∈ ch i) : 2 ≤ (lts cl (a / 2)).length ∧ idx ((lts cl (a / 2)).getD (a % 2) 0) = (i : Int) ∧ i < n ∧ a / 2 < cl.length ∧ 2 ≤ a ∧ a < lk.length ∧ (lts cl (a / 2)).getD (a % 2) 0 ∈ lts cl (a / 2) := by
  obtain ⟨h1, h2⟩ := (h.mem i a).1 ha
  have h3 : lts cl (a / 2) ≠ [] := by intro e; rw [e] at h1; simp at h1
  have h4 := lts_in h3
  have h5 : (lts cl (a / 2)).getD (a % 2) 0 ∈ lts cl (a / 2) := getD_mem0 (by omega)
  have h6 := (h.lit _ _ h5).2
  have h7 : a / 2 ≠ 0 := fun e => h3 (by rw [e]; exact h.zero)
  have h8 := h.two
  exact ⟨h1, h2, by omega, h4, by omega, by omega, h5⟩
theorem Wa.move (h : Wa n cl lk fs ch) {i j k e p a fr : Nat} {X Y : List Nat} (he : e < 2) (ea : a = 2 * k + e) (hi : ch i = X ++ a :: Y) (hp2 : 2 ≤ p) (hp : p < (lts cl k).length) (hj : idx ((lts cl k).getD p 0) = (j : Int)) :
    Wa n (cl.set k (mvd (lts cl k) e p, fr)) (enL (skL lk a) ((ch j).headD 0) a) ((skF lk fs a i).set j a) (fupd (fupd ch i (X ++ Y)) j (a :: ch j)) ∧ fupd (fupd ch i (X ++ Y)) j (a :: ch j) i = X ++ Y := by
  have hain : a ∈ ch i := by rw [hi]; simp
  obtain ⟨l1, l2, l3, l4, l5, l6, l7⟩ := h.link hain
  have ek : a / 2 = k := by omega
  have ee : a % 2 = e := by omega
  rw [ek, ee] at l2 l7
  rw [ek] at l1 l4
  have hpm : (lts cl k).getD p 0 ∈ lts cl k := getD_mem0 hp
  have hjn : j < n := by have := (h.lit _ _ hpm).2; omega
  have hij : j ≠ i := fun e1 => by
    subst e1
    have := idx_inj (h.lit _ _ hpm).1 (h.lit _ _ l7).1 (by rw [hj, l2])
    have := getD_inj0 (h.nd k) hp (by omega) this
    omega
  have c1 := h.c.strike l3 hi
  have hnd := h.c.nd i
  rw [hi] at hnd
  have haXY : a ∉ X ++ Y := fun hm => by
    obtain ⟨n1, n2, n3⟩ := List.nodup_append.1 hnd
    rcases List.mem_append.1 hm with q | q
    · exact n3 a q a (by simp) rfl
    · exact (List.nodup_cons.1 n2).1 q
  have hno : ∀ q, a ∉ fupd ch i (X ++ Y) q := fun q hq => by
    by_cases e1 : q = i
    · subst e1; rw [fupd_self] at hq; exact haXY hq
    · rw [fupd_ne _ _ e1] at hq; exact e1 (h.c.dj q i a hq hain)
  have c2 := c1.enlist (i := j) (a := a) hjn hno (by omega) (by rw [skL_len]; exact l6)
  rw [fupd_ne _ _ hij] at c2
  have hmem : ∀ q b, b ∈ fupd (fupd ch i (X ++ Y)) j (a :: ch j) q ↔ (b = a ∧ q = j) ∨ (b ≠ a ∧ b ∈ ch q) := fun q b => by
    by_cases e1 : q = j
    · subst e1
      rw [fupd_self, List.mem_cons]
      have : a ∉ ch q := fun hh => hij (h.c.dj q i a hh hain)
      by_cases e2 : b = a
      · subst e2; simp
      · simp [e2]
    · rw [fupd_ne _ _ e1]
      by_cases e3 : q = i
      · subst e3
        rw [fupd_self, hi]
        by_cases e2 : b = a
        · subst e2; simp [e1]; simpa using haXY
        · simp [e2]
      · rw [fupd_ne _ _ e3]
        by_cases e2 : b = a
        · subst e2; simp [e1]; exact fun hh => e3 (h.c.dj q i b hh hain)
        · simp [e2]
  have hlen := mvd_len (lts cl k) e p
  have hperm : (mvd (lts cl k) e p).Perm (lts cl k) := mvd_perm (by omega) hp
  have hlts : ∀ q, (lts (cl.set k (mvd (lts cl k) e p, fr)) q).Perm (lts cl q) := (Fpm.set hperm).2
  refine ⟨⟨c2, ?_, fun q b => ?_, fun q l hl => h.lit q l ((hlts q).mem_iff.1 hl), fun q => (hlts q).nodup_iff.2 (h.nd q), ?_, h.ev, h.hn⟩, by rw [fupd_ne _ _ (fun e1 => hij e1.symm), fupd_self]⟩
  · rw [enL_len, skL_len, List.length_set]; exact h.two
  · rw [hmem q b]
    by_cases e1 : b / 2 = k
    · rw [e1, lts_set_self l4]
      show _ ↔ 2 ≤ (mvd (lts cl k) e p).length ∧ idx ((mvd (lts cl k) e p).getD (b % 2) 0) = (q : Int)
      rw [hlen]
      by_cases e2 : b = a
      · subst e2
        rw [ee, mvd_e (by omega) (by omega), hj]
        constructor
        · rintro (⟨_, e4⟩ | ⟨e4, _⟩)
          · exact ⟨l1, by omega⟩
          · exact absurd rfl e4
        · rintro ⟨_, e4⟩; exact .inl ⟨rfl, by omega⟩
      · have e5 : b % 2 ≠ e := by omega
        rw [mvd_o e5 (by omega)]
        have := h.mem q b
        rw [e1] at this
        rw [← this]
        simp [e2]
    · rw [lts_set_ne e1]
      have e2 : b ≠ a := fun e2 => e1 (by rw [e2]; exact ek)
      rw [← h.mem q b]
      simp [e2]
  · have := (hlts 0)
    rw [h.zero] at this
    exact List.Perm.eq_nil this
end
/-- the row of what is true -/
structure Frk (n : Nat) (R : List Int) : Prop where
  nd : R.Nodup
  con : Con R
  f : ∀ x ∈ R, fmd x = true ∧ idx x < n
theorem Frk.put {n : Nat} {R : List Int} {l : Int} (h : Frk n R) (h1 : l ∉ R) (h2 : -l ∉ R) (hf : fmd l = true) (hi : idx l < n) : Frk n (R ++ [l]) :=
  ⟨List.nodup_append.2 ⟨h.nd, by simp, fun x hx y hy e => h1 (by rw [show y = l by simpa using hy] at e; rw [← e]; exact hx)⟩, h.con.snoc (fmd_range hf).1 h2, fun x hx => by
    rcases List.mem_append.1 hx with a | a
    · exact h.f x a
    · rw [show x = l by simpa using a]; exact ⟨hf, hi⟩⟩
theorem Frk.len {n : Nat} {R : List Int} (h : Frk n R) : R.length ≤ 2097152 := by
  have e := nodup_len6 h.nd (((tid_rising R).imp fun hlt e => by rw [e] at hlt; exact absurd hlt (Int.lt_irrefl _)) : (tid R).Nodup) fun x => by rw [mem_tid]; exact ⟨fun hx => ⟨hx, (h.f x hx).1⟩, fun hx => hx.1⟩
  rw [e]; exact tid_len R
theorem Frk.pre {n : Nat} {R : List Int} (h : Frk n R) (m : Nat) : Frk n (R.take m) :=
  ⟨h.nd.sublist (List.take_sublist m R), fun l hl hn => h.con l (List.mem_of_mem_take hl) (List.mem_of_mem_take hn), fun x hx => h.f x (List.mem_of_mem_take hx)⟩
/-- where a watched literal is false by F, the other one stands in R -/
def Qt (cl : Fcl) (F R : List Int) : Prop := ∀ k, 2 ≤ (lts cl k).length → ∀ e, e < 2 → -((lts cl k).getD e 0) ∈ F → (lts cl k).getD (1 - e) 0 ∈ R
theorem fmem_take {R : List Int} {m : Nat} (h : m < R.length) {x : Int} : x ∈ R.take (m + 1) ↔ x ∈ R.take m ∨ x = R.getD m 0 := by
  rw [List.take_succ_eq_append_getElem h, List.mem_append, List.mem_singleton, List.getD_eq_getElem?_getD, List.getElem?_eq_getElem h]; rfl
/-- between two literals that are told -/
structure To (n : Nat) (cl0 cl : Fcl) (lk : List (Nat × Nat)) (fs : List Nat) (ch : Nat → List Nat) (R0 R : List Int) (td : Nat) (T : List Int) : Prop where
  wa : Wa n cl lk fs ch
  pm : Fpm cl0 cl
  rk : Frk n R
  pre : R0 <+: R
  tl : td ≤ R.length
  qt : Qt cl (R.take td) R
  qb : Qt cl T T
  tt : ∀ x ∈ T, x ∈ R.take td
  der : ∀ x ∈ R, Der (cssOf cl0) R0 x
/-- while one is told: X have heard it, Y not yet -/
structure Tl (n : Nat) (cl0 cl : Fcl) (lk : List (Nat × Nat)) (fs : List Nat) (ch : Nat → List Nat) (R0 R : List Int) (td : Nat) (T : List Int) (i : Nat) (X Y : List Nat) : Prop where
  wa : Wa n cl lk fs ch
  pm : Fpm cl0 cl
  rk : Frk n R
  pre : R0 <+: R
  tl : td < R.length
  hi : idx (-(R.getD td 0)) = (i : Int)
  ec : ch i = X ++ Y
  qt : ∀ k, 2 ≤ (lts cl k).length → ∀ e, e < 2 → -((lts cl k).getD e 0) ∈ R.take (td + 1) → (lts cl k).getD (1 - e) 0 ∈ R ∨ 2 * k + e ∈ Y
  qb : Qt cl T T
  tt : ∀ x ∈ T, x ∈ R.take td
  der : ∀ x ∈ R, Der (cssOf cl0) R0 x
section
variable {n : Nat} {cl0 cl : Fcl} {lk : List (Nat × Nat)} {fs : List Nat} {ch : Nat → List Nat} {R0 R : List Int} {td : Nat} {T : List Int} {i : Nat} {X Y : List Nat}
theorem neg_neg0 {x y : Int} (h : -x = y) : x = -y := by omega
theorem To.tell (h : To n cl0 cl lk fs ch R0 R td T) (hlt : td < R.length) : ∃ i : Nat, i < n ∧ idx (-(R.getD td 0)) = (i : Int) ∧ Tl n cl0 cl lk fs ch R0 R td T i [] (ch i) := by
  have hm : R.getD td 0 ∈ R := getD_mem0 hlt
  have hf := h.rk.f _ hm
  have hr := idx_range (fmd_neg hf.1)
  have hev := h.wa.ev
  have hlt2 : idx (-(R.getD td 0)) < n := by
    have h0 := fmd_range hf.1
    by_cases hs : 0 < R.getD td 0
    · rw [(there_neg (fmd_neg hf.1) (by omega)).1]; have := hf.2; rw [(there_pos hf.1 hs).1] at this; omega
    · rw [(there_pos (fmd_neg hf.1) (by omega)).1]; have := hf.2; rw [(there_neg hf.1 (by omega)).1] at this; omega
  refine ⟨(idx (-(R.getD td 0))).toNat, by omega, by omega, h.wa, h.pm, h.rk, h.pre, hlt, by omega, by simp, fun k hk e he hq => ?_, h.qb, h.tt, h.der⟩
  rcases (fmem_take hlt).1 hq with a | a
  · exact .inl (h.qt k hk e he a)
  · refine .inr ((h.wa.mem _ _).2 ?_)
    rw [show (2 * k + e) / 2 = k by omega, show (2 * k + e) % 2 = e by omega]
    exact ⟨hk, by rw [neg_neg0 a]; omega⟩
theorem Tl.fin (h : Tl n cl0 cl lk fs ch R0 R td T i X []) : To n cl0 cl lk fs ch R0 R (td + 1) T :=
  ⟨h.wa, h.pm, h.rk, h.pre, h.tl, fun k hk e he hq => (h.qt k hk e he hq).resolve_right (by simp), h.qb, fun x hx => (fmem_take h.tl).2 (.inl (h.tt x hx)), h.der⟩
/-- the clause that hears it -/
theorem Tl.at' {a : Nat} (h : Tl n cl0 cl lk fs ch R0 R td T i X (a :: Y)) : 2 ≤ (lts cl (a / 2)).length ∧ (lts cl (a / 2)).getD (a % 2) 0 = -(R.getD td 0) ∧ i < n ∧ a / 2 < cl.length ∧ 2 ≤ a ∧ a < lk.length := by
  obtain ⟨h1, h2, h3, h4, h5, h6, h7⟩ := h.wa.link (i := i) (a := a) (by rw [h.ec]; simp)
  exact ⟨h1, idx_inj (h.wa.lit _ _ h7).1 (fmd_neg (h.rk.f _ (getD_mem0 h.tl)).1) (by rw [h2, h.hi]), h3, h4, h5, h6⟩
theorem Tl.next {a : Nat} (h : Tl n cl0 cl lk fs ch R0 R td T i X (a :: Y)) : lk[a]? = some (Y.headD 0, X.getLastD 0) := (h.wa.c.at' h.ec).1
theorem Tl.stay {a : Nat} (h : Tl n cl0 cl lk fs ch R0 R td T i X (a :: Y)) (ho : (lts cl (a / 2)).getD (1 - a % 2) 0 ∈ R) : Tl n cl0 cl lk fs ch R0 R td T i (X ++ [a]) Y := by
  refine ⟨h.wa, h.pm, h.rk, h.pre, h.tl, h.hi, by rw [h.ec]; simp, fun k hk e he hq => ?_, h.qb, h.tt, h.der⟩
  rcases h.qt k hk e he hq with b | b
  · exact .inl b
  · rcases List.mem_cons.1 b with c | c
    · subst c
      rw [show (2 * k + e) / 2 = k by omega, show (2 * k + e) % 2 = e by omega] at ho
      exact .inl ho
    · exact .inr c
theorem ftake_app {R S : List Int} {m : Nat} (h : m ≤ R.length) : (R ++ S).take m = R.take m := List.take_append_of_le_length h
theorem Tl.put {l : Int} (h : Tl n cl0 cl lk fs ch R0 R td T i X Y) (h1 : l ∉ R) (h2 : -l ∉ R) (hf : fmd l = true) (hi : idx l < n) (hd : Der (cssOf cl0) R0 l) : Tl n cl0 cl lk fs ch R0 (R ++ [l]) td T i X Y := by
  have ht := h.tl
  have e1 : (R ++ [l]).take (td + 1) = R.take (td + 1) := ftake_app h.tl
  have e2 : (R ++ [l]).take td = R.take td := ftake_app (by omega)
  have e3 : (R ++ [l]).getD td 0 = R.getD td 0 := by rw [List.getD_eq_getElem?_getD, List.getD_eq_getElem?_getD, List.getElem?_append_left ht]
  refine ⟨h.wa, h.pm, h.rk.put h1 h2 hf hi, h.pre.trans (List.prefix_append _ _), by simp; omega, by rw [e3]; exact h.hi, h.ec, fun k hk e he hq => ?_, h.qb, by rw [e2]; exact h.tt, fun x hx => ?_⟩
  · rw [e1] at hq
    rcases h.qt k hk e he hq with a | a
    · exact .inl (List.mem_append.2 (.inl a))
    · exact .inr a
  · rcases List.mem_append.1 hx with a | a
    · exact h.der x a
    · rw [show x = l by simpa using a]; exact hd
theorem opp_in {R : List Int} (h : Con R) {x : Int} (hx : -x ∈ R) : x ∉ R := fun hx2 => h x hx2 hx
/-- where the others are false -/
theorem Tl.other {a : Nat} (h : Tl n cl0 cl lk fs ch R0 R td T i X (a :: Y)) (hf : ∀ p, 2 ≤ p → p < (lts cl (a / 2)).length → -((lts cl (a / 2)).getD p 0) ∈ R) : ∀ m ∈ lts cl (a / 2), m ≠ (lts cl (a / 2)).getD (1 - a % 2) 0 → -m ∈ R := by
  obtain ⟨h1, h2, h3, h4, h5, h6⟩ := h.at'
  intro m hm hne
  obtain ⟨q, hq, e⟩ := List.getElem_of_mem hm
  have e : (lts cl (a / 2)).getD q 0 = m := by rw [List.getD_eq_getElem?_getD, List.getElem?_eq_getElem hq]; exact e
  by_cases q2 : 2 ≤ q
  · rw [← e]; exact hf q q2 hq
  · by_cases qe : q = a % 2
    · rw [← e, qe, h2, Int.neg_neg]; exact getD_mem0 h.tl
    · exact absurd (by rw [← e, show q = 1 - a % 2 by omega]) hne
theorem Tl.unit {a : Nat} (h : Tl n cl0 cl lk fs ch R0 R td T i X (a :: Y)) (hf : ∀ p, 2 ≤ p → p < (lts cl (a / 2)).length → -((lts cl (a / 2)).getD p 0) ∈ R) (h1 : (lts cl (a / 2)).getD (1 - a % 2) 0 ∉ R) (h2 : -((lts cl (a / 2)).getD (1 - a % 2) 0) ∉ R) :
    Tl n cl0 cl lk fs ch R0 (R ++ [(lts cl (a / 2)).getD (1 - a % 2) 0]) td T i (X ++ [a]) Y := by
  obtain ⟨l1, l2, l3, l4, l5, l6⟩ := h.at'
  have hm : (lts cl (a / 2)).getD (1 - a % 2) 0 ∈ lts cl (a / 2) := getD_mem0 (by omega)
  have hl := h.wa.lit _ _ hm
  have hc : lts cl (a / 2) ∈ cssOf cl := mem_cssOf.2 ⟨(by intro e; rw [e] at l1; simp at l1), _, l4, rfl⟩
  obtain ⟨c', g1, g2⟩ := h.pm.symm.css _ hc
  have hd : Der (cssOf cl0) R0 ((lts cl (a / 2)).getD (1 - a % 2) 0) := .unit g1 ((g2 _).1 hm) fun m hm2 hne => h.der _ (h.other hf m ((g2 m).2 hm2) hne)
  exact (h.put h1 h2 hl.1 hl.2 hd).stay (by simp)
theorem Tl.cla {a : Nat} (h : Tl n cl0 cl lk fs ch R0 R td T i X (a :: Y)) (hf : ∀ p, 2 ≤ p → p < (lts cl (a / 2)).length → -((lts cl (a / 2)).getD p 0) ∈ R) (h2 : -((lts cl (a / 2)).getD (1 - a % 2) 0) ∈ R) : Cla (cssOf cl0) R0 := by
  obtain ⟨l1, l2, l3, l4, l5, l6⟩ := h.at'
  have hc : lts cl (a / 2) ∈ cssOf cl := mem_cssOf.2 ⟨(by intro e; rw [e] at l1; simp at l1), _, l4, rfl⟩
  obtain ⟨c', g1, g2⟩ := h.pm.symm.css _ hc
  refine .inr ⟨c', g1, fun m hm => h.der _ ?_⟩
  by_cases e : m = (lts cl (a / 2)).getD (1 - a % 2) 0
  · rw [e]; exact h2
  · exact h.other hf m ((g2 m).2 hm) e
theorem Tl.move {a p j fr : Nat} (h : Tl n cl0 cl lk fs ch R0 R td T i X (a :: Y)) (hp2 : 2 ≤ p) (hp : p < (lts cl (a / 2)).length) (hn : -((lts cl (a / 2)).getD p 0) ∉ R) (hj : idx ((lts cl (a / 2)).getD p 0) = (j : Int)) :
    Tl n cl0 (cl.set (a / 2) (mvd (lts cl (a / 2)) (a % 2) p, fr)) (enL (skL lk a) ((ch j).headD 0) a) ((skF lk fs a i).set j a) (fupd (fupd ch i (X ++ Y)) j (a :: ch j)) R0 R td T i X Y := by
  obtain ⟨l1, l2, l3, l4, l5, l6⟩ := h.at'
  obtain ⟨w1, w2⟩ := h.wa.move (k := a / 2) (e := a % 2) (p := p) (a := a) (fr := fr) (j := j) (by omega) (by omega) h.ec hp2 hp hj
  have hpm : Fpm cl (cl.set (a / 2) (mvd (lts cl (a / 2)) (a % 2) p, fr)) := Fpm.set (mvd_perm (by omega) hp)
  have tr : ∀ x ∈ R.take (td + 1), x ∈ R := fun x hx => List.mem_of_mem_take hx
  have tT : ∀ x ∈ T, x ∈ R := fun x hx => List.mem_of_mem_take (h.tt x hx)
  have hm := getD_mem0 hp
  -- what the new clause's watches say
  have key : ∀ F S : List Int, (∀ x ∈ F, x ∈ R) → ∀ e, e < 2 → -((mvd (lts cl (a / 2)) (a % 2) p).getD e 0) ∈ F → e ≠ a % 2 ∧ -((lts cl (a / 2)).getD e 0) ∈ F := fun F S hF e he hq => by
    by_cases ee : e = a % 2
    · subst ee
      rw [mvd_e (by omega) (by omega)] at hq
      exact absurd (hF _ hq) hn
    · rw [mvd_o ee (by omega)] at hq; exact ⟨ee, hq⟩
  refine ⟨w1, h.pm.trans hpm, h.rk, h.pre, h.tl, h.hi, w2, fun k hk e he hq => ?_, fun k hk e he hq => ?_, h.tt, h.der⟩
  · by_cases ek : k = a / 2
    · subst ek
      rw [lts_set_self l4] at hq ⊢
      obtain ⟨ee, hq2⟩ := key _ [] tr e he hq
      -- the other watch is false: then the link's own literal stood in the row
      rcases h.qt _ l1 e he hq2 with b | b
      · rw [show 1 - e = a % 2 by omega, l2] at b
        exact absurd (getD_mem0 h.tl) (opp_in h.rk.con b)
      · rcases List.mem_cons.1 b with c | c
        · omega
        · exact .inr c
    · rw [lts_set_ne ek] at hk hq ⊢
      rcases h.qt k hk e he hq with b | b
      · exact .inl b
      · rcases List.mem_cons.1 b with c | c
        · omega
        · exact .inr c
  · by_cases ek : k = a / 2
    · subst ek
      rw [lts_set_self l4] at hq ⊢
      obtain ⟨ee, hq2⟩ := key _ [] tT e he hq
      have := h.qb _ l1 e he hq2
      rw [show 1 - e = a % 2 by omega, l2] at this
      exact absurd (getD_mem0 h.tl) (opp_in h.rk.con (tT _ this))
    · rw [lts_set_ne ek] at hk hq ⊢
      exact h.qb k hk e he hq
/-- all told: calm -/
theorem To.calm (h : To n cl0 cl lk fs ch R0 R td T) (he : R.length ≤ td) (h1 : ∀ k l, lts cl k = [l] → l ∈ R) : Calm (cssOf cl) R := by
  intro j hj
  have hc := getD_in hj
  obtain ⟨h0, k, hk, e⟩ := mem_cssOf.1 hc
  rw [← e] at h0 ⊢
  have et : R.take td = R := List.take_of_length_le he
  have hq := h.qt
  rw [et] at hq
  by_cases h2 : 2 ≤ (lts cl k).length
  · have m0 : (lts cl k).getD 0 0 ∈ lts cl k := getD_mem0 (by omega)
    have m1 : (lts cl k).getD 1 0 ∈ lts cl k := getD_mem0 (by omega)
    by_cases f0 : -((lts cl k).getD 0 0) ∈ R
    · exact kd_true m1 (hq k h2 0 (by omega) f0)
    · by_cases f1 : -((lts cl k).getD 1 0) ∈ R
      · exact kd_true m0 (hq k h2 1 (by omega) f1)
      · exact kd_two m0 m1 (fun e => by have := getD_inj0 (h.wa.nd k) (by omega) (by omega) e; omega) f0 f1
  · match hh : lts cl k, h0, h2 with
    | [], h0, _ => exact absurd rfl h0
    | [l], _, _ => exact kd_true (by simp) (h1 k l hh)
    | _ :: _ :: _, _, h2 => simp at h2
end
end Go.Proofs.YtcblejbdoegckaaDoor
