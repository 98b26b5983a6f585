/-
  forward: the closing that is led on, in plain words: lists that are linked both ways, watched literals. No program here.
  KEEP: nil cons set len app mem lit one two move strike enlist
-/
import Derived.Test.YtcblejbdoegckaaDoorUnP
import Derived.Test.YtcblejbdoegckaaDoorUnC
import Derived.Test.YtcblejbdoegckaaDoorOnP
set_option linter.unusedSimpArgs false
set_option linter.unusedVariables false
namespace Go.Proofs.YtcblejbdoegckaaDoor

/-- a piece of a list that is linked both ways: behind p, ahead of q -/
def Sg (lk : List (Nat × Nat)) : Nat → List Nat → Nat → Prop
  | _, [], _ => True
  | p, a :: L, q => lk[a]? = some (L.headD q, p) ∧ Sg lk a L q

theorem headD_app {X Y : List Nat} {q : Nat} : (X ++ Y).headD q = X.headD (Y.headD q) := by cases X <;> rfl
theorem Sg.app {lk : List (Nat × Nat)} {Y : List Nat} {q : Nat} : ∀ {X : List Nat} {p : Nat}, Sg lk p (X ++ Y) q ↔ Sg lk p X (Y.headD q) ∧ Sg lk (X.getLastD p) Y q
  | [], p => by simp [Sg]
  | a :: X, p => by
    have ih := Sg.app (lk := lk) (Y := Y) (q := q) (X := X) (p := a)
    have e : (a :: X).getLastD p = X.getLastD a := List.getLastD_cons ..
    rw [e]
    show (lk[a]? = some ((X ++ Y).headD q, p) ∧ Sg lk a (X ++ Y) q) ↔ (lk[a]? = some (X.headD (Y.headD q), p) ∧ Sg lk a X (Y.headD q)) ∧ _
    rw [ih, headD_app, and_assoc]
theorem Sg.set {lk : List (Nat × Nat)} {q b : Nat} {v : Nat × Nat} : ∀ {L : List Nat} {p : Nat}, b ∉ L → Sg lk p L q → Sg (lk.set b v) p L q
  | [], _, _, _ => trivial
  | a :: L, p, hb, h => by
    simp only [List.mem_cons, not_or] at hb
    exact ⟨by rw [List.getElem?_set_ne hb.1]; exact h.1, Sg.set hb.2 h.2⟩
theorem Sg.lt {lk : List (Nat × Nat)} {q : Nat} : ∀ {L : List Nat} {p : Nat}, Sg lk p L q → ∀ a ∈ L, a < lk.length
  | [], _, _, a, ha => by simp at ha
  | b :: L, p, h, a, ha => by
    rcases List.mem_cons.1 ha with e | e
    · subst e; exact (List.getElem?_eq_some_iff.1 h.1).1
    · exact Sg.lt h.2 a e
theorem getD_of {lk : List (Nat × Nat)} {a : Nat} {x : Nat × Nat} (h : lk[a]? = some x) : lk.getD a (0, 0) = x := by
  rw [List.getD_eq_getElem?_getD, h]; rfl
/-- the first one hears who stands ahead of it -/
def frst (lk : List (Nat × Nat)) (f p : Nat) : List (Nat × Nat) := if f = 0 then lk else lk.set f ((lk.getD f (0, 0)).1, p)
/-- the last one hears who stands behind it -/
def lst (lk : List (Nat × Nat)) (l q : Nat) : List (Nat × Nat) := if l = 0 then lk else lk.set l (q, (lk.getD l (0, 0)).2)
theorem frst_len (lk : List (Nat × Nat)) (f p : Nat) : (frst lk f p).length = lk.length := by unfold frst; split <;> simp
theorem lst_len (lk : List (Nat × Nat)) (f p : Nat) : (lst lk f p).length = lk.length := by unfold lst; split <;> simp
theorem Sg.frst {lk : List (Nat × Nat)} {a q p : Nat} {Y : List Nat} (h : Sg lk a Y q) (hn : Y.Nodup) (h0 : ∀ y ∈ Y, 0 < y) : Sg (frst lk (Y.headD 0) p) p Y q := by
  cases Y with
  | nil => trivial
  | cons y Y =>
    have hy := h0 y (by simp)
    have e : Go.Proofs.YtcblejbdoegckaaDoor.frst lk ((y :: Y).headD 0) p = lk.set y ((lk.getD y (0, 0)).1, p) := by
      unfold Go.Proofs.YtcblejbdoegckaaDoor.frst; rw [if_neg (by simp; omega)]; rfl
    rw [e, getD_of h.1]
    have hlt := (List.getElem?_eq_some_iff.1 h.1).1
    exact ⟨by simp [hlt], Sg.set (List.nodup_cons.1 hn).1 h.2⟩
theorem Sg.lst {lk : List (Nat × Nat)} {p a q : Nat} {X : List Nat} (h : Sg lk p X a) (hn : X.Nodup) (h0 : ∀ y ∈ X, 0 < y) : Sg (lst lk (X.getLastD 0) q) p X q := by
  rcases List.eq_nil_or_concat X with e | ⟨X', x, e⟩
  · subst e; trivial
  · rw [List.concat_eq_append] at e
    subst e
    have hx := h0 x (by simp)
    have e : (X' ++ [x]).getLastD 0 = x := by simp
    rw [e]
    have e : Go.Proofs.YtcblejbdoegckaaDoor.lst lk x q = lk.set x (q, (lk.getD x (0, 0)).2) := by
      unfold Go.Proofs.YtcblejbdoegckaaDoor.lst; rw [if_neg (by omega)]
    rw [e]
    rw [Sg.app] at h ⊢
    have h2 : lk[x]? = some (a, X'.getLastD p) := h.2.1
    rw [getD_of h2]
    have hlt := (List.getElem?_eq_some_iff.1 h2).1
    have hx2 : x ∉ X' := by
      have := List.nodup_append.1 hn
      exact fun hm => this.2.2 x hm x (by simp) rfl
    exact ⟨Sg.set hx2 h.1, by simp [hlt], trivial⟩

/-- a link taken out of its list -/
def skL (lk : List (Nat × Nat)) (a : Nat) : List (Nat × Nat) := lst (frst lk (lk.getD a (0, 0)).1 (lk.getD a (0, 0)).2) (lk.getD a (0, 0)).2 (lk.getD a (0, 0)).1
def skF (lk : List (Nat × Nat)) (fs : List Nat) (a i : Nat) : List Nat := if (lk.getD a (0, 0)).2 = 0 then fs.set i (lk.getD a (0, 0)).1 else fs
/-- a link put to a list's head -/
def enL (lk : List (Nat × Nat)) (f a : Nat) : List (Nat × Nat) := frst (lk.set a (f, 0)) f a
theorem skL_len (lk : List (Nat × Nat)) (a : Nat) : (skL lk a).length = lk.length := by unfold skL; rw [lst_len, frst_len]
theorem skF_len (lk : List (Nat × Nat)) (fs : List Nat) (a i : Nat) : (skF lk fs a i).length = fs.length := by unfold skF; split <;> simp
theorem enL_len (lk : List (Nat × Nat)) (f a : Nat) : (enL lk f a).length = lk.length := by unfold enL; rw [frst_len]; simp

def fupd (ch : Nat → List Nat) (i : Nat) (L : List Nat) : Nat → List Nat := fun j => if j = i then L else ch j
theorem fupd_self (ch : Nat → List Nat) (i : Nat) (L : List Nat) : fupd ch i L i = L := by simp [fupd]
theorem fupd_ne (ch : Nat → List Nat) {i j : Nat} (L : List Nat) (h : j ≠ i) : fupd ch i L j = ch j := by simp [fupd, h]
/-- the lists of links, one a literal -/
structure Cn (n : Nat) (lk : List (Nat × Nat)) (fs : List Nat) (ch : Nat → List Nat) : Prop where
  len : fs.length = n
  hd : ∀ i, i < n → fs[i]? = some ((ch i).headD 0)
  sg : ∀ i, Sg lk 0 (ch i) 0
  nd : ∀ i, (ch i).Nodup
  dj : ∀ i j a, a ∈ ch i → a ∈ ch j → i = j
  pos : ∀ i a, a ∈ ch i → 0 < a
theorem frst_eq {lk lk' : List (Nat × Nat)} {f p : Nat} : ∀ {L : List Nat} {a q : Nat}, f ∉ L → Sg lk a L q → Sg (frst lk f p) a L q := fun {L a q} h h1 => by
  unfold frst; split
  · exact h1
  · exact Sg.set h h1
theorem lst_eq {lk lk' : List (Nat × Nat)} {f p : Nat} : ∀ {L : List Nat} {a q : Nat}, f ∉ L → Sg lk a L q → Sg (lst lk f p) a L q := fun {L a q} h h1 => by
  unfold lst; split
  · exact h1
  · exact Sg.set h h1
theorem headD_mem {Y : List Nat} (h : Y.headD 0 ≠ 0) : Y.headD 0 ∈ Y := by cases Y <;> simp_all
theorem lastD_mem {X : List Nat} (h : X.getLastD 0 ≠ 0) : X.getLastD 0 ∈ X := by
  rcases List.eq_nil_or_concat X with e | ⟨X', x, e⟩
  · subst e; simp at h
  · rw [List.concat_eq_append] at e; subst e; simp
theorem frst_zero (lk : List (Nat × Nat)) (p : Nat) : frst lk 0 p = lk := by simp [frst]
theorem lst_zero (lk : List (Nat × Nat)) (p : Nat) : lst lk 0 p = lk := by simp [lst]
theorem frst_off {lk : List (Nat × Nat)} {Y L : List Nat} {p a q : Nat} (hd : ∀ x ∈ Y, x ∉ L) (h : Sg lk a L q) : Sg (frst lk (Y.headD 0) p) a L q := by
  by_cases e : Y.headD 0 = 0
  · rw [e, frst_zero]; exact h
  · exact frst_eq (lk' := lk) (hd _ (headD_mem e)) h
theorem lst_off {lk : List (Nat × Nat)} {X L : List Nat} {p a q : Nat} (hd : ∀ x ∈ X, x ∉ L) (h : Sg lk a L q) : Sg (lst lk (X.getLastD 0) p) a L q := by
  by_cases e : X.getLastD 0 = 0
  · rw [e, lst_zero]; exact h
  · exact lst_eq (lk' := lk) (hd _ (lastD_mem e)) h
section
variable {n : Nat} {lk : List (Nat × Nat)} {fs : List Nat} {ch : Nat → List Nat}
theorem Cn.at' (h : Cn n lk fs ch) {i a : Nat} {X Y : List Nat} (hi : ch i = X ++ a :: Y) : lk[a]? = some (Y.headD 0, X.getLastD 0) ∧ Sg lk 0 X a ∧ Sg lk a Y 0 := by
  have h1 := h.sg i
  rw [hi, Sg.app] at h1
  exact ⟨h1.2.1, h1.1, h1.2.2⟩
theorem Cn.strike (h : Cn n lk fs ch) {i a : Nat} {X Y : List Nat} (hin : i < n) (hi : ch i = X ++ a :: Y) : Cn n (skL lk a) (skF lk fs a i) (fupd ch i (X ++ Y)) := by
  obtain ⟨ha, hX, hY⟩ := h.at' hi
  have hnd := h.nd i
  rw [hi] at hnd
  obtain ⟨n1, n2, n3⟩ := List.nodup_append.1 hnd
  obtain ⟨n4, n5⟩ := List.nodup_cons.1 n2
  have inX : ∀ x ∈ X, x ∈ ch i := fun x hx => by rw [hi]; simp [hx]
  have inY : ∀ x ∈ Y, x ∈ ch i := fun x hx => by rw [hi]; simp [hx]
  have dXY : ∀ x ∈ X, x ∉ Y := fun x hx hy => n3 x hx x (by simp [hy]) rfl
  have eL : skL lk a = lst (frst lk (Y.headD 0) (X.getLastD 0)) (X.getLastD 0) (Y.headD 0) := by unfold skL; rw [getD_of ha]
  have eF : skF lk fs a i = if X.getLastD 0 = 0 then fs.set i (Y.headD 0) else fs := by unfold skF; rw [getD_of ha]
  refine ⟨by rw [skF_len]; exact h.len, fun j hj => ?_, fun j => ?_, fun j => ?_, fun j k b hb hc => ?_, fun j b hb => ?_⟩
  · rw [eF]
    by_cases e : j = i
    · subst e
      rw [fupd_self]
      split
      · rename_i e0
        have : X = [] := by
          rcases List.eq_nil_or_concat X with e | ⟨X', x, e⟩
          · exact e
          · exfalso
            have : X.getLastD 0 ∈ X := by rw [e, List.concat_eq_append]; simp
            have := h.pos j _ (inX _ this)
            omega
        subst this
        have := h.len
        rw [List.getElem?_set_self (by omega)]; rfl
      · rename_i e0
        rw [h.hd j hj, hi, headD_app, headD_app]
        cases X with
        | nil => simp at e0
        | cons x X => rfl
    · rw [fupd_ne _ _ e]
      split
      · rw [List.getElem?_set_ne (fun e2 => e e2.symm)]; exact h.hd j hj
      · exact h.hd j hj
  · rw [eL]
    by_cases e : j = i
    · subst e
      rw [fupd_self, Sg.app]
      have hY1 : Sg (Go.Proofs.YtcblejbdoegckaaDoor.frst lk (Y.headD 0) (X.getLastD 0)) (X.getLastD 0) Y 0 := hY.frst n5 fun y hy => h.pos j y (inY y hy)
      have hX1 : Sg (Go.Proofs.YtcblejbdoegckaaDoor.frst lk (Y.headD 0) (X.getLastD 0)) 0 X a := frst_off (fun x hx hx2 => dXY x hx2 hx) hX
      exact ⟨hX1.lst n1 fun y hy => h.pos j y (inX y hy), lst_off dXY hY1⟩
    · rw [fupd_ne _ _ e]
      exact lst_off (fun x hx hx2 => e (h.dj j i x hx2 (inX x hx))) (frst_off (fun x hx hx2 => e (h.dj j i x hx2 (inY x hx))) (h.sg j))
  · by_cases e : j = i
    · subst e; rw [fupd_self]
      exact List.nodup_append.2 ⟨n1, n5, fun x hx y hy e => n3 x hx y (by simp [hy]) e⟩
    · rw [fupd_ne _ _ e]; exact h.nd j
  · have key : ∀ j b, b ∈ fupd ch i (X ++ Y) j → b ∈ ch j := fun j b hb => by
      by_cases e : j = i
      · subst e; rw [fupd_self] at hb
        rcases List.mem_append.1 hb with c | c
        · exact inX _ c
        · exact inY _ c
      · rwa [fupd_ne _ _ e] at hb
    exact h.dj j k b (key j b hb) (key k b hc)
  · by_cases e : j = i
    · subst e; rw [fupd_self] at hb
      rcases List.mem_append.1 hb with c | c
      · exact h.pos _ _ (inX _ c)
      · exact h.pos _ _ (inY _ c)
    · rw [fupd_ne _ _ e] at hb; exact h.pos _ _ hb
theorem Cn.enlist (h : Cn n lk fs ch) {i a : Nat} (hin : i < n) (ha : ∀ j, a ∉ ch j) (h0 : 0 < a) (hlt : a < lk.length) : Cn n (enL lk ((ch i).headD 0) a) (fs.set i a) (fupd ch i (a :: ch i)) := by
  refine ⟨by simp [h.len], fun j hj => ?_, fun j => ?_, fun j => ?_, fun j k b hb hc => ?_, fun j b hb => ?_⟩
  · by_cases e : j = i
    · subst e; have := h.len; rw [fupd_self, List.getElem?_set_self (by omega)]; rfl
    · rw [fupd_ne _ _ e, List.getElem?_set_ne (fun e2 => e e2.symm)]; exact h.hd j hj
  · unfold enL
    by_cases e : j = i
    · subst e
      rw [fupd_self]
      have h1 : Sg (lk.set a ((ch j).headD 0, 0)) 0 (ch j) 0 := Sg.set (ha j) (h.sg j)
      refine ⟨?_, h1.frst (h.nd j) fun y hy => h.pos j y hy⟩
      unfold Go.Proofs.YtcblejbdoegckaaDoor.frst
      split
      · simp [hlt]
      · rename_i e0
        rw [List.getElem?_set_ne (fun e2 => ha j (by rw [← e2]; exact headD_mem e0))]
        simp [hlt]
    · rw [fupd_ne _ _ e]
      exact frst_off (fun x hx hx2 => e (h.dj j i x hx2 hx)) (Sg.set (ha j) (h.sg j))
  · by_cases e : j = i
    · subst e; rw [fupd_self]; exact List.nodup_cons.2 ⟨ha j, h.nd j⟩
    · rw [fupd_ne _ _ e]; exact h.nd j
  · have key : ∀ j b, b ∈ fupd ch i (a :: ch i) j → (b = a ∧ j = i) ∨ b ∈ ch j := fun j b hb => by
      by_cases e : j = i
      · subst e; rw [fupd_self] at hb
        rcases List.mem_cons.1 hb with c | c
        · exact .inl ⟨c, rfl⟩
        · exact .inr c
      · rw [fupd_ne _ _ e] at hb; exact .inr hb
    rcases key j b hb with ⟨c1, c2⟩ | c1 <;> rcases key k b hc with ⟨d1, d2⟩ | d1
    · rw [c2, d2]
    · exact absurd d1 (by rw [c1]; exact ha k)
    · exact absurd c1 (by rw [d1]; exact ha j)
    · exact h.dj j k b c1 d1
  · by_cases e : j = i
    · subst e; rw [fupd_self] at hb
      rcases List.mem_cons.1 hb with c | c
      · omega
      · exact h.pos _ _ c
    · rw [fupd_ne _ _ e] at hb; exact h.pos _ _ hb
end
end Go.Proofs.YtcblejbdoegckaaDoor
