/-
  Rows of stanzas of a call's own; the state of the document's Read, between its lines (pure part and memory).
  KEEP: Ap put_app step_append_apk len below nil form rd mono on app start at new trans refl kept own row out grown rdz set one more lt size cell some none letL tail next step go add put del get look no yes e c f b k n m box take each block shape os tape output setCell heap alloc addr last blk drew
-/
import Derived.Test.YtblkhkfjaggnfaaDoorCtQ
set_option linter.unusedSimpArgs false
set_option linter.unusedVariables false
namespace Go.Proofs.YtblkhkfjaggnfaaDoor
open Go Go.RowKit

/-- what Read comes to, from a line on: its number, the stanzas that are done, the one that is being read -/
def rdS : List (List UInt8) → Int → List Stz → Stz → Except (Int × Int) (List Stz)
  | [], _, out, now => .ok (if now.2 = [] then out else out ++ [now])
  | line :: r, at', out, now =>
    if fairF false line = false then .error (212, at')
    else if trF line = [] then rdS r (at' + 1) (if now.2 = [] then out else out ++ [now]) (0, [])
    else if line.head? = some 35 then rdS r (at' + 1) out now
    else match stepP now line at' with
      | .error e => .error (e, at')
      | .ok n => rdS r (at' + 1) out n
def rdF21 (s : List UInt8) : Except (Int × Int) (List Stz) := rdS (lnsF s []) 1 [] (0, [])
/-- how much lines hold, their ends with them -/
def totL : List (List UInt8) → Nat
  | [] => 0
  | l :: r => l.length + 1 + totL r
theorem tot_lns : ∀ (s cur : List UInt8), totL (lnsF s cur) ≤ s.length + cur.length + 1
  | [], cur => by
    rw [lnsF]; split <;> simp [totL]
  | b :: r, cur => by
    rw [lnsF]
    split
    · have := tot_lns r []; simp [totL] at this ⊢; omega
    · have := tot_lns r (cur ++ [b]); simp at this ⊢; omega
theorem len_lns : ∀ (s cur : List UInt8), (lnsF s cur).length ≤ s.length + 1
  | [], cur => by
    rw [lnsF]; split <;> simp
  | b :: r, cur => by
    rw [lnsF]
    split
    · have := len_lns r []; simp; omega
    · have := len_lns r (cur ++ [b]); simp; omega
theorem setL_len : ∀ (fs : List Fld) (g : List UInt8 → List UInt8), (setL fs g).length = fs.length
  | [], _ => rfl
  | [f], _ => rfl
  | f :: f2 :: r, g => by
    have ih := setL_len (f2 :: r) g
    rw [setL]
    · simp [ih]
    · simp
theorem setL_mem : ∀ {fs : List Fld} {g : List UInt8 → List UInt8} {x : Fld}, x ∈ setL fs g → ∃ f ∈ fs, x = f ∨ x = (f.1, g f.2)
  | [], g, x, h => by simp [setL] at h
  | [f], g, x, h => by simp [setL] at h; exact ⟨f, by simp, .inr h⟩
  | f :: f2 :: r, g, x, h => by
    rw [setL] at h
    · rcases List.mem_cons.1 h with rfl | h
      · exact ⟨_, List.mem_cons_self .., .inl rfl⟩
      · obtain ⟨f', h1, h2⟩ := setL_mem h
        exact ⟨f', List.mem_cons_of_mem _ h1, h2⟩
    · simp
theorem stepP_size {ln : Int} {fs : List Fld} {line : List UInt8} {at' : Int} {n : Stz} {U : Nat} (h : stepP (ln, fs) line at' = .ok n) (hU : ∀ f ∈ fs, f.1.length ≤ U ∧ f.2.length ≤ U) :
    (∀ f ∈ n.2, f.1.length ≤ U + line.length + 1 ∧ f.2.length ≤ U + line.length + 1) ∧ n.2.length ≤ fs.length + 1 := by
  unfold stepP at h
  have ht := trF_le line
  split at h
  · split at h
    · cases h
    · injection h with h
      subst h
      refine ⟨fun x hx => ?_, by show (setL fs _).length ≤ _; rw [setL_len]; omega⟩
      obtain ⟨f, hf, rfl | rfl⟩ := setL_mem hx
      · have := hU _ hf; omega
      · obtain ⟨h1, h2⟩ := hU _ hf
        exact ⟨by show f.1.length ≤ _; omega, by show (f.2 ++ 10 :: trF line).length ≤ _; rw [List.length_append, List.length_cons]; omega⟩
  · split at h
    · cases h
    · split at h
      · cases h
      · injection h with h
        subst h
        refine ⟨fun x hx => ?_, by simp⟩
        rcases List.mem_append.1 hx with hx | hx
        · have := hU _ hx; omega
        · obtain rfl := List.mem_singleton.1 hx
          have h2 := trF_le (line.drop ((Lib.indexByte line 58).toNat + 1))
          simp at h2 ⊢
          omega

theorem stepP_err {now : Stz} {line : List UInt8} {at' e : Int} (h : stepP now line at' = .error e) : (e == 0) = false ∧ (e != 0) = true := by
  unfold stepP at h
  split at h
  · split at h
    · injection h with h; subst h; exact ⟨rfl, rfl⟩
    · cases h
  · split at h
    · injection h with h; subst h; exact ⟨rfl, rfl⟩
    · split at h
      · injection h with h; subst h; exact ⟨rfl, rfl⟩
      · cases h
abbrev SG := Int × Value × List Fld
def sgC (L : List SG) : List Value := L.flatMap (fun x => [.int .i64 x.1, x.2.1])
def sgS (L : List SG) : List Stz := L.map (fun x => (x.1, x.2.2))
theorem sgC_len (L : List SG) : (sgC L).length = L.length * 2 := by
  induction L with
  | nil => rfl
  | cons x r ih => simp only [sgC, List.flatMap_cons, List.length_append, List.length_cons, List.length_nil] at ih ⊢; omega
theorem sgC_snoc (L : List SG) (x : SG) : sgC (L ++ [x]) = sgC L ++ [.int .i64 x.1, x.2.1] := by simp [sgC]
theorem sgS_snoc (L : List SG) (x : SG) : sgS (L ++ [x]) = sgS L ++ [(x.1, x.2.2)] := by simp [sgS]
def apG (a b : Value) : Prop := ∀ g, a.ownBlock = some g → b.ownBlock ≠ some g
/-- a row of stanzas that a call owns, the fields of each its own and apart from the others -/
structure OwnSt (B : Nat) (W : World) (s : Value) (L : List SG) : Prop where
  row : W.ownsRow B 35 2 s L.length (sgC L)
  own : ∀ x ∈ L, OwnG B W x.2.1 x.2.2
  ap : L.Pairwise (fun x y => apG x.2.1 y.2.1)
theorem OwnSt.nil (B : Nat) (W : World) : OwnSt B W (.slice none 0 0) [] := ⟨World.ownsRow_nil _ _ _ _, fun x hx => (by cases hx), List.Pairwise.nil⟩
theorem OwnSt.mono {B B' : Nat} {W : World} {s : Value} {L : List SG} (h : OwnSt B W s L) (hb : B' ≤ B) : OwnSt B' W s L := ⟨row_mono h.row hb, fun x hx => row_mono (h.own x hx) hb, h.ap⟩
theorem rowT_kept {W W' : World} {B : Nat} {s : Value} {n : Nat} {xs : List Value} {T : TypeId} {sz : Nat} (h : W.ownsRow B T sz s n xs) (hk : ∀ k, s.ownBlock = some k → W'.heap[k]? = W.heap[k]?) : W'.ownsRow B T sz s n xs := by
  refine ⟨h.1, ?_⟩
  rcases h.2 with h2 | ⟨g, cap, cur, rfl, hg, hh, r⟩
  · exact .inl h2
  · exact .inr ⟨g, cap, cur, rfl, hg, (hk g rfl).trans hh, r⟩
theorem row_ty21 {W : World} {B : Nat} {s : Value} {n : Nat} {xs : List Value} {T : TypeId} {sz : Nat} (h : W.ownsRow B T sz s n xs) {g : Nat} (hg : s.ownBlock = some g) : ∃ cs f, W.heap[g]? = some (.cells cs T f) := by
  rcases h.2 with ⟨rfl, _⟩ | ⟨g', cap, cur, rfl, _, hh, _⟩
  · cases hg
  · have : g' = g := by simpa [Value.ownBlock] using hg
    subst this
    exact ⟨_, _, hh⟩
/-- rows of unlike types lie apart -/
theorem ty_apart21 {W : World} {g : Nat} {T T' : TypeId} (h : ∃ cs f, W.heap[g]? = some (.cells cs T f)) (h' : ∃ cs f, W.heap[g]? = some (.cells cs T' f)) : T = T' := by
  obtain ⟨c, f, e⟩ := h
  obtain ⟨c', f', e'⟩ := h'
  rw [e] at e'
  injection e' with e'
  injection e'

/-- between two lines: what is done, the stanza that is being read in its box D -/
structure St21 (B : Nat) (W : World) (s : Value) (L : List SG) (D : Nat) (ln : Int) (v : Value) (fs : List Fld) : Prop where
  t : OwnSt B W s L
  z : Bz W D ln v
  g : OwnG B W v fs
  ap : ∀ x ∈ L, apG x.2.1 v
  nd : s.ownBlock ≠ some D
section
variable {B D : Nat} {W W' : World} {s v v' : Value} {L : List SG} {ln ln' : Int} {fs fs' : List Fld}
/-- old blocks of the state are as they were -/
theorem St21.keep (h : St21 B W s L D ln v fs) (hk : ∀ k, k < W.heap.size → W'.heap[k]? = W.heap[k]?) : St21 B W' s L D ln v fs :=
  ⟨⟨rowT_kept h.t.row fun k e => hk k (World.ownsRow.lt h.t.row k e).2, fun x hx => row_kept21 (h.t.own x hx) fun k e => hk k ((h.t.own x hx).own k e).2, h.t.ap⟩, (hk D h.z.lt).trans h.z, row_kept21 h.g fun k e => hk k (h.g.own k e).2, h.ap, h.nd⟩
theorem St21.blw (h : St21 B W s L D ln v fs) (hb : Below W.heap.size W W') : St21 B W' s L D ln v fs := h.keep fun k hk => hb.block k hk
/-- a line has been put to the stanza -/
theorem St21.putS (h : St21 B W s L D ln v fs) (hg : W.grownBy W' v.ownBlock) (ho : OwnG B W' v' fs') (hn : v'.ownBlock = v.ownBlock ∨ ∀ g, v'.ownBlock = some g → W.heap.size ≤ g) :
    OwnSt B W' s L ∧ (∀ x ∈ L, apG x.2.1 v') ∧ Bz W' D ln v := by
  have tyv : ∀ g, v.ownBlock = some g → ∃ cs f, W.heap[g]? = some (.cells cs 37 f) := fun g e => row_ty21 h.g e
  refine ⟨⟨rowT_kept h.t.row fun k e => hg.block k (World.ownsRow.lt h.t.row k e).2 fun e2 => ?_, fun x hx => row_kept21 (h.t.own x hx) fun k e => hg.block k ((h.t.own x hx).own k e).2 fun e2 => ?_, h.t.ap⟩, fun x hx g e e2 => ?_, (hg.block D h.z.lt fun e2 => ?_).trans h.z⟩
  · exact absurd (ty_apart21 (row_ty21 h.t.row e) (tyv k e2.symm)) (by decide)
  · exact h.ap x hx k e e2.symm
  · rcases hn with hn | hn
    · exact h.ap x hx g e (hn ▸ e2)
    · have := hn g e2
      have := ((h.t.own x hx).own g e).2
      omega
  · exact absurd (ty_apart21 ⟨_, _, h.z⟩ (tyv D e2.symm)) (by decide)
/-- the box is filled anew -/
theorem bz_both (h : Bz W D ln v) (x : Int) (y : Value) : Bz ((W.setCell ⟨D, 0, none⟩ (.int .i64 x)).setCell ⟨D, 1, none⟩ y) D x y := (h.s0 x).s1 y
theorem far2 (D : Nat) (y z : Value) (k : Nat) (hk : k ≠ D) : ((W.setCell ⟨D, 0, none⟩ y).setCell ⟨D, 1, none⟩ z).heap[k]? = W.heap[k]? := (Below.heap_setCell _ _ _ _ (by simpa using hk)).trans (Below.heap_setCell _ _ _ _ (by simpa using hk))
/-- what the box holds is replaced -/
theorem St21.box (ht : OwnSt B W s L) (hz : Bz W D ln v) (ho : OwnG B W v' fs') (hap : ∀ x ∈ L, apG x.2.1 v') (hnd : s.ownBlock ≠ some D) :
    St21 B ((W.setCell ⟨D, 0, none⟩ (.int .i64 ln')).setCell ⟨D, 1, none⟩ v') s L D ln' v' fs' := by
  have nf : ∀ {u : Value} {gs : List Fld}, OwnG B W u gs → ∀ g, u.ownBlock = some g → g ≠ D := fun hu g e e2 => by
    subst e2
    exact absurd (ty_apart21 (row_ty21 hu e) ⟨_, _, hz⟩) (by decide)
  exact ⟨⟨rowT_kept ht.row fun k e => far2 D _ _ k (fun e2 => hnd (e2 ▸ e)), fun x hx => row_kept21 (ht.own x hx) fun k e => far2 D _ _ k (nf (ht.own x hx) k e), ht.ap⟩, bz_both hz _ _, row_kept21 ho fun k e => far2 D _ _ k (nf ho k e), hap, hnd⟩
/-- the stanza is done: it stands behind the others, and the box is empty -/
theorem St21.done {w8 : World} {s8 : Value} {o : Obj} (h : St21 B W s L D ln v fs) (own8 : w8.ownsRow B 35 2 s8 (L.length + 1) (sgC L ++ [.int .i64 ln, v])) (ap8 : Ap (W.alloc o) s w8 s8) :
    OwnSt B w8 s8 (L ++ [(ln, v, fs)]) ∧ Bz w8 D ln v ∧ s8.ownBlock ≠ some D ∧ ∃ a8 c8, s8 = .slice a8 (L.length + 1) c8 := by
  have hsn : (W.alloc o).heap.size = W.heap.size + 1 := by simp
  have tys : ∀ g, s.ownBlock = some g → ∃ cs f, W.heap[g]? = some (.cells cs 35 f) := fun g e => row_ty21 h.t.row e
  have hk : ∀ k, k < W.heap.size → some k ≠ s.ownBlock → w8.heap[k]? = W.heap[k]? := fun k hk hne => (ap8.grown.block k (by rw [hsn]; omega) hne).trans (Below.heap_alloc W o k hk)
  have nf : ∀ {u : Value} {gs : List Fld}, OwnG B W u gs → OwnG B w8 u gs := fun hu => row_kept21 hu fun k e => hk k (hu.own k e).2 fun e2 => absurd (ty_apart21 (row_ty21 hu e) (tys k e2.symm)) (by decide)
  refine ⟨⟨by rw [sgC_snoc]; simpa using own8, fun x hx => ?_, ?_⟩, (hk D h.z.lt fun e => h.nd e.symm).trans h.z, fun e => ?_, row_form21 own8⟩
  · rcases List.mem_append.1 hx with hx | hx
    · exact nf (h.t.own x hx)
    · obtain rfl := List.mem_singleton.1 hx
      exact nf h.g
  · rw [List.pairwise_append]
    refine ⟨h.t.ap, List.pairwise_singleton _ _, fun x hx y hy => ?_⟩
    obtain rfl := List.mem_singleton.1 hy
    exact h.ap x hx
  · rcases ap8.new with h2 | h2
    · exact h.nd (h2 ▸ e)
    · have h3 := h2 D e
      have h4 := h.z.lt
      rw [hsn] at h3
      omega
end
theorem infoZt : (Tryd.prog.info? 35).map (fun i => (i.zero, i.size, i.bytes)) = some (some (.agg #[.int .i64 0, .slice none 0 0]), 2, 32) := by kernel_rfl
/-- what Read answers -/
def RdAns (B : Nat) (w w' : World) (e : Ending) : Except (Int × Int) (List Stz) → Prop
  | .error p => e = .returned (.tuple #[.slice none 0 0, .int .i64 p.1, .int .i64 p.2]) ∧ Below B w w'
  | .ok l => ∃ s L, e = .returned (.tuple #[s, .int .i64 0, .int .i64 0]) ∧ OwnSt B w' s L ∧ sgS L = l ∧ Below B w w'

end Go.Proofs.YtblkhkfjaggnfaaDoor
