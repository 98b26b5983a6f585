/-
  joined: CtR ApF CoA CtS
-/
import Derived.Test.YtbeaoekbppdlmaaDoorKCtQ
set_option linter.unusedSimpArgs false
set_option linter.unusedVariables false
namespace Go.Proofs.YtbeaoekbppdlmaaDoor
open Go Go.RowKit

/-- what Read comes to, from a line on: its number, the stanzas that are done, the one that is being read -/
def rdS : List (List UInt8) → Int → List Stz → Stz → Except (Int × Int) (List Stz)
  | [], _, out, now => .ok (if now.2 = [] then out else out ++ [now])
  | line :: r, at', out, now =>
    if fairF false line = false then .error (212, at')
    else if trF line = [] then rdS r (at' + 1) (if now.2 = [] then out else out ++ [now]) (0, [])
    else if line.head? = some 35 then rdS r (at' + 1) out now
    else match stepP now line at' with
      | .error e => .error (e, at')
      | .ok n => rdS r (at' + 1) out n
def rdF21 (s : List UInt8) : Except (Int × Int) (List Stz) := rdS (lnsF s []) 1 [] (0, [])
/-- how much lines hold, their ends with them -/
def totL : List (List UInt8) → Nat
  | [] => 0
  | l :: r => l.length + 1 + totL r
theorem tot_lns : ∀ (s cur : List UInt8), totL (lnsF s cur) ≤ s.length + cur.length + 1
  | [], cur => by
    rw [lnsF]; split <;> simp [totL]
  | b :: r, cur => by
    rw [lnsF]
    split
    · have := tot_lns r []; simp [totL] at this ⊢; omega
    · have := tot_lns r (cur ++ [b]); simp at this ⊢; omega
theorem len_lns : ∀ (s cur : List UInt8), (lnsF s cur).length ≤ s.length + 1
  | [], cur => by
    rw [lnsF]; split <;> simp
  | b :: r, cur => by
    rw [lnsF]
    split
    · have := len_lns r []; simp; omega
    · have := len_lns r (cur ++ [b]); simp; omega
theorem setL_len : ∀ (fs : List Fld) (g : List UInt8 → List UInt8), (setL fs g).length = fs.length
  | [], _ => rfl
  | [f], _ => rfl
  | f :: f2 :: r, g => by
    have ih := setL_len (f2 :: r) g
    rw [setL]
    · simp [ih]
    · simp
theorem setL_mem : ∀ {fs : List Fld} {g : List UInt8 → List UInt8} {x : Fld}, x ∈ setL fs g → ∃ f ∈ fs, x = f ∨ x = (f.1, g f.2)
  | [], g, x, h => by simp [setL] at h
  | [f], g, x, h => by simp [setL] at h; exact ⟨f, by simp, .inr h⟩
  | f :: f2 :: r, g, x, h => by
    rw [setL] at h
    · rcases List.mem_cons.1 h with rfl | h
      · exact ⟨_, List.mem_cons_self .., .inl rfl⟩
      · obtain ⟨f', h1, h2⟩ := setL_mem h
        exact ⟨f', List.mem_cons_of_mem _ h1, h2⟩
    · simp
theorem stepP_size {ln : Int} {fs : List Fld} {line : List UInt8} {at' : Int} {n : Stz} {U : Nat} (h : stepP (ln, fs) line at' = .ok n) (hU : ∀ f ∈ fs, f.1.length ≤ U ∧ f.2.length ≤ U) :
    (∀ f ∈ n.2, f.1.length ≤ U + line.length + 1 ∧ f.2.length ≤ U + line.length + 1) ∧ n.2.length ≤ fs.length + 1 := by
  unfold stepP at h
  have ht := trF_le line
  split at h
  · split at h
    · cases h
    · injection h with h
      subst h
      refine ⟨fun x hx => ?_, by show (setL fs _).length ≤ _; rw [setL_len]; omega⟩
      obtain ⟨f, hf, rfl | rfl⟩ := setL_mem hx
      · have := hU _ hf; omega
      · obtain ⟨h1, h2⟩ := hU _ hf
        exact ⟨by show f.1.length ≤ _; omega, by show (f.2 ++ 10 :: trF line).length ≤ _; rw [List.length_append, List.length_cons]; omega⟩
  · split at h
    · cases h
    · split at h
      · cases h
      · injection h with h
        subst h
        refine ⟨fun x hx => ?_, by simp⟩
        rcases List.mem_append.1 hx with hx | hx
        · have := hU _ hx; omega
        · obtain rfl := List.mem_singleton.1 hx
          have h2 := trF_le (line.drop ((Lib.indexByte line 58).toNat + 1))
          simp at h2 ⊢
          omega

theorem stepP_err {now : Stz} {line : List UInt8} {at' e : Int} (h : stepP now line at' = .error e) : (e == 0) = false ∧ (e != 0) = true := by
  unfold stepP at h
  split at h
  · split at h
    · injection h with h; subst h; exact ⟨rfl, rfl⟩
    · cases h
  · split at h
    · injection h with h; subst h; exact ⟨rfl, rfl⟩
    · split at h
      · injection h with h; subst h; exact ⟨rfl, rfl⟩
      · cases h
abbrev SG := Int × Value × List Fld
def sgC (L : List SG) : List Value := L.flatMap (fun x => [.int .i64 x.1, x.2.1])
def sgS (L : List SG) : List Stz := L.map (fun x => (x.1, x.2.2))
theorem sgC_len (L : List SG) : (sgC L).length = L.length * 2 := by
  induction L with
  | nil => rfl
  | cons x r ih => simp only [sgC, List.flatMap_cons, List.length_append, List.length_cons, List.length_nil] at ih ⊢; omega
theorem sgC_snoc (L : List SG) (x : SG) : sgC (L ++ [x]) = sgC L ++ [.int .i64 x.1, x.2.1] := by simp [sgC]
theorem sgS_snoc (L : List SG) (x : SG) : sgS (L ++ [x]) = sgS L ++ [(x.1, x.2.2)] := by simp [sgS]
def apG (a b : Value) : Prop := ∀ g, a.ownBlock = some g → b.ownBlock ≠ some g
/-- a row of stanzas that a call owns, the fields of each its own and apart from the others -/
structure OwnSt (B : Nat) (W : World) (s : Value) (L : List SG) : Prop where
  row : W.ownsRow B 35 2 s L.length (sgC L)
  own : ∀ x ∈ L, OwnG B W x.2.1 x.2.2
  ap : L.Pairwise (fun x y => apG x.2.1 y.2.1)
theorem OwnSt.nil (B : Nat) (W : World) : OwnSt B W (.slice none 0 0) [] := ⟨World.ownsRow_nil _ _ _ _, fun x hx => (by cases hx), List.Pairwise.nil⟩
theorem OwnSt.mono {B B' : Nat} {W : World} {s : Value} {L : List SG} (h : OwnSt B W s L) (hb : B' ≤ B) : OwnSt B' W s L := ⟨row_mono h.row hb, fun x hx => row_mono (h.own x hx) hb, h.ap⟩
theorem rowT_kept {W W' : World} {B : Nat} {s : Value} {n : Nat} {xs : List Value} {T : TypeId} {sz : Nat} (h : W.ownsRow B T sz s n xs) (hk : ∀ k, s.ownBlock = some k → W'.heap[k]? = W.heap[k]?) : W'.ownsRow B T sz s n xs := by
  refine ⟨h.1, ?_⟩
  rcases h.2 with h2 | ⟨g, cap, cur, rfl, hg, hh, r⟩
  · exact .inl h2
  · exact .inr ⟨g, cap, cur, rfl, hg, (hk g rfl).trans hh, r⟩
theorem row_ty21 {W : World} {B : Nat} {s : Value} {n : Nat} {xs : List Value} {T : TypeId} {sz : Nat} (h : W.ownsRow B T sz s n xs) {g : Nat} (hg : s.ownBlock = some g) : ∃ cs f, W.heap[g]? = some (.cells cs T f) := by
  rcases h.2 with ⟨rfl, _⟩ | ⟨g', cap, cur, rfl, _, hh, _⟩
  · cases hg
  · have : g' = g := by simpa [Value.ownBlock] using hg
    subst this
    exact ⟨_, _, hh⟩
/-- rows of unlike types lie apart -/
theorem ty_apart21 {W : World} {g : Nat} {T T' : TypeId} (h : ∃ cs f, W.heap[g]? = some (.cells cs T f)) (h' : ∃ cs f, W.heap[g]? = some (.cells cs T' f)) : T = T' := by
  obtain ⟨c, f, e⟩ := h
  obtain ⟨c', f', e'⟩ := h'
  rw [e] at e'
  injection e' with e'
  injection e'

/-- between two lines: what is done, the stanza that is being read in its box D -/
structure St21 (B : Nat) (W : World) (s : Value) (L : List SG) (D : Nat) (ln : Int) (v : Value) (fs : List Fld) : Prop where
  t : OwnSt B W s L
  z : Bz W D ln v
  g : OwnG B W v fs
  ap : ∀ x ∈ L, apG x.2.1 v
  nd : s.ownBlock ≠ some D
section
variable {B D : Nat} {W W' : World} {s v v' : Value} {L : List SG} {ln ln' : Int} {fs fs' : List Fld}
/-- old blocks of the state are as they were -/
theorem St21.keep (h : St21 B W s L D ln v fs) (hk : ∀ k, k < W.heap.size → W'.heap[k]? = W.heap[k]?) : St21 B W' s L D ln v fs :=
  ⟨⟨rowT_kept h.t.row fun k e => hk k (World.ownsRow.lt h.t.row k e).2, fun x hx => row_kept21 (h.t.own x hx) fun k e => hk k ((h.t.own x hx).own k e).2, h.t.ap⟩, (hk D h.z.lt).trans h.z, row_kept21 h.g fun k e => hk k (h.g.own k e).2, h.ap, h.nd⟩
theorem St21.blw (h : St21 B W s L D ln v fs) (hb : Below W.heap.size W W') : St21 B W' s L D ln v fs := h.keep fun k hk => hb.block k hk
/-- a line has been put to the stanza -/
theorem St21.putS (h : St21 B W s L D ln v fs) (hg : W.grownBy W' v.ownBlock) (ho : OwnG B W' v' fs') (hn : v'.ownBlock = v.ownBlock ∨ ∀ g, v'.ownBlock = some g → W.heap.size ≤ g) :
    OwnSt B W' s L ∧ (∀ x ∈ L, apG x.2.1 v') ∧ Bz W' D ln v := by
  have tyv : ∀ g, v.ownBlock = some g → ∃ cs f, W.heap[g]? = some (.cells cs 50 f) := fun g e => row_ty21 h.g e
  refine ⟨⟨rowT_kept h.t.row fun k e => hg.block k (World.ownsRow.lt h.t.row k e).2 fun e2 => ?_, fun x hx => row_kept21 (h.t.own x hx) fun k e => hg.block k ((h.t.own x hx).own k e).2 fun e2 => ?_, h.t.ap⟩, fun x hx g e e2 => ?_, (hg.block D h.z.lt fun e2 => ?_).trans h.z⟩
  · exact absurd (ty_apart21 (row_ty21 h.t.row e) (tyv k e2.symm)) (by decide)
  · exact h.ap x hx k e e2.symm
  · rcases hn with hn | hn
    · exact h.ap x hx g e (hn ▸ e2)
    · have := hn g e2
      have := ((h.t.own x hx).own g e).2
      omega
  · exact absurd (ty_apart21 ⟨_, _, h.z⟩ (tyv D e2.symm)) (by decide)
/-- the box is filled anew -/
theorem bz_both (h : Bz W D ln v) (x : Int) (y : Value) : Bz ((W.setCell ⟨D, 0, none⟩ (.int .i64 x)).setCell ⟨D, 1, none⟩ y) D x y := (h.s0 x).s1 y
theorem far2 (D : Nat) (y z : Value) (k : Nat) (hk : k ≠ D) : ((W.setCell ⟨D, 0, none⟩ y).setCell ⟨D, 1, none⟩ z).heap[k]? = W.heap[k]? := (Below.heap_setCell _ _ _ _ (by simpa using hk)).trans (Below.heap_setCell _ _ _ _ (by simpa using hk))
/-- what the box holds is replaced -/
theorem St21.box (ht : OwnSt B W s L) (hz : Bz W D ln v) (ho : OwnG B W v' fs') (hap : ∀ x ∈ L, apG x.2.1 v') (hnd : s.ownBlock ≠ some D) :
    St21 B ((W.setCell ⟨D, 0, none⟩ (.int .i64 ln')).setCell ⟨D, 1, none⟩ v') s L D ln' v' fs' := by
  have nf : ∀ {u : Value} {gs : List Fld}, OwnG B W u gs → ∀ g, u.ownBlock = some g → g ≠ D := fun hu g e e2 => by
    subst e2
    exact absurd (ty_apart21 (row_ty21 hu e) ⟨_, _, hz⟩) (by decide)
  exact ⟨⟨rowT_kept ht.row fun k e => far2 D _ _ k (fun e2 => hnd (e2 ▸ e)), fun x hx => row_kept21 (ht.own x hx) fun k e => far2 D _ _ k (nf (ht.own x hx) k e), ht.ap⟩, bz_both hz _ _, row_kept21 ho fun k e => far2 D _ _ k (nf ho k e), hap, hnd⟩
/-- the stanza is done: it stands behind the others, and the box is empty -/
theorem St21.done {w8 : World} {s8 : Value} {o : Obj} (h : St21 B W s L D ln v fs) (own8 : w8.ownsRow B 35 2 s8 (L.length + 1) (sgC L ++ [.int .i64 ln, v])) (ap8 : Ap (W.alloc o) s w8 s8) :
    OwnSt B w8 s8 (L ++ [(ln, v, fs)]) ∧ Bz w8 D ln v ∧ s8.ownBlock ≠ some D ∧ ∃ a8 c8, s8 = .slice a8 (L.length + 1) c8 := by
  have hsn : (W.alloc o).heap.size = W.heap.size + 1 := by simp
  have tys : ∀ g, s.ownBlock = some g → ∃ cs f, W.heap[g]? = some (.cells cs 35 f) := fun g e => row_ty21 h.t.row e
  have hk : ∀ k, k < W.heap.size → some k ≠ s.ownBlock → w8.heap[k]? = W.heap[k]? := fun k hk hne => (ap8.grown.block k (by rw [hsn]; omega) hne).trans (Below.heap_alloc W o k hk)
  have nf : ∀ {u : Value} {gs : List Fld}, OwnG B W u gs → OwnG B w8 u gs := fun hu => row_kept21 hu fun k e => hk k (hu.own k e).2 fun e2 => absurd (ty_apart21 (row_ty21 hu e) (tys k e2.symm)) (by decide)
  refine ⟨⟨by rw [sgC_snoc]; simpa using own8, fun x hx => ?_, ?_⟩, (hk D h.z.lt fun e => h.nd e.symm).trans h.z, fun e => ?_, row_form21 own8⟩
  · rcases List.mem_append.1 hx with hx | hx
    · exact nf (h.t.own x hx)
    · obtain rfl := List.mem_singleton.1 hx
      exact nf h.g
  · rw [List.pairwise_append]
    refine ⟨h.t.ap, List.pairwise_singleton _ _, fun x hx y hy => ?_⟩
    obtain rfl := List.mem_singleton.1 hy
    exact h.ap x hx
  · rcases ap8.new with h2 | h2
    · exact h.nd (h2 ▸ e)
    · have h3 := h2 D e
      have h4 := h.z.lt
      rw [hsn] at h3
      omega
end
theorem infoZt : (Tryd.prog.info? 35).map (fun i => (i.zero, i.size, i.bytes)) = some (some (.agg #[.int .i64 0, .slice none 0 0]), 2, 32) := by kernel_rfl
/-- what Read answers -/
def RdAns (B : Nat) (w w' : World) (e : Ending) : Except (Int × Int) (List Stz) → Prop
  | .error p => e = .returned (.tuple #[.slice none 0 0, .int .i64 p.1, .int .i64 p.2]) ∧ Below B w w'
  | .ok l => ∃ s L, e = .returned (.tuple #[s, .int .i64 0, .int .i64 0]) ∧ OwnSt B w' s L ∧ sgS L = l ∧ Below B w w'

end Go.Proofs.YtbeaoekbppdlmaaDoor
set_option linter.unusedSimpArgs false
set_option linter.unusedVariables false
namespace Go.Proofs.YtbeaoekbppdlmaaDoor
open Go Go.RowKit

theorem run_append_nil21 {P : Program} (w : World) (t ty e : TypeId) (i : TypeInfo) (c : Nat) (ht : P.underlying t = some (.slice e)) (hi : P.info? e = some i) :
    (Builtin.append_ #[t, t] ty #[.slice none 0 0, .slice none 0 c]).run P w = .ok (.slice none 0 0) w := by
  simp [Builtin.append_, run_underlying ht, sizeOf, typeInfo, hi, Builtin.lenOf, Builtin.firstCells]
theorem below_of_grown {w w' : World} (h : w.grownBy w' none) : Below w.heap.size w w' := ⟨h.os, h.tape, h.output, h.size, fun k hk => h.block k hk (by simp)⟩
/-- append of fields that are read onto nothing -/
theorem run_append_f (w : World) (ty : TypeId) (xv : Value) (fs : List Fld) (hr : RdG w xv fs) :
    ∃ v' w', (Builtin.append_ #[33, 33] ty #[.slice none 0 0, xv]).run Tryd.prog w = .ok v' w' ∧ OwnG w.heap.size w' v' fs ∧ Below w.heap.size w w' := by
  obtain ⟨il, hil, hzl0, hzl1, hzl2⟩ := info_parts infoG
  obtain ⟨h32, he, ad, c, rfl, hc, hm, h2⟩ := hr
  cases ad with
  | none =>
    have hl0 : fs = [] := by
      rcases Classical.em (fs = []) with h | h
      · exact h
      · obtain ⟨b, off, e, _⟩ := h2 h; cases e
    subst hl0
    exact ⟨_, _, run_append_nil21 (P := Tryd.prog) w 33 ty 50 il c Tryd.underlying33 hil, OwnG.nil _ _, Below.refl _ _⟩
  | some ad =>
    have hnews : ∀ j u, (fldC fs)[j]? = some u → w.cell? (ad.add j) = some u := by
      rcases Classical.em (fs = []) with h0 | h0
      · subst h0; intro j u hu; simp [fldC] at hu
      · obtain ⟨b, off, e, hb, hcell⟩ := h2 h0
        obtain rfl : ad = ⟨b, off, none⟩ := by simpa using e
        intro j u hu
        have hj : j < fs.length * 2 := by
          have := (List.getElem?_eq_some_iff.1 hu).1
          rwa [fldC_len] at this
        obtain ⟨e1, e2⟩ := fldC_at fs (j / 2) (by omega)
        obtain ⟨c1, c2⟩ := hcell (j / 2) (by omega)
        rw [Addr.add_lit]
        rcases Nat.mod_two_eq_zero_or_one j with hm2 | hm2
        · have ej : j / 2 * 2 = j := by omega
          rw [ej] at e1 c1
          rw [e1] at hu
          rw [c1]; exact hu
        · have ej : j / 2 * 2 + 1 = j := by omega
          rw [ej] at e2
          have ej2 : off + j / 2 * 2 + 1 = off + j := by omega
          rw [ej2] at c2
          rw [e2] at hu
          rw [c2]; exact hu
    have hone : ∀ u ∈ fldC fs, u.oneCell' = true := fun u hu => by
      unfold fldC at hu
      obtain ⟨x, hx, hu⟩ := List.mem_flatMap.1 hu
      simp at hu
      rcases hu with rfl | rfl <;> rfl
    obtain ⟨v', w', hrun, q1, q2, _⟩ := run_append_own (P := Tryd.prog) w w.heap.size 33 ty 50 il (.agg #[.string ⟨#[]⟩, .string ⟨#[]⟩]) 2 32 Tryd.underlying33 hil hzl0 hzl1 hzl2 rfl (by decide) (.slice none 0 0) 0 [] (World.ownsRow_nil _ _ _ _) ad fs.length c (fldC fs) (fldC_len fs) hnews hone (by unfold maxLen; omega) (by omega) (Nat.le_refl _)
    refine ⟨v', w', hrun, ?_, below_of_grown q2⟩
    unfold OwnG
    simpa using q1
theorem own_form21 {B : Nat} {W : World} {v : Value} {fs : List Fld} (h : OwnG B W v fs) : ∃ a c, v = .slice a fs.length c := by
  rcases h.2 with ⟨e, hn⟩ | ⟨g, cap, cur, e, _⟩
  · exact ⟨none, 0, by rw [e, hn]⟩
  · exact ⟨_, _, e⟩
theorem step_append_f {ops : Array Oper} {o : Oper} {a : Act} {w : World} {K : Act → World → Prop} {Q : Exit → Act → World → Prop} {E : Prop} (hg : o.guard = none) (s x : Operand)
    (hop : o.op = .call { callee := .builtin .append, args := #[s, x], argTypes := #[33, 33] }) (hs : a.eval s = .slice none 0 0)
    (xv : Value) (fs : List Fld) (hx : a.eval x = xv) (hr : RdG w xv fs)
    (hK : ∀ a' c' w', OwnG w.heap.size w' (.slice a' fs.length c') fs → Below w.heap.size w w' → K (a.put o.dst (.slice a' fs.length c')) w') :
    if Region.wanted o (yielded ops a.tmps) = true then Oper.wp Tryd.prog o a w K Q else E := by
  have hw : Region.wanted o (yielded ops a.tmps) = true := by simp [Region.wanted, hg]
  rw [if_pos hw]
  obtain ⟨v', w', hrun, r1, r2⟩ := run_append_f w o.type xv fs hr
  obtain ⟨a', c', rfl⟩ := own_form21 r1
  unfold Oper.wp
  simp [execOp, hop, resolve, invoke, builtin, hs, hx, hrun, Result.andThen]
  exact hK _ _ _ r1 r2
/-- a row of stanzas of one's own is read -/
theorem OwnSt.rd {B : Nat} {W : World} {v : Value} {L : List SG} (h : OwnSt B W v L) (h32 : L.length * 32 ≤ 140737488351232) (hf : ∀ x ∈ L, x.2.2.length * 32 ≤ 140737488351232 ∧ ∀ f ∈ x.2.2, f.1.length ≤ 281474976710656 ∧ f.2.length ≤ 281474976710656) : RdSt W v (sgS L) := by
  have sl : (sgS L).length = L.length := by simp [sgS]
  have hR : ∀ x ∈ L, RdG W x.2.1 x.2.2 := fun x hx => (h.own x hx).rd (hf x hx).1 (hf x hx).2
  rcases h.row.2 with ⟨rfl, hn⟩ | ⟨g, cap, cur, hv, hg, hh, hn, hm, hs, ht⟩
  · have : L = [] := List.length_eq_zero_iff.1 hn
    subst this; exact RdSt.nil W
  · subst hv
    refine ⟨by rw [sl]; exact h32, _, cap, by rw [sl], by rw [sl]; exact hn, hm, fun _ => ⟨g, 0, rfl, (Array.getElem?_eq_some_iff.1 hh).1, fun j hj => ?_⟩⟩
    have hj' : j < L.length := by rw [sl] at hj; exact hj
    have hsz := sgC_len L
    have e : (sgS L).getD j (0, []) = (L[j].1, L[j].2.2) := by simp [sgS, List.getD_eq_getElem?_getD, hj']
    have key : ∀ (M : List SG) (i : Nat) (hi : i < M.length), (sgC M)[i * 2]? = some (.int .i64 M[i].1) ∧ (sgC M)[i * 2 + 1]? = some M[i].2.1 := by
      intro M
      induction M with
      | nil => intro i hi; simp at hi
      | cons x r ih =>
        intro i hi
        have ec : sgC (x :: r) = .int .i64 x.1 :: x.2.1 :: sgC r := rfl
        rw [ec]
        cases i with
        | zero => exact ⟨rfl, rfl⟩
        | succ i =>
          have := ih i (by simpa using hi)
          rw [show (i + 1) * 2 = i * 2 + 1 + 1 by omega, show i * 2 + 1 + 1 + 1 = (i * 2 + 1) + 1 + 1 by omega]
          simpa using this
    obtain ⟨e1, e2⟩ := key L j hj'
    rw [e]
    refine ⟨L[j].2.1, ?_, ?_, hR _ (List.getElem_mem hj')⟩
    · rw [Nat.zero_add, World.ownsRow.cellAt h.row _ (by omega), e1]
    · rw [Nat.zero_add, World.ownsRow.cellAt h.row _ (by omega), e2]

end Go.Proofs.YtbeaoekbppdlmaaDoor
set_option linter.unusedSimpArgs false
set_option linter.unusedVariables false
namespace Go.Proofs.YtbeaoekbppdlmaaDoor
open Go Go.RowKit

/-- one more stanza behind those that are copied -/
theorem OwnSt.more {B : Nat} {W w1 w8 : World} {v u s8 : Value} {L : List SG} {ln : Int} {fs : List Fld} {o : Obj} (h : OwnSt B W v L) (hB : B ≤ W.heap.size) (hu : OwnG W.heap.size w1 u fs) (hb : Below W.heap.size W w1)
    (own8 : w8.ownsRow B 35 2 s8 (L.length + 1) (sgC L ++ [.int .i64 ln, u])) (ap8 : Ap (w1.alloc o) v w8 s8) :
    OwnSt B w8 s8 (L ++ [(ln, u, fs)]) ∧ Below B W w8 ∧ ∃ a8 c8, s8 = .slice a8 (L.length + 1) c8 := by
  have hsz : W.heap.size ≤ w1.heap.size := hb.size
  have hsn : (w1.alloc o).heap.size = w1.heap.size + 1 := by simp
  have tyv : ∀ g, v.ownBlock = some g → ∃ cs f, W.heap[g]? = some (.cells cs 35 f) := fun g e => row_ty21 h.row e
  have old : ∀ k, k < W.heap.size → some k ≠ v.ownBlock → w8.heap[k]? = W.heap[k]? := fun k hk hn =>
    (ap8.grown.block k (by rw [hsn]; omega) hn).trans ((Below.heap_alloc w1 o k (by omega)).trans (hb.block k hk))
  have mid : ∀ k, k < w1.heap.size → some k ≠ v.ownBlock → w8.heap[k]? = w1.heap[k]? := fun k hk hn =>
    (ap8.grown.block k (by rw [hsn]; omega) hn).trans (Below.heap_alloc w1 o k hk)
  have vlt : ∀ g, v.ownBlock = some g → B ≤ g ∧ g < W.heap.size := fun g e => World.ownsRow.lt h.row g e
  refine ⟨⟨?_, fun x hx => ?_, ?_⟩, ⟨?_, ?_, ?_, ?_, fun k hk => ?_⟩, ?_⟩
  · rw [sgC_snoc, List.length_append]; exact own8
  · rcases List.mem_append.1 hx with hx | hx
    · refine row_kept21 (h.own x hx) fun k e => old k ((h.own x hx).own k e).2 fun e2 => ?_
      exact absurd (ty_apart21 (tyv k e2.symm) (row_ty21 (h.own x hx) e)) (by decide)
    · obtain rfl := List.mem_singleton.1 hx
      refine row_mono (row_kept21 hu fun k e => mid k (hu.own k e).2 fun e2 => ?_) hB
      have h1 := (vlt k e2.symm).2
      have h2 := (hu.own k e).1
      omega
  · refine List.pairwise_append.2 ⟨h.ap, List.pairwise_singleton _ _, fun x hx y hy => ?_⟩
    obtain rfl := List.mem_singleton.1 hy
    intro g e e2
    have h1 := ((h.own x hx).own g e).2
    have h2 := (hu.own g e2).1
    omega
  · exact ap8.grown.os.trans hb.os
  · exact ap8.grown.tape.trans hb.tape
  · exact ap8.grown.output.trans hb.output
  · have := ap8.grown.size; rw [hsn] at this; omega
  · refine old k (by omega) fun e => ?_
    have := (vlt k e.symm).1
    omega
  · rcases own8.2 with ⟨e, hn⟩ | ⟨g, cap, cur, e, _⟩
    · omega
    · exact ⟨_, _, e⟩
theorem sgS_len (L : List SG) : (sgS L).length = L.length := by simp [sgS]
theorem stz_take {l : List Stz} {k : Nat} (h : k < l.length) : l.take (k + 1) = l.take k ++ [l.getD k (0, [])] := by
  rw [List.take_add_one]
  simp [List.getD_eq_getElem?_getD, h]

/-- a stanza's box, its fields copied into it -/
def CoF (wr wx : World) (D : Nat) (ln : Int) (fs : List Fld) : Prop :=
  ∃ a c, Bz wx D ln (.slice a fs.length c) ∧ OwnG wr.heap.size wx (.slice a fs.length c) fs ∧ Below wr.heap.size wr wx
set_option maxHeartbeats 3200000 in
set_option maxRecDepth 100000 in
theorem copied21 (v : Value) (l : List Stz) (w : World) (hr : RdSt w v l) :
    Calls Tryd.prog 17 #[v] w fun e w' => ∃ v' L, e = .returned v' ∧ OwnSt w.heap.size w' v' L ∧ sgS L = l ∧ Below w.heap.size w w' := by
  have hlen := hr.len
  have HR : Hid (RdSt w v l) := hr
  obtain ⟨a, c, rfl, hc, hm, -⟩ := hr.form
  clear hr
  obtain ⟨i0, hi, hz0, hz1, hz2⟩ := info_parts infoZt
  have HIn : Hid (Tryd.prog.info? 35 = some i0 ∧ i0.zero = some (.agg #[.int .i64 0, .slice none 0 0]) ∧ i0.size = 2 ∧ i0.bytes = 32) := ⟨hi, hz0, hz1, hz2⟩
  clear hi hz0 hz1 hz2
  go_enter Tryd.func17, Tryd.ntmps17
  go_wp2
  go_loopg [3, 4, 5] l.length (fun g o i x5 wr => ∃ (k : Nat) (L : List SG) (a3 : Option Addr) (c3 : Nat), k + g = l.length ∧ i = .int .i64 k ∧ o = .slice a3 L.length c3 ∧ L.length = k ∧ Hid (OwnSt w.heap.size wr (.slice a3 L.length c3) L) ∧ Hid (sgS L = l.take k) ∧ Hid (Below w.heap.size w wr))
  case atStart => exact ⟨0, [], none, 0, by omega, rfl, rfl, rfl, OwnSt.nil _ _, rfl, Below.refl _ _⟩
  case round =>
    obtain ⟨k, L, a3, c3, hk, rfl, rfl, hLk, HS, HL, HB⟩ := hrel
    have HG : Hid (k + gk = l.length) := hk
    have HLk : Hid (L.length = k) := hLk
    by_cases hlt : k < l.length
    · obtain ⟨a', c', e', -, -, hcell⟩ := (HR.out.below HB.out).form
      have e3 : a' = a ∧ c' = c := by injection e' with q1 q2 q3; exact ⟨q1.symm, q3.symm⟩
      obtain ⟨rfl, rfl⟩ := e3
      obtain ⟨b, off, u, rfl, hbl, hc0, hc1, hru⟩ := hcell k hlt
      have HT : Hid (l.take (k + 1) = l.take k ++ [l.getD k (0, [])]) := stz_take hlt
      generalize l.getD k (0, []) = st at *
      obtain ⟨ln, fs⟩ := st
      have hru : RdG wr u fs := hru
      have HRu : Hid (RdG wr u fs) := hru
      obtain ⟨au, cu, rfl, -⟩ := hru.form
      have hfl := hru.len
      simp only at hc0 hc1
      clear e' hcell hru hk hLk
      have HZa : Hid (Bz (wr.alloc (.cells #[.int .i64 ln, .slice none 0 0] 35)) wr.heap.size ln (.slice none 0 0)) := Bz.mk1 _ _ _ _ rfl
      have HBa : Hid (Below wr.heap.size wr (wr.alloc (.cells #[.int .i64 ln, .slice none 0 0] 35))) := Below.alloc (Below.refl _ _) (Nat.le_refl _) _
      go_wp2_with fail
      have HRa : Hid (RdG (wr.alloc (.cells #[.int .i64 ln, .slice none 0 0] 35)) (.slice au fs.length cu) fs) := HRu.out.below HBa.out
      have z0 := HZa.out.c0
      have z1 := HZa.out.c1
      have y1 := (HBa.out.cell (p := ⟨b, off + k * 2 + 1, none⟩) hbl).trans hc1
      have hDn : wr.heap.size < (wr.alloc (.cells #[.int .i64 ln, .slice none 0 0] 35)).heap.size := HZa.out.lt
      clear hc0 hc1 hru HRu hbl
      obtain ⟨D, hD⟩ : ∃ D, D = wr.heap.size := ⟨_, rfl⟩
      have HD : Hid (D = wr.heap.size) := hD
      have HSz : Hid (w.heap.size ≤ wr.heap.size) := HB.out.size
      generalize wr.alloc (.cells #[.int .i64 ln, .slice none 0 0] 35) = wa at *
      rw [← hD] at HZa hDn z0 z1 ⊢
      clear hD
      have HRd : Hid (RdG wa.drew (.slice au fs.length cu) fs) := HRa.out.below (Below.refl _ _).drew
      have HCo : Hid (∀ a' c' w', OwnG wa.drew.heap.size w' (.slice a' fs.length c') fs → Below wa.drew.heap.size wa.drew w' → Bz w' D ln (.slice none 0 0) ∧ CoF wr (w'.setCell ⟨D, 1, none⟩ (.slice a' fs.length c')) D ln fs) := fun a' c' w' o b => by
        have b1 : Below wa.heap.size wa w' := ((Below.refl wa.heap.size wa).drew).trans b
        have o1 : OwnG wa.heap.size w' (.slice a' fs.length c') fs := o
        have z := HZa.out.blw b1 hDn
        refine ⟨z, a', c', z.s1 _, row_mono (row_kept21 o1 fun g e => Below.heap_setCell _ _ _ _ (by have := (o1.own g e).1; show g ≠ D; omega)) (by have := HD.out; omega), (HBa.out.trans (b1.mono HBa.out.size)).setCell (by show wr.heap.size ≤ D; rw [HD.out]; exact Nat.le_refl _) _⟩
      go_cut [] from 18 to 27 (fun wx => CoF wr wx D ln fs)
      case first =>
        go_region_law (refine step_append_f rfl (.tmp 19) (.tmp 24) rfl (by simp [Act.eval, Act.put]) (.slice au fs.length cu) fs (by simp [Act.eval, Act.put]) HRd.out ?_; intro a5 c5 w5 own5 bel5; obtain ⟨q, q5⟩ := HCo.out a5 c5 w5 own5 bel5; have HQ5 : Hid (CoF wr (w5.setCell ⟨D, 1, none⟩ (.slice a5 fs.length c5)) D ln fs) := q5; have q0 := q.c0; have q1 := q.c1; have q2 := q.fz 1; clear own5 bel5 q q5)
        all_goals
          go_wp2_with fail
          go_meet
          exact HQ5.out
      case rest =>
        obtain ⟨a5, c5, hz6, ho6, hb6⟩ := hcut
        have HZ6 : Hid (Bz wc D ln (.slice a5 fs.length c5)) := hz6
        have HO6 : Hid (OwnG wr.heap.size wc (.slice a5 fs.length c5) fs) := ho6
        have HB6 : Hid (Below wr.heap.size wr wc) := hb6
        have e0 := hz6.c0
        have e1 := hz6.c1
        have hsc : w.heap.size ≤ wc.heap.size := Nat.le_trans HSz.out hb6.size
        have hLl : (L.length + 1) * 32 ≤ 140737488355328 := by have := HLk.out; have := HG.out; omega
        have hLm : L.length + 1 ≤ maxLen := by unfold maxLen; omega
        have HRow : Hid ((wc.alloc (.cells #[.int .i64 ln, .slice a5 fs.length c5] 35)).ownsRow w.heap.size 35 2 (.slice a3 L.length c3) L.length (sgC L)) := World.ownsRow.alloc (World.ownsRow.kept HS.out.row (grown_below hb6) (one_or _)) _
        have HNw : Hid (∀ j u, [Value.int .i64 ln, Value.slice a5 fs.length c5][j]? = some u → (wc.alloc (.cells #[.int .i64 ln, .slice a5 fs.length c5] 35)).cell? ((⟨wc.heap.size, 0, none⟩ : Addr).add j) = some u) := two_new21 _ _ _ _
        have HDn : Hid (∀ s8 w8, w8.ownsRow w.heap.size 35 2 s8 (L.length + 1) (sgC L ++ [.int .i64 ln, .slice a5 fs.length c5]) → Ap (wc.alloc (.cells #[.int .i64 ln, .slice a5 fs.length c5] 35)) (.slice a3 L.length c3) w8 s8 → OwnSt w.heap.size w8 s8 (L ++ [(ln, .slice a5 fs.length c5, fs)]) ∧ Below w.heap.size wr w8 ∧ ∃ a8 c8, s8 = .slice a8 (L.length + 1) c8) := fun s8 w8 o8 p8 => OwnSt.more HS.out HSz.out HO6.out HB6.out o8 p8
        clear hz6 ho6 hb6 HCo HRd HRa HZa HBa z0 z1 y1 hDn HR hfl
        go_wp2_with (at_builtin; refine wpList_append_apk rfl (.tmp 27) (.tmp 29) 22 rfl w.heap.size 35 i0 (.agg #[.int .i64 0, .slice none 0 0]) 2 32 Tryd.underlying22 HIn.out.1 HIn.out.2.1 HIn.out.2.2.1 HIn.out.2.2.2 rfl (by decide) (.slice a3 L.length c3) L.length (sgC L) rfl HRow.out ⟨wc.heap.size, 0, none⟩ 1 1 [.int .i64 ln, .slice a5 fs.length c5] rfl rfl HNw.out (by simp [Value.oneCell']) hLm hLl (by simp; omega) ?_; intro v8 w8 own8 ap8; obtain ⟨t8, b8, a8, c8, rfl⟩ := HDn.out v8 w8 own8 ap8; have HT8 : Hid (OwnSt w.heap.size w8 (.slice a8 (L.length + 1) c8) (L ++ [(ln, .slice a5 fs.length c5, fs)]) ∧ Below w.heap.size wr w8) := ⟨t8, b8⟩; clear own8 ap8 t8 b8)
        all_goals
          go_roundg (gk - 1)
          case measure => have := HG.out; omega
          case rel => exact ⟨k + 1, L ++ [(ln, .slice a5 fs.length c5, fs)], a8, c8, by have := HG.out; omega, by go_num, by simp, by rw [List.length_append, HLk.out]; rfl, by rw [List.length_append]; exact HT8.out.1, by rw [sgS_snoc, HT.out, HL.out]; exact rfl, HB.out.trans (HT8.out.2.mono (Nat.le_refl _))⟩
    · obtain rfl : k = l.length := by omega
      have HF : Hid (sgS L = l) := by show _ = _; rw [HL.out, List.take_length]
      clear hk hLk HL
      go_wp2
      go_ret
      exact ⟨_, L, rfl, HS.out, HF.out, HB.out⟩

end Go.Proofs.YtbeaoekbppdlmaaDoor
set_option linter.unusedSimpArgs false
set_option linter.unusedVariables false
namespace Go.Proofs.YtbeaoekbppdlmaaDoor
open Go Go.RowKit

theorem two_newA (W : World) (x y : Value) (T : TypeId) : ∀ j u, [x, y][j]? = some u → (W.alloc (.cells #[x, y] T)).cell? ((⟨W.heap.size, 0, none⟩ : Addr).add j) = some u := two_new21 W x y T
theorem lns_drop {ps : List (List UInt8)} {k : Nat} (h : k < ps.length) : ps.drop k = ps.getD k [] :: ps.drop (k + 1) := pc_drop h
set_option maxHeartbeats 6400000 in
set_option maxRecDepth 100000 in
theorem rRead21_any (s : ByteArray) (w : World) (hs : s.size ≤ 274877906944) :
    Calls Tryd.prog 33 #[.string s] w fun e w' => RdAns w.heap.size w w' e (rdF21 s.data.toList) := by
  have HLn : Hid (Calls Tryd.prog 45 #[.string s] w fun e w' => ∃ v, e = .returned v ∧ OwnL w.heap.size w' v (lnsF s.data.toList []) ∧ Below w.heap.size w w') := rLines_any s w (by omega)
  obtain ⟨R, hR⟩ : ∃ R, R = rdF21 s.data.toList := ⟨_, rfl⟩
  rw [← hR]
  have HR : Hid (R = rdS ((lnsF s.data.toList []).drop 0) 1 [] (0, [])) := hR
  have htot := tot_lns s.data.toList []
  have hln := len_lns s.data.toList []
  have hss := size20 s
  have HT : Hid (totL ((lnsF s.data.toList []).drop 0) ≤ 274877906945) := by show _ ≤ _; rw [List.drop_zero]; simp at htot; omega
  have hll : (lnsF s.data.toList []).length ≤ 274877906945 := by omega
  generalize lnsF s.data.toList [] = ps at *
  clear hR htot hln hss
  obtain ⟨i0, hi, hz0, hz1, hz2⟩ := info_parts infoZt
  have HIn : Hid (Tryd.prog.info? 35 = some i0 ∧ i0.zero = some (.agg #[.int .i64 0, .slice none 0 0]) ∧ i0.size = 2 ∧ i0.bytes = 32) := ⟨hi, hz0, hz1, hz2⟩
  clear hi hz0 hz1 hz2
  go_enter Tryd.func33, Tryd.ntmps33
  go_wp2_with fail
  refine HLn.out.mono ?_
  rintro e w1 ⟨v1, rfl, own1, bel1⟩
  have HO : Hid (OwnL w.heap.size w1 v1 ps) := own1
  have HB1 : Hid (Below w.heap.size w w1) := bel1
  obtain ⟨a, c, rfl, hc, hm, _⟩ := own1.form
  clear own1 bel1 HLn
  go_wp2_with fail
  have hZ : Bz (w1.alloc (.cells #[.int .i64 0, .slice none 0 0] 35)) w1.heap.size 0 (.slice none 0 0) := Bz.mk1 _ _ _ _ rfl
  have HBa : Hid (Below w1.heap.size w1 (w1.alloc (.cells #[.int .i64 0, .slice none 0 0] 35))) := Below.alloc (Below.refl _ _) (Nat.le_refl _) _
  have HS0 : Hid (St21 w1.heap.size (w1.alloc (.cells #[.int .i64 0, .slice none 0 0] 35)) (.slice none 0 0) [] w1.heap.size 0 (.slice none 0 0) []) := ⟨OwnSt.nil _ _, hZ, OwnG.nil _ _, fun x hx => (by cases hx), by simp [Value.ownBlock]⟩
  clear hZ
  generalize w1.alloc (.cells #[.int .i64 0, .slice none 0 0] 35) = wa at *
  go_loopg [5, 8, 9, 10, 11] ps.length (fun g o i x9 x10 x11 wr => ∃ (k U : Nat) (L : List SG) (ln : Int) (a5 : Option Addr) (c5 : Nat) (a7 : Option Addr) (c7 : Nat) (fs : List Fld), k + g = ps.length ∧ i = .int .i64 k ∧ o = .slice a5 L.length c5 ∧ L.length ≤ k ∧ fs.length ≤ k ∧ Hid (St21 w1.heap.size wr (.slice a5 L.length c5) L w1.heap.size ln (.slice a7 fs.length c7) fs) ∧ Hid (U + totL (ps.drop k) ≤ 274877906945 ∧ ∀ f ∈ fs, f.1.length ≤ U ∧ f.2.length ≤ U) ∧ Hid (R = rdS (ps.drop k) ((k : Int) + 1) (sgS L) (ln, fs)) ∧ Hid (Below w1.heap.size w1 wr))
  case atStart => exact ⟨0, 0, [], 0, none, 0, none, 0, [], by omega, rfl, rfl, by simp, by simp, HS0.out, ⟨by have := HT.out; omega, fun f hf => (by cases hf)⟩, HR.out, HBa.out⟩
  case round =>
    obtain ⟨k, U, L, ln, a5, c5, a7, c7, fs, hk, rfl, rfl, hLk, hfk, HS, HU, HK, HB⟩ := hrel
    have HG : Hid (k + gk = ps.length) := hk
    clear HR HS0 HBa HT
    by_cases hlt : k < ps.length
    · skip
      obtain ⟨a', c', e', _, _, hcell⟩ := (HO.out.below HB.out).form
      have e3 : a' = a ∧ c' = c := by injection e' with q1 q2 q3; exact ⟨q1.symm, q3.symm⟩
      obtain ⟨rfl, rfl⟩ := e3
      obtain ⟨g, rfl, hgl, hcl⟩ := hcell k hlt
      have hKd : R = rdS (ps.getD k [] :: ps.drop (k + 1)) ((k : Int) + 1) (sgS L) (ln, fs) := by rw [HK.out, lns_drop hlt]
      have hUd : U + ((ps.getD k []).length + 1 + totL (ps.drop (k + 1))) ≤ 274877906945 := by have := HU.out.1; rw [lns_drop hlt, totL] at this; exact this
      have HUf : Hid (∀ f ∈ fs, f.1.length ≤ U ∧ f.2.length ≤ U) := HU.out.2
      generalize ps.getD k [] = p at *
      have hFa := fun W => rFair21_any ⟨p.toArray⟩ false W (by rw [sizeL]; omega)
      have hTr := fun W => rTrim21_any ⟨p.toArray⟩ W (by rw [sizeL]; omega)
      simp only [strV_list] at hFa hTr
      unfold strV at hcl
      have HFa : Hid (∀ W, Calls Tryd.prog 44 #[.string ⟨p.toArray⟩, .bool false] W fun e w' => e = .returned (.bool (fairF false p)) ∧ w' = W) := hFa
      have HTr : Hid (∀ W, Calls Tryd.prog 43 #[.string ⟨p.toArray⟩] W fun e w' => e = .returned (.string ⟨(trF p).toArray⟩) ∧ w' = W) := hTr
      have hsT : (⟨(trF p).toArray⟩ : ByteArray).size = (trF p).length := sizeL _
      have hw0 : IntKind.i64.wrap ((k : Int) + 1) = (k : Int) + 1 := by rw [IntKind.wrap_i64]; omega
      rw [rdS] at hKd
      have HKd : Hid (R = if fairF false p = false then .error (212, (k : Int) + 1) else if trF p = [] then rdS (ps.drop (k + 1)) ((k : Int) + 1 + 1) (if fs = [] then sgS L else sgS L ++ [(ln, fs)]) (0, []) else if p.head? = some 35 then rdS (ps.drop (k + 1)) ((k : Int) + 1 + 1) (sgS L) (ln, fs) else match stepP (ln, fs) p ((k : Int) + 1) with | .error e => .error (e, (k : Int) + 1) | .ok n => rdS (ps.drop (k + 1)) ((k : Int) + 1 + 1) (sgS L) n) := hKd
      have HUd : Hid (U + (p.length + 1 + totL (ps.drop (k + 1))) ≤ 274877906945) := hUd
      have hk1 : ((k : Int) + 1 + 1) = (((k + 1 : Nat) : Int) + 1) := by omega
      rw [hk1] at HKd
      clear e' hcell HK HU hKd hUd hFa hTr hk hk1
      cases hfa : fairF false p
      · have HE : Hid (R = .error (212, (k : Int) + 1)) := by show _ = _; rw [HKd.out, if_pos hfa]
        rw [hfa] at HFa
        clear HKd hfa
        go_wp2_with fail
        refine (HFa.out _).mono ?_
        rintro e w9 ⟨rfl, h9⟩
        have h9s := h9.symm
        clear h9
        subst h9s
        go_wp2
        go_returns
        rw [HE.out]
        exact ⟨rfl, HB1.out.trans (HB.out.mono HB1.out.size)⟩
      rw [hfa] at HFa HKd
      have HKe : Hid (R = if trF p = [] then rdS (ps.drop (k + 1)) (((k + 1 : Nat) : Int) + 1) (if fs = [] then sgS L else sgS L ++ [(ln, fs)]) (0, []) else if p.head? = some 35 then rdS (ps.drop (k + 1)) (((k + 1 : Nat) : Int) + 1) (sgS L) (ln, fs) else match stepP (ln, fs) p ((k : Int) + 1) with | .error e => .error (e, (k : Int) + 1) | .ok n => rdS (ps.drop (k + 1)) (((k + 1 : Nat) : Int) + 1) (sgS L) n) := by show _ = _; rw [HKd.out, if_neg (by simp)]
      clear HKd hfa
      go_wp2_with fail
      refine (HFa.out _).mono ?_
      rintro e w9 ⟨rfl, h9⟩
      have h9s := h9.symm
      clear h9
      subst h9s
      clear HFa
      go_wp2_with fail
      refine (HTr.out _).mono ?_
      rintro e w9 ⟨rfl, h9⟩
      have h9s := h9.symm
      clear h9
      subst h9s
      clear HTr
      by_cases ht0 : (trF p).length = 0
      · have htn : trF p = [] := List.eq_nil_of_length_eq_zero ht0
        have HKf : Hid (R = rdS (ps.drop (k + 1)) (((k + 1 : Nat) : Int) + 1) (if fs = [] then sgS L else sgS L ++ [(ln, fs)]) (0, [])) := by show _ = _; rw [HKe.out, if_pos htn]
        have hst : ((⟨(trF p).toArray⟩ : ByteArray).size : Int) = 0 := by rw [hsT]; omega
        have hst2 : (((⟨(trF p).toArray⟩ : ByteArray).size : Int) == 0) = true := by rw [hst]; rfl
        clear HKe htn ht0 hsT hst
        generalize (⟨(trF p).toArray⟩ : ByteArray) = TT at *
        have z0 := HS.out.z.c0
        have z1 := HS.out.z.c1
        have zf0 := HS.out.z.fz 0
        have zf1 := HS.out.z.fz 1
        by_cases h0 : fs.length = 0
        · have hn0 : fs = [] := List.eq_nil_of_length_eq_zero h0
          have HKg : Hid (R = rdS (ps.drop (k + 1)) (((k + 1 : Nat) : Int) + 1) (sgS L) (0, [])) := by show _ = _; rw [HKf.out, if_pos hn0]
          have h0i : ¬ (0 : Int) < fs.length := by omega
          have HS2 : Hid (St21 w1.heap.size ((wr.setCell ⟨w1.heap.size, 0, none⟩ (.int .i64 0)).setCell ⟨w1.heap.size, 1, none⟩ (.slice none 0 0)) (.slice a5 L.length c5) L w1.heap.size 0 (.slice none 0 0) []) := St21.box HS.out.t HS.out.z (OwnG.nil _ _) (fun x hx g e e2 => by cases e2) HS.out.nd
          have HB2 : Hid (Below w1.heap.size w1 ((wr.setCell ⟨w1.heap.size, 0, none⟩ (.int .i64 0)).setCell ⟨w1.heap.size, 1, none⟩ (.slice none 0 0))) := (HB.out.setCell (Nat.le_refl _) _).setCell (Nat.le_refl _) _
          clear HKf hn0 h0
          go_wp2
          all_goals
            go_roundg (gk - 1)
            case measure => have := HG.out; omega
            case rel => exact ⟨k + 1, 0, L, 0, a5, c5, none, 0, [], by have := HG.out; omega, by go_num, rfl, by omega, by simp, HS2.out, ⟨by have := HUd.out; omega, fun f hf => (by cases hf)⟩, HKg.out, HB2.out⟩
        · have hn0 : fs ≠ [] := fun e => h0 (by rw [e]; rfl)
          have HKg : Hid (R = rdS (ps.drop (k + 1)) (((k + 1 : Nat) : Int) + 1) (sgS L ++ [(ln, fs)]) (0, [])) := by show _ = _; rw [HKf.out, if_neg hn0]
          have h0i : (0 : Int) < fs.length := by omega
          clear HKf hn0 h0
          have HRow : Hid ((wr.alloc (.cells #[.int .i64 ln, .slice a7 fs.length c7] 35)).ownsRow w1.heap.size 35 2 (.slice a5 L.length c5) L.length (sgC L)) := World.ownsRow.alloc HS.out.t.row _
          have HNw : Hid (∀ j u, [Value.int .i64 ln, Value.slice a7 fs.length c7][j]? = some u → (wr.alloc (.cells #[.int .i64 ln, .slice a7 fs.length c7] 35)).cell? ((⟨wr.heap.size, 0, none⟩ : Addr).add j) = some u) := two_newA _ _ _ _
          have hsb : w1.heap.size ≤ wr.heap.size := HB.out.size
          have HDn : Hid (∀ s8 w8, w8.ownsRow w1.heap.size 35 2 s8 (L.length + 1) (sgC L ++ [.int .i64 ln, .slice a7 fs.length c7]) → Ap (wr.alloc (.cells #[.int .i64 ln, .slice a7 fs.length c7] 35)) (.slice a5 L.length c5) w8 s8 → (OwnSt w1.heap.size w8 s8 (L ++ [(ln, .slice a7 fs.length c7, fs)]) ∧ Bz w8 w1.heap.size ln (.slice a7 fs.length c7) ∧ s8.ownBlock ≠ some w1.heap.size ∧ ∃ a8 c8, s8 = .slice a8 (L.length + 1) c8) ∧ Below w1.heap.size w1 w8) := fun s8 w8 o8 p8 => ⟨St21.done HS.out o8 p8, (HB.out.alloc hsb _).grown p8.grown (by simp; omega) (fun q hq => (World.ownsRow.lt HS.out.t.row q hq).1)⟩
          go_wp2_with (at_builtin; refine wpList_append_apk rfl (.tmp 38) (.tmp 40) 22 rfl w1.heap.size 35 i0 (.agg #[.int .i64 0, .slice none 0 0]) 2 32 Tryd.underlying22 HIn.out.1 HIn.out.2.1 HIn.out.2.2.1 HIn.out.2.2.2 rfl (by decide) (.slice a5 L.length c5) L.length (sgC L) rfl HRow.out ⟨wr.heap.size, 0, none⟩ 1 1 [.int .i64 ln, .slice a7 fs.length c7] rfl rfl HNw.out (by simp [Value.oneCell']) (by unfold maxLen; omega) (by omega) (by simp; omega) ?_; intro v8 w8 own8 ap8; obtain ⟨⟨t8, z8, n8, a8, c8, rfl⟩, b8⟩ := HDn.out v8 w8 own8 ap8; have HT8 : Hid (OwnSt w1.heap.size w8 (.slice a8 (L.length + 1) c8) (L ++ [(ln, .slice a7 fs.length c7, fs)]) ∧ Bz w8 w1.heap.size ln (.slice a7 fs.length c7) ∧ (Value.slice a8 (L.length + 1) c8).ownBlock ≠ some w1.heap.size ∧ Below w1.heap.size w1 w8) := ⟨t8, z8, n8, b8⟩; have y0 := z8.c0; have y1 := z8.c1; have yf0 := z8.fz 0; have yf1 := z8.fz 1; clear own8 ap8 t8 z8 n8 b8)
          all_goals
            have HS2 : Hid (St21 w1.heap.size ((w8.setCell ⟨w1.heap.size, 0, none⟩ (.int .i64 0)).setCell ⟨w1.heap.size, 1, none⟩ (.slice none 0 0)) (.slice a8 (L.length + 1) c8) (L ++ [(ln, .slice a7 fs.length c7, fs)]) w1.heap.size 0 (.slice none 0 0) []) := St21.box HT8.out.1 HT8.out.2.1 (OwnG.nil _ _) (fun x hx g e e2 => by cases e2) HT8.out.2.2.1
            have HB2 : Hid (Below w1.heap.size w1 ((w8.setCell ⟨w1.heap.size, 0, none⟩ (.int .i64 0)).setCell ⟨w1.heap.size, 1, none⟩ (.slice none 0 0))) := (HT8.out.2.2.2.setCell (Nat.le_refl _) _).setCell (Nat.le_refl _) _
            go_roundg (gk - 1)
            case measure => have := HG.out; omega
            case rel => exact ⟨k + 1, 0, L ++ [(ln, .slice a7 fs.length c7, fs)], 0, a8, c8, none, 0, [], by have := HG.out; omega, by go_num, by simp, by simp; omega, by simp, by rw [List.length_append]; exact HS2.out, ⟨by have := HUd.out; omega, fun f hf => (by cases hf)⟩, by rw [sgS_snoc]; exact HKg.out, HB2.out⟩
      · have htn : trF p ≠ [] := fun e => ht0 (by rw [e]; rfl)
        have HKf : Hid (R = if p.head? = some 35 then rdS (ps.drop (k + 1)) (((k + 1 : Nat) : Int) + 1) (sgS L) (ln, fs) else match stepP (ln, fs) p ((k : Int) + 1) with | .error e => .error (e, (k : Int) + 1) | .ok n => rdS (ps.drop (k + 1)) (((k + 1 : Nat) : Int) + 1) (sgS L) n) := by show _ = _; rw [HKe.out, if_neg htn]
        have hst2 : (((⟨(trF p).toArray⟩ : ByteArray).size : Int) == 0) = false := by rw [hsT]; exact beq_eq_false_iff_ne.2 (by omega)
        have hpl : 0 < (⟨p.toArray⟩ : ByteArray).size := by rw [sizeL]; have := trF_le p; omega
        have hph : p.head? = some ((⟨p.toArray⟩ : ByteArray)[0]'hpl) := by have := ba_head hpl; rw [strV_list] at this; exact (congrArg List.head? this).trans rfl
        clear HKe htn ht0 hsT
        generalize (⟨(trF p).toArray⟩ : ByteArray) = TT at *
        have hpz : (⟨p.toArray⟩ : ByteArray).size = p.length := sizeL _
        have hPut := fun (W : World) (hg : OwnG w1.heap.size W (.slice a7 fs.length c7) fs) (hW : w1.heap.size ≤ W.heap.size) => rPut21_any ln (.slice a7 fs.length c7) fs ⟨p.toArray⟩ ((k : Int) + 1) W w1.heap.size hg hW hpl (by rw [hpz]; have := HUd.out; omega) (by omega) (fun f hf => by have h1 := HUf.out f hf; have h2 := HUd.out; omega)
        rw [strV_list] at hPut
        have HPut : Hid (Calls Tryd.prog 46 #[.agg #[.int .i64 ln, .slice a7 fs.length c7], .string ⟨p.toArray⟩, .int .i64 ((k : Int) + 1)] wr fun e w' => PutS w1.heap.size wr ln (.slice a7 fs.length c7) e w' (stepP (ln, fs) p ((k : Int) + 1))) := hPut wr HS.out.g HB.out.size
        clear hPut
        obtain ⟨z, hz⟩ : ∃ z : Int, z = ((((⟨p.toArray⟩ : ByteArray)[0]'hpl).toNat : Nat) : Int) := ⟨_, rfl⟩
        have hzz : ((((⟨p.toArray⟩ : ByteArray)[0]'hpl).toNat : Nat) : Int) = z := hz.symm
        have z0 := HS.out.z.c0
        have z1 := HS.out.z.c1
        have zf0 := HS.out.z.fz 0
        have zf1 := HS.out.z.fz 1
        have hpi : (0 : Int) < ((⟨p.toArray⟩ : ByteArray).size : Int) := by omega
        by_cases h35 : z = 35
        · have h35b : ((⟨p.toArray⟩ : ByteArray)[0]'hpl) = 35 := UInt8.toNat_inj.1 (by show _ = 35; omega)
          have HKg : Hid (R = rdS (ps.drop (k + 1)) (((k + 1 : Nat) : Int) + 1) (sgS L) (ln, fs)) := by show _ = _; rw [HKf.out, if_pos (by rw [hph, h35b])]
          clear HKf hph h35b HPut hz hpz
          subst h35
          go_wp2
          all_goals
            go_roundg (gk - 1)
            case measure => have := HG.out; omega
            case rel => exact ⟨k + 1, U, L, ln, a5, c5, a7, c7, fs, by have := HG.out; omega, by go_num, rfl, by omega, by omega, HS.out, ⟨by have := HUd.out; omega, HUf.out⟩, HKg.out, HB.out⟩
        · have hzb : (z == 35) = false := by simpa using h35
          have HKg : Hid (R = match stepP (ln, fs) p ((k : Int) + 1) with | .error e => .error (e, (k : Int) + 1) | .ok n => rdS (ps.drop (k + 1)) (((k + 1 : Nat) : Int) + 1) (sgS L) n) := by
            show _ = _
            rw [HKf.out, if_neg]
            rw [hph]
            intro e
            injection e with e
            exact h35 (by rw [hz, e]; rfl)
          have HSz : Hid (∀ n, stepP (ln, fs) p ((k : Int) + 1) = .ok n → (∀ f ∈ n.2, f.1.length ≤ U + p.length + 1 ∧ f.2.length ≤ U + p.length + 1) ∧ n.2.length ≤ fs.length + 1) := fun n h => stepP_size h HUf.out
          have HEr : Hid (∀ e, stepP (ln, fs) p ((k : Int) + 1) = .error e → (e == 0) = false ∧ (e != 0) = true) := fun e h => stepP_err h
          clear HKf hph hz h35 hpz
          generalize hP : stepP (ln, fs) p ((k : Int) + 1) = PP at *
          clear hP
          generalize (⟨p.toArray⟩ : ByteArray) = PB at *
          have hBs : w.heap.size ≤ w1.heap.size := HB1.out.size
          cases PP with
          | error er =>
            obtain ⟨e1, e2⟩ := HEr.out er rfl
            have HE : Hid (R = .error (er, (k : Int) + 1)) := HKg.out
            clear HKg HSz HEr
            go_wp2_with fail
            refine HPut.out.mono ?_
            rintro e w2 ⟨rfl, be⟩
            have HBf : Hid (Below w.heap.size w (w2.alloc (.cells #[.int .i64 ln, .slice a7 fs.length c7] 35))) := by
              have h1 : Below w.heap.size w w2 := (HB1.out.trans (HB.out.mono hBs)).trans (be.mono (Nat.le_trans hBs HB.out.size))
              exact Below.alloc h1 h1.size _
            clear be HPut
            go_wp2
            all_goals
              go_returns
              rw [HE.out]
              exact ⟨rfl, HBf.out⟩
          | ok n =>
            obtain ⟨n1, n2⟩ := n
            have HE : Hid (R = rdS (ps.drop (k + 1)) (((k + 1 : Nat) : Int) + 1) (sgS L) (n1, n2)) := HKg.out
            have HSn : Hid ((∀ f ∈ n2, f.1.length ≤ U + p.length + 1 ∧ f.2.length ≤ U + p.length + 1) ∧ n2.length ≤ fs.length + 1) := HSz.out _ rfl
            clear HKg HSz HEr
            go_wp2_with fail
            refine HPut.out.mono ?_
            rintro e w2 ⟨v', rfl, ho, hg, hn⟩
            obtain ⟨p1, p2, p3⟩ := HS.out.putS hg ho hn
            have hb2 : Below w1.heap.size w1 w2 := HB.out.grown hg HB.out.size (fun q hq => (HS.out.g.own q hq).1)
            obtain ⟨a8, c8, rfl⟩ := row_form21 ho
            have hal : Below w2.heap.size w2 (w2.alloc (.cells #[.int .i64 n1, .slice a8 n2.length c8] 35)) := Below.alloc (Below.refl _ _) (Nat.le_refl _) _
            have HT3 : Hid (OwnSt w1.heap.size (w2.alloc (.cells #[.int .i64 n1, .slice a8 n2.length c8] 35)) (.slice a5 L.length c5) L) := ⟨rowT_kept p1.row fun q e => hal.block q (World.ownsRow.lt p1.row q e).2, fun x hx => (p1.own x hx).below hal, p1.ap⟩
            have HZ3 : Hid (Bz (w2.alloc (.cells #[.int .i64 n1, .slice a8 n2.length c8] 35)) w1.heap.size ln (.slice a7 fs.length c7)) := p3.blw hal p3.lt
            have HN3 : Hid (Bz (w2.alloc (.cells #[.int .i64 n1, .slice a8 n2.length c8] 35)) w2.heap.size n1 (.slice a8 n2.length c8)) := Bz.mk1 _ _ _ _ rfl
            have HO3 : Hid (OwnG w1.heap.size (w2.alloc (.cells #[.int .i64 n1, .slice a8 n2.length c8] 35)) (.slice a8 n2.length c8) n2) := ho.below hal
            have HB3 : Hid (Below w1.heap.size w1 (w2.alloc (.cells #[.int .i64 n1, .slice a8 n2.length c8] 35))) := Below.alloc hb2 hb2.size _
            have HA3 : Hid (∀ x ∈ L, apG x.2.1 (.slice a8 n2.length c8)) := p2
            have hsn : w2.heap.size ≠ w1.heap.size := by have := p3.lt; omega
            clear p1 p2 p3 ho hg hn hb2 hal HPut z0 z1 zf0 zf1
            have q0 := HN3.out.c0
            have q1 := HN3.out.c1
            have r0 := HZ3.out.c0
            have r1 := HZ3.out.c1
            have rf0 := HZ3.out.fz 0
            have rf1 := HZ3.out.fz 1
            have HS4 : Hid (St21 w1.heap.size (((w2.alloc (.cells #[.int .i64 n1, .slice a8 n2.length c8] 35)).setCell ⟨w1.heap.size, 0, none⟩ (.int .i64 n1)).setCell ⟨w1.heap.size, 1, none⟩ (.slice a8 n2.length c8)) (.slice a5 L.length c5) L w1.heap.size n1 (.slice a8 n2.length c8) n2) := St21.box HT3.out HZ3.out HO3.out HA3.out HS.out.nd
            have HB4 : Hid (Below w1.heap.size w1 (((w2.alloc (.cells #[.int .i64 n1, .slice a8 n2.length c8] 35)).setCell ⟨w1.heap.size, 0, none⟩ (.int .i64 n1)).setCell ⟨w1.heap.size, 1, none⟩ (.slice a8 n2.length c8))) := (HB3.out.setCell (Nat.le_refl _) _).setCell (Nat.le_refl _) _
            go_wp2
            all_goals
              go_roundg (gk - 1)
              case measure => have := HG.out; omega
              case rel => exact ⟨k + 1, U + p.length + 1, L, n1, a5, c5, a8, c8, n2, by have := HG.out; omega, by go_num, rfl, by omega, by have := HSn.out.2; omega, HS4.out, ⟨by have := HUd.out; omega, HSn.out.1⟩, HE.out, HB4.out⟩
    · have hRe : R = .ok (if fs = [] then sgS L else sgS L ++ [(ln, fs)]) := by rw [HK.out, List.drop_eq_nil_of_le (by omega)]; rfl
      have z0 := HS.out.z.c0
      have z1 := HS.out.z.c1
      have HBw : Hid (Below w.heap.size w wr) := HB1.out.trans (HB.out.mono HB1.out.size)
      have hBs : w.heap.size ≤ w1.heap.size := HB1.out.size
      have hkb : k ≤ ps.length := by omega
      clear hk HK
      by_cases h0 : fs.length = 0
      · have hn0 : fs = [] := List.eq_nil_of_length_eq_zero h0
        have HE : Hid (R = .ok (sgS L)) := by show _ = _; rw [hRe, if_pos hn0]
        have h0i : ¬ (0 : Int) < fs.length := by omega
        clear hRe hn0 h0
        go_wp2
        go_returns
        rw [HE.out]
        exact ⟨_, L, rfl, OwnSt.mono HS.out.t hBs, rfl, HBw.out⟩
      · have hn0 : fs ≠ [] := fun e => h0 (by rw [e]; rfl)
        have HE : Hid (R = .ok (sgS L ++ [(ln, fs)])) := by show _ = _; rw [hRe, if_neg hn0]
        have h0i : (0 : Int) < fs.length := by omega
        clear hRe hn0 h0
        have HRow : Hid ((wr.alloc (.cells #[.int .i64 ln, .slice a7 fs.length c7] 35)).ownsRow w1.heap.size 35 2 (.slice a5 L.length c5) L.length (sgC L)) := World.ownsRow.alloc HS.out.t.row _
        have HNw : Hid (∀ j u, [Value.int .i64 ln, Value.slice a7 fs.length c7][j]? = some u → (wr.alloc (.cells #[.int .i64 ln, .slice a7 fs.length c7] 35)).cell? ((⟨wr.heap.size, 0, none⟩ : Addr).add j) = some u) := two_newA _ _ _ _
        have hsb : w1.heap.size ≤ wr.heap.size := HB.out.size
        have HDn : Hid (∀ s8 w8, w8.ownsRow w1.heap.size 35 2 s8 (L.length + 1) (sgC L ++ [.int .i64 ln, .slice a7 fs.length c7]) → Ap (wr.alloc (.cells #[.int .i64 ln, .slice a7 fs.length c7] 35)) (.slice a5 L.length c5) w8 s8 → (OwnSt w1.heap.size w8 s8 (L ++ [(ln, .slice a7 fs.length c7, fs)]) ∧ Bz w8 w1.heap.size ln (.slice a7 fs.length c7) ∧ s8.ownBlock ≠ some w1.heap.size ∧ ∃ a8 c8, s8 = .slice a8 (L.length + 1) c8) ∧ Below w1.heap.size w1 w8) := fun s8 w8 o8 p8 => ⟨St21.done HS.out o8 p8, (HB.out.alloc hsb _).grown p8.grown (by simp; omega) (fun q hq => (World.ownsRow.lt HS.out.t.row q hq).1)⟩
        go_wp2_with (at_builtin; refine wpList_append_apk rfl (.tmp 64) (.tmp 66) 22 rfl w1.heap.size 35 i0 (.agg #[.int .i64 0, .slice none 0 0]) 2 32 Tryd.underlying22 HIn.out.1 HIn.out.2.1 HIn.out.2.2.1 HIn.out.2.2.2 rfl (by decide) (.slice a5 L.length c5) L.length (sgC L) rfl HRow.out ⟨wr.heap.size, 0, none⟩ 1 1 [.int .i64 ln, .slice a7 fs.length c7] rfl rfl HNw.out (by simp [Value.oneCell']) (by unfold maxLen; omega) (by omega) (by simp; omega) ?_; intro v8 w8 own8 ap8; obtain ⟨⟨t8, z8, n8, a8, c8, rfl⟩, b8⟩ := HDn.out v8 w8 own8 ap8; have HT8 : Hid (OwnSt w1.heap.size w8 (.slice a8 (L.length + 1) c8) (L ++ [(ln, .slice a7 fs.length c7, fs)]) ∧ Bz w8 w1.heap.size ln (.slice a7 fs.length c7) ∧ (Value.slice a8 (L.length + 1) c8).ownBlock ≠ some w1.heap.size ∧ Below w1.heap.size w1 w8) := ⟨t8, z8, n8, b8⟩; have y0 := z8.c0; have y1 := z8.c1; have yf0 := z8.fz 0; have yf1 := z8.fz 1; clear own8 ap8 t8 z8 n8 b8)
        go_returns
        rw [HE.out]
        exact ⟨_, L ++ [(ln, .slice a7 fs.length c7, fs)], rfl, OwnSt.mono (by simpa using HT8.out.1) hBs, by rw [sgS_snoc], HB1.out.trans (HT8.out.2.2.2.mono hBs)⟩

end Go.Proofs.YtbeaoekbppdlmaaDoor
