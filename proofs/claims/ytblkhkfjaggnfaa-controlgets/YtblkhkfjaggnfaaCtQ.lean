/-
  A stanza that is being read: the document's put, walked (under way).
  KEEP: Ap put_app step_append_apk len below nil form rd mono on app start at new trans refl kept own row out grown rdz set one more lt size cell some none letL own grown block size shape os tape output setCell heap alloc nil addr last blk take rd tail next step go add put del get look no yes e c f b k n m box take each
-/
import Derived.Test.YtblkhkfjaggnfaaCtF
import Derived.Test.YtblkhkfjaggnfaaAppK
import Derived.Laws.ResultCell
set_option linter.unusedSimpArgs false
set_option linter.unusedVariables false
namespace Go.Proofs.Ytblkhkfjaggnfaa
open Go Go.RowKit

/-- a row of fields of a call's own -/
def fldC (fs : List Fld) : List Value := fs.flatMap (fun f => [strV f.1, strV f.2])
theorem fldC_len (fs : List Fld) : (fldC fs).length = fs.length * 2 := by
  induction fs with
  | nil => rfl
  | cons x r ih => simp only [fldC, List.flatMap_cons, List.length_append, List.length_cons, List.length_nil] at ih ⊢; omega
theorem fldC_snoc (fs : List Fld) (f : Fld) : fldC (fs ++ [f]) = fldC fs ++ [strV f.1, strV f.2] := by simp [fldC]
theorem fldC_at : ∀ (fs : List Fld) (j : Nat), j < fs.length → (fldC fs)[j * 2]? = some (strV (fs.getD j ([], [])).1) ∧ (fldC fs)[j * 2 + 1]? = some (strV (fs.getD j ([], [])).2)
  | x :: r, 0, _ => ⟨rfl, rfl⟩
  | x :: r, j + 1, h => by
    have := fldC_at r j (by simpa using h)
    have e : fldC (x :: r) = strV x.1 :: strV x.2 :: fldC r := rfl
    rw [e, show (j + 1) * 2 = j * 2 + 1 + 1 by omega, show j * 2 + 1 + 1 + 1 = (j * 2 + 1) + 1 + 1 by omega]
    simpa using this
def OwnG (B : Nat) (W : World) (v : Value) (fs : List Fld) : Prop := W.ownsRow B 31 2 v fs.length (fldC fs)
theorem OwnG.nil (B : Nat) (W : World) : OwnG B W (.slice none 0 0) [] := World.ownsRow_nil _ _ _ _
theorem OwnG.below {B : Nat} {W W' : World} {v : Value} {fs : List Fld} (h : OwnG B W v fs) (hb : Below W.heap.size W W') : OwnG B W' v fs := World.ownsRow.kept h (grown_below hb) (one_or _)
theorem OwnG.rd {B : Nat} {W : World} {v : Value} {fs : List Fld} (h : OwnG B W v fs) (h32 : fs.length * 32 ≤ 140737488351232) (he : ∀ f ∈ fs, f.1.length ≤ 281474976710656 ∧ f.2.length ≤ 281474976710656) : RdG W v fs := by
  rcases h.2 with ⟨rfl, hn⟩ | ⟨g, cap, cur, rfl, hg, hh, hn, hm, hs, ht⟩
  · have : fs = [] := List.eq_nil_of_length_eq_zero hn
    subst this
    exact RdG.nil W
  · refine ⟨h32, he, _, cap, rfl, hn, hm, fun hne => ⟨g, 0, rfl, (Array.getElem?_eq_some_iff.1 hh).1, fun j hj => ?_⟩⟩
    have h1 := World.ownsRow.cellAt h (j * 2) (by omega)
    have h2 := World.ownsRow.cellAt h (j * 2 + 1) (by omega)
    obtain ⟨e1, e2⟩ := fldC_at fs j hj
    rw [e1] at h1
    rw [e2] at h2
    exact ⟨by simpa using h1, by simpa using h2⟩
theorem infoG : (Try.prog.info? 31).map (fun i => (i.zero, i.size, i.bytes)) = some (some (.agg #[.string ⟨#[]⟩, .string ⟨#[]⟩]), 2, 32) := by kernel_rfl

def setL : List Fld → (List UInt8 → List UInt8) → List Fld
  | [], _ => []
  | [f], g => [(f.1, g f.2)]
  | f :: r, g => f :: setL r g
/-- what a line does to the stanza that is being read -/
def stepP (now : Stz) (line : List UInt8) (at' : Int) : Except Int Stz :=
  if isBl (line.headD 0) then (if now.2 = [] then .error 210 else .ok (now.1, setL now.2 (fun v => v ++ 10 :: trF line)))
  else if Lib.indexByte line 58 < 0 ∨ nameF (line.take (Lib.indexByte line 58).toNat) = false then .error 210
  else if (getF now.2 (line.take (Lib.indexByte line 58).toNat)).isSome then .error 211
  else .ok (if now.2 = [] then at' else now.1, now.2 ++ [(line.take (Lib.indexByte line 58).toNat, trF (line.drop ((Lib.indexByte line 58).toNat + 1)))])
def PutS (B : Nat) (w : World) (ln : Int) (v : Value) (e : Ending) (w' : World) : Except Int Stz → Prop
  | .error r => e = .returned (.tuple #[.agg #[.int .i64 ln, v], .int .i64 r]) ∧ Below w.heap.size w w'
  | .ok st => ∃ v', e = .returned (.tuple #[.agg #[.int .i64 st.1, v'], .int .i64 0]) ∧ OwnG B w' v' st.2 ∧ w.grownBy w' v.ownBlock ∧ (v'.ownBlock = v.ownBlock ∨ ∀ g, v'.ownBlock = some g → w.heap.size ≤ g)
theorem ret_bz {fn : Func} {p u : Tmp} {tmps : Array Value} {W : World} {D : Nat} {ln : Int} {v : Value} (h : fn.results = #[.cell p 24, .tmp u]) (hp : tmps.getD p undef = .pointer (some ⟨D, 0, none⟩)) (hb : Bz W D ln v) :
    (results fn tmps).run Try.prog W = .ok (.tuple #[.agg #[.int .i64 ln, v], tmps.getD u undef]) W := by
  have c0 := hb.c0
  have c1 := hb.c1
  rw [results_cell_tmp h, hp]
  simp [go_sem, c0, c1]
theorem Bz.setS {W : World} {D : Nat} {ln : Int} {v : Value} (h : Bz W D ln v) (k : Nat) (x : Value) : (W.setCell ⟨D, k, none⟩ x).heap[D]? = some (.cells (#[.int .i64 ln, v].set! k x) 24 (0, 0)) := by
  obtain ⟨hlt, hk⟩ := Array.getElem?_eq_some_iff.1 h
  show (W.heap.modify D _)[D]? = _
  rw [Array.getElem?_eq_getElem (by rw [Array.size_modify]; exact hlt), Array.getElem_modify_self, hk]
  rfl
theorem Bz.s0 {W : World} {D : Nat} {ln : Int} {v : Value} (h : Bz W D ln v) (x : Int) : Bz (W.setCell ⟨D, 0, none⟩ (.int .i64 x)) D x v := h.setS 0 _
theorem Bz.s1 {W : World} {D : Nat} {ln : Int} {v : Value} (h : Bz W D ln v) (x : Value) : Bz (W.setCell ⟨D, 1, none⟩ x) D ln x := h.setS 1 _
/-- the answer's box is filled -/
theorem bz_fill {w W : World} {D B : Nat} {ln : Int} {v : Value} (h : Bz W D ln v) (hb : Below B w W) (hD : B ≤ D) (x : Int) (y : Value) :
    Bz ((W.setCell ⟨D, 0, none⟩ (.int .i64 x)).setCell ⟨D, 1, none⟩ y) D x y ∧ Below B w ((W.setCell ⟨D, 0, none⟩ (.int .i64 x)).setCell ⟨D, 1, none⟩ y) :=
  ⟨(h.s0 x).s1 y, (hb.setCell hD _).setCell hD _⟩

theorem cat21 (x y z : List UInt8) (hz : z = x ++ y) (h : x.length + y.length ≤ 9223372036854775807) (w : World) : (Op.stringOp .add ⟨x.toArray⟩ ⟨y.toArray⟩).run Try.prog w = .ok (.string ⟨z.toArray⟩) w := by
  subst hz
  rw [run_string_add_sum w _ _ (by simp [ByteArray.size]; omega), ByteArray.mk_append_mk]
theorem trF_le (l : List UInt8) : (trF l).length ≤ l.length := by
  unfold trF trR trL
  have h1 := (List.dropWhile_sublist isBl (l := l)).length_le
  have h2 := (List.dropWhile_sublist isBl (l := (l.dropWhile isBl).reverse)).length_le
  simp at h2 ⊢
  omega
theorem setL_eq : ∀ {fs : List Fld} (g : List UInt8 → List UInt8), fs ≠ [] → setL fs g = fs.set (fs.length - 1) ((fs.getD (fs.length - 1) ([], [])).1, g (fs.getD (fs.length - 1) ([], [])).2)
  | [], g, h => absurd rfl h
  | [f], g, _ => rfl
  | f :: f2 :: r, g, _ => by
    have ih := setL_eq (fs := f2 :: r) g (by simp)
    rw [setL, ih]
    · simp
    · simp
theorem OwnG.addr {B : Nat} {W : World} {a : Option Addr} {c : Nat} {fs : List Fld} (h : OwnG B W (.slice a fs.length c) fs) (hn : 0 < fs.length) : ∃ g, a = some ⟨g, 0, none⟩ ∧ B ≤ g := by
  rcases h.2 with ⟨e, hn2⟩ | ⟨g, cap, cur, hv, hg, _⟩
  · omega
  · injection hv with h1 h2 h3
    exact ⟨g, h1, hg⟩
theorem OwnG.last {B : Nat} {W : World} {g c : Nat} {fs : List Fld} (h : OwnG B W (.slice (some ⟨g, 0, none⟩) fs.length c) fs) (hn : fs ≠ []) : W.cell? ⟨g, (fs.length - 1) * 2 + 1, none⟩ = some (strV (fs.getD (fs.length - 1) ([], [])).2) := by
  have hl : 0 < fs.length := by cases fs with | nil => exact absurd rfl hn | cons x r => simp
  have h2 := World.ownsRow.cellAt h ((fs.length - 1) * 2 + 1) (by omega)
  rw [(fldC_at fs (fs.length - 1) (by omega)).2] at h2
  simpa using h2
theorem OwnG.blk {B : Nat} {W : World} {g n c : Nat} {fs : List Fld} (h : OwnG B W (.slice (some ⟨g, 0, none⟩) n c) fs) : g < W.heap.size := by
  rcases h.2 with ⟨e, _⟩ | ⟨g', cap, cur, hv, hg, hh, _⟩
  · cases e
  · injection hv with h1 h2 h3
    injection h1 with h1
    injection h1 with h1
    subst h1
    exact (Array.getElem?_eq_some_iff.1 hh).1
theorem OwnG.lastF {B : Nat} {W : World} {g c : Nat} {fs : List Fld} (h : OwnG B W (.slice (some ⟨g, 0, none⟩) fs.length c) fs) (hn : fs ≠ []) : W.frozen? ⟨g, (fs.length - 1) * 2 + 1, none⟩ = false := by
  rcases h.2 with ⟨e, _⟩ | ⟨g', cap, cur, hv, hg, hh, _⟩
  · cases e
  · injection hv with h1 h2 h3
    injection h1 with h1
    injection h1 with h1
    subst h1
    simp [World.frozen?, hh]
theorem set_heap21 {w : World} {g : Nat} {cur : Array Value} {e : TypeId} {fr : Nat × Nat} (hg : w.heap[g]? = some (.cells cur e fr)) (k : Nat) (x : Value) : (w.setCell ⟨g, k, none⟩ x).heap[g]? = some (.cells (cur.setIfInBounds k x) e fr) := by
  obtain ⟨hlt, hk⟩ := Array.getElem?_eq_some_iff.1 hg
  show (w.heap.modify g _)[g]? = _
  rw [Array.getElem?_eq_getElem (by rw [Array.size_modify]; exact hlt), Array.getElem_modify_self, hk]
  rfl
theorem own_cell21 {w : World} {base e size n g cap k : Nat} {xs : List Value} (h : w.ownsRow base e size (.slice (some ⟨g, 0, none⟩) n cap) n xs) (hk : k < n * size) (x : Value) :
    (w.setCell ⟨g, k, none⟩ x).ownsRow base e size (.slice (some ⟨g, 0, none⟩) n cap) n (xs.set k x) := by
  rcases h.2 with ⟨e1, _⟩ | ⟨g', cap', cur, hv, hb, hg, h1, h2, h3, h4⟩
  · simp at e1
  · injection hv with ha _ hc
    injection ha with ha; injection ha with ha; subst ha; subst hc
    refine ⟨by rw [List.length_set]; exact h.1, .inr ⟨g, cap, cur.setIfInBounds k x, rfl, hb, ?_, h1, h2, by simpa using h3, ?_⟩⟩
    · exact set_heap21 hg k x
    · rw [Array.toList_setIfInBounds, List.take_set, h4]
theorem fldC_set : ∀ (fs : List Fld) (j : Nat) (x : List UInt8), j < fs.length → (fldC fs).set (j * 2 + 1) (strV x) = fldC (fs.set j ((fs.getD j ([], [])).1, x))
  | [], j, x, h => by simp at h
  | f :: r, 0, x, _ => rfl
  | f :: r, j + 1, x, h => by
    have e : fldC (f :: r) = strV f.1 :: strV f.2 :: fldC r := rfl
    have e2 : fldC ((f :: r).set (j + 1) (((f :: r).getD (j + 1) ([], [])).1, x)) = strV f.1 :: strV f.2 :: fldC (r.set j ((r.getD j ([], [])).1, x)) := rfl
    rw [e, e2, ← fldC_set r j x (by simpa using h), show (j + 1) * 2 + 1 = (j * 2 + 1) + 1 + 1 by omega]
    rfl
theorem OwnG.setLast {B : Nat} {W : World} {g c : Nat} {fs : List Fld} (h : OwnG B W (.slice (some ⟨g, 0, none⟩) fs.length c) fs) (hn : fs ≠ []) (x : List UInt8) :
    OwnG B (W.setCell ⟨g, (fs.length - 1) * 2 + 1, none⟩ (strV x)) (.slice (some ⟨g, 0, none⟩) fs.length c) (fs.set (fs.length - 1) ((fs.getD (fs.length - 1) ([], [])).1, x)) := by
  have hl : 0 < fs.length := by cases fs with | nil => exact absurd rfl hn | cons x r => simp
  unfold OwnG
  rw [List.length_set, ← fldC_set fs _ x (by omega)]
  exact own_cell21 h (by omega) _

theorem row_kept21 {W W' : World} {B : Nat} {v : Value} {fs : List Fld} (h : OwnG B W v fs) (hk : ∀ k, v.ownBlock = some k → W'.heap[k]? = W.heap[k]?) : OwnG B W' v fs := by
  refine ⟨h.1, ?_⟩
  rcases h.2 with h2 | ⟨g, cap, cur, rfl, hg, hh, r⟩
  · exact .inl h2
  · exact .inr ⟨g, cap, cur, rfl, hg, (hk g rfl).trans hh, r⟩
theorem put_grown {w W1 : World} {g k1 D : Nat} {x : Value} (h : Below w.heap.size w W1) (hD : w.heap.size ≤ D) (y z : Value) : w.grownBy (((W1.setCell ⟨g, k1, none⟩ x).drew.setCell ⟨D, 0, none⟩ y).setCell ⟨D, 1, none⟩ z) (some g) := by
  have h1 : w.grownBy W1 (some g) := ⟨h.os, h.tape, h.output, h.size, fun k hk _ => h.block k hk⟩
  have h2 : w.grownBy (W1.setCell ⟨g, k1, none⟩ x) (some g) := World.grownBy.trans h1 (grown_set W1 ⟨g, k1, none⟩ x)
  have h3 : w.grownBy (W1.setCell ⟨g, k1, none⟩ x).drew (some g) := ⟨h2.os, h2.tape, h2.output, h2.size, h2.block⟩
  have far : ∀ {W : World} (j : Nat) (u : Value), w.grownBy W (some g) → w.grownBy (W.setCell ⟨D, j, none⟩ u) (some g) := fun {W} j u hw => by
    have hs := grown_set W ⟨D, j, none⟩ u
    exact ⟨hs.os.trans hw.os, hs.tape.trans hw.tape, hs.output.trans hw.output, Nat.le_trans hw.size hs.size, fun k hk hne => (Below.heap_setCell W _ _ k (by simp; omega)).trans (hw.block k hk hne)⟩
  exact far 1 z (far 0 y h3)
theorem OwnG.drew {B : Nat} {W : World} {v : Value} {fs : List Fld} (h : OwnG B W v fs) : OwnG B W.drew v fs := h.below ⟨rfl, rfl, rfl, Nat.le_refl _, fun _ _ => rfl⟩
theorem ownG_far {B : Nat} {W : World} {g n c D : Nat} {fs : List Fld} (h : OwnG B W (.slice (some ⟨g, 0, none⟩) n c) fs) (hD : g ≠ D) (j : Nat) (u : Value) : OwnG B (W.setCell ⟨D, j, none⟩ u) (.slice (some ⟨g, 0, none⟩) n c) fs :=
  row_kept21 h fun k hk => Below.heap_setCell W _ _ k (by simp [Value.ownBlock] at hk; simp; omega)

def PutA (B : Nat) (w : World) (ln : Int) (v : Value) (fs' : List Fld) (wx : World) : Prop :=
  ∃ a8 c8, Bz wx w.heap.size ln (.slice a8 fs'.length c8) ∧ Bz wx (w.heap.size + 1) 0 (.slice none 0 0) ∧ OwnG B wx (.slice a8 fs'.length c8) fs' ∧ w.grownBy wx v.ownBlock ∧ ((Value.slice a8 fs'.length c8).ownBlock = v.ownBlock ∨ ∀ g, (Value.slice a8 fs'.length c8).ownBlock = some g → w.heap.size ≤ g)
theorem row_form21 {B : Nat} {W : World} {e : TypeId} {s n : Nat} {v : Value} {xs : List Value} (h : W.ownsRow B e s v n xs) : ∃ a c, v = .slice a n c := by
  rcases h.2 with ⟨rfl, hn⟩ | ⟨g, cap, cur, hv, _⟩
  · exact ⟨none, 0, by rw [hn]⟩
  · exact ⟨_, cap, hv⟩
theorem OwnG.own {B : Nat} {W : World} {v : Value} {fs : List Fld} (h : OwnG B W v fs) : ∀ g, v.ownBlock = some g → B ≤ g ∧ g < W.heap.size := fun g hg => World.ownsRow.lt h g hg
theorem put_app {B : Nat} {w w3 w8 : World} {ln : Int} {a : Option Addr} {c : Nat} {fs : List Fld} {nl tl : List UInt8} {v8 : Value} {o : Obj} (ho : OwnG B w (.slice a fs.length c) fs) (XB : Below w.heap.size w w3) (X0 : Bz w3 w.heap.size ln (.slice a fs.length c)) (X1 : Bz w3 (w.heap.size + 1) 0 (.slice none 0 0))
    (own8 : w8.ownsRow B 31 2 v8 (fs.length + 1) (fldC fs ++ [strV nl, strV tl])) (ap8 : Ap (w3.alloc o).drew (.slice a fs.length c) w8 v8) :
    (∃ a8 c8, v8 = .slice a8 (fs.length + 1) c8) ∧ Bz w8 w.heap.size ln (.slice a fs.length c) ∧ PutA B w ln (.slice a fs.length c) (fs ++ [(nl, tl)]) (w8.setCell ⟨w.heap.size, 1, none⟩ v8) := by
  obtain ⟨a8, c8, rfl⟩ := row_form21 own8
  have hs3 : w.heap.size + 1 < w3.heap.size := X1.lt
  have hsn : (w3.alloc o).drew.heap.size = w3.heap.size + 1 := by show (w3.alloc o).heap.size = _; simp
  have hv : ∀ g, (Value.slice a fs.length c).ownBlock = some g → g < w.heap.size := fun g hg => (ho.own g hg).2
  have hk : ∀ k, k < w3.heap.size → some k ≠ (Value.slice a fs.length c).ownBlock → w8.heap[k]? = w3.heap[k]? := fun k hk hne => (ap8.grown.block k (by rw [hsn]; omega) hne).trans (Below.heap_alloc w3 o k hk)
  have hD0 : w8.heap[w.heap.size]? = w3.heap[w.heap.size]? := hk _ (by omega) (fun e => by have := hv _ e.symm; omega)
  have hD1 : w8.heap[w.heap.size + 1]? = w3.heap[w.heap.size + 1]? := hk _ (by omega) (fun e => by have := hv _ e.symm; omega)
  have Z0 : Bz w8 w.heap.size ln (.slice a fs.length c) := hD0.trans X0
  have Z1 : Bz w8 (w.heap.size + 1) 0 (.slice none 0 0) := hD1.trans X1
  have ho8 : OwnG B w8 (.slice a8 (fs.length + 1) c8) (fs ++ [(nl, tl)]) := by unfold OwnG; rw [fldC_snoc]; simpa using own8
  have h8n : ∀ g, (Value.slice a8 (fs.length + 1) c8).ownBlock = some g → g ≠ w.heap.size := fun g hg e => by
    rcases ap8.new with h | h
    · have := hv g (h ▸ hg); omega
    · have := h g hg; rw [hsn] at this; omega
  refine ⟨⟨a8, c8, rfl⟩, Z0, a8, c8, ?_, (Below.heap_setCell _ _ _ _ (by simp)).trans Z1, ?_, ?_, ?_⟩
  · rw [List.length_append]; exact Z0.s1 _
  · rw [List.length_append]
    exact row_kept21 ho8 fun k hk2 => Below.heap_setCell _ _ _ _ (by simp; exact h8n k hk2)
  · have g1 := ap8.grown
    have g2 := grown_set w8 ⟨w.heap.size, 1, none⟩ (.slice a8 (fs.length + 1) c8)
    refine ⟨(g2.os.trans g1.os).trans XB.os, (g2.tape.trans g1.tape).trans XB.tape, (g2.output.trans g1.output).trans XB.output, ?_, fun k hk2 hne => ?_⟩
    · have := g1.size; have h5 := g2.size; have h6 := XB.size; rw [hsn] at this; omega
    · exact ((Below.heap_setCell _ _ _ _ (by simp; omega)).trans (hk k (by omega) hne)).trans (XB.block k hk2)
  · rw [List.length_append]
    rcases ap8.new with h | h
    · exact .inl h
    · exact .inr fun g hg => by have := h g hg; rw [hsn] at this; omega
/-- what becomes of it while the answer's box is filled: a new row must not lie in that box, which holds no fields -/
theorem put_out {B : Nat} {w wc : World} {a8 : Option Addr} {L c8 : Nat} {v : Value} {fs' : List Fld} (ho : OwnG B wc (.slice a8 L c8) fs') (hg : w.grownBy wc v.ownBlock) (hn : (Value.slice a8 L c8).ownBlock = v.ownBlock ∨ ∀ g, (Value.slice a8 L c8).ownBlock = some g → w.heap.size ≤ g) (hv : ∀ g, v.ownBlock = some g → g < w.heap.size) (V1 : Bz wc (w.heap.size + 1) 0 (.slice none 0 0)) (y z : Value) :
    OwnG B ((wc.setCell ⟨w.heap.size + 1, 0, none⟩ y).setCell ⟨w.heap.size + 1, 1, none⟩ z) (.slice a8 L c8) fs' ∧ w.grownBy ((wc.setCell ⟨w.heap.size + 1, 0, none⟩ y).setCell ⟨w.heap.size + 1, 1, none⟩ z) v.ownBlock := by
  have hne : ∀ g, (Value.slice a8 L c8).ownBlock = some g → g ≠ w.heap.size + 1 := fun g hg2 e => by
    subst e
    rcases ho.2 with ⟨e1, _⟩ | ⟨g', cap, cur, hv2, _, hh, _⟩
    · rw [e1] at hg2; cases hg2
    · rw [hv2] at hg2
      have : g' = w.heap.size + 1 := by simpa [Value.ownBlock] using hg2
      rw [this, show wc.heap[w.heap.size + 1]? = _ from V1] at hh
      injection hh with hh
      injection hh with _ hh _
      exact absurd hh (by decide)
  have key : ∀ k, k ≠ w.heap.size + 1 → ((wc.setCell ⟨w.heap.size + 1, 0, none⟩ y).setCell ⟨w.heap.size + 1, 1, none⟩ z).heap[k]? = wc.heap[k]? := fun k hk => (Below.heap_setCell _ _ _ _ (by simpa using hk)).trans (Below.heap_setCell _ _ _ _ (by simpa using hk))
  have s1 := grown_set wc ⟨w.heap.size + 1, 0, none⟩ y
  have s2 := grown_set (wc.setCell ⟨w.heap.size + 1, 0, none⟩ y) ⟨w.heap.size + 1, 1, none⟩ z
  exact ⟨row_kept21 ho fun k hk => key k (hne k hk), (s2.os.trans s1.os).trans hg.os, (s2.tape.trans s1.tape).trans hg.tape, (s2.output.trans s1.output).trans hg.output, Nat.le_trans hg.size (Nat.le_trans s1.size s2.size), fun k hk hne2 => (key k (by omega)).trans (hg.block k hk hne2)⟩
theorem cell_of21 {W : World} {D : Nat} {xs : Array Value} {T : TypeId} {f : Nat × Nat} (h : W.heap[D]? = some (.cells xs T f)) (q : Nat) : W.cell? ⟨D, q, none⟩ = xs[q]? := by simp [World.cell?, h]
theorem two_new21 (W : World) (x y : Value) (T : TypeId) : ∀ j u, [x, y][j]? = some u → ((W.alloc (.cells #[x, y] T)).drew).cell? ((⟨W.heap.size, 0, none⟩ : Addr).add j) = some u := fun j u h => by
  have e := World.alloc_heap_new W (.cells #[x, y] T)
  have c : ∀ q, ((W.alloc (.cells #[x, y] T)).drew).cell? ⟨W.heap.size, q, none⟩ = #[x, y][q]? := fun q => by
    show (W.alloc (.cells #[x, y] T)).cell? _ = _
    exact cell_of21 e q
  rcases j with _ | _ | j
  · simp at h; subst h; exact c 0
  · simp at h; subst h; exact c 1
  · simp at h

end Go.Proofs.Ytblkhkfjaggnfaa
