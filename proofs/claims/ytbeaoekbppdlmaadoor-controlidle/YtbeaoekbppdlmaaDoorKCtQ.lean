/-
  A stanza that is being read: the document's put, walked (under way).
  KEEP: Ap put_app step_append_apk len below nil form rd mono on app start at new trans refl kept own row out grown rdz set one more lt size cell some none letL own grown block size shape os tape output setCell heap alloc nil addr last blk take rd tail next step go add put del get look no yes e c f b k n m box take each
-/
import Derived.Test.YtbeaoekbppdlmaaDoorKCtF
import Derived.Test.YtbeaoekbppdlmaaDoorAppK
import Derived.Laws.ResultCell
set_option linter.unusedSimpArgs false
set_option linter.unusedVariables false
namespace Go.Proofs.YtbeaoekbppdlmaaDoor
open Go Go.RowKit

/-- a row of fields of a call's own -/
def fldC (fs : List Fld) : List Value := fs.flatMap (fun f => [strV f.1, strV f.2])
theorem fldC_len (fs : List Fld) : (fldC fs).length = fs.length * 2 := by
  induction fs with
  | nil => rfl
  | cons x r ih => simp only [fldC, List.flatMap_cons, List.length_append, List.length_cons, List.length_nil] at ih ⊢; omega
theorem fldC_snoc (fs : List Fld) (f : Fld) : fldC (fs ++ [f]) = fldC fs ++ [strV f.1, strV f.2] := by simp [fldC]
theorem fldC_at : ∀ (fs : List Fld) (j : Nat), j < fs.length → (fldC fs)[j * 2]? = some (strV (fs.getD j ([], [])).1) ∧ (fldC fs)[j * 2 + 1]? = some (strV (fs.getD j ([], [])).2)
  | x :: r, 0, _ => ⟨rfl, rfl⟩
  | x :: r, j + 1, h => by
    have := fldC_at r j (by simpa using h)
    have e : fldC (x :: r) = strV x.1 :: strV x.2 :: fldC r := rfl
    rw [e, show (j + 1) * 2 = j * 2 + 1 + 1 by omega, show j * 2 + 1 + 1 + 1 = (j * 2 + 1) + 1 + 1 by omega]
    simpa using this
def OwnG (B : Nat) (W : World) (v : Value) (fs : List Fld) : Prop := W.ownsRow B 50 2 v fs.length (fldC fs)
theorem OwnG.nil (B : Nat) (W : World) : OwnG B W (.slice none 0 0) [] := World.ownsRow_nil _ _ _ _
theorem OwnG.below {B : Nat} {W W' : World} {v : Value} {fs : List Fld} (h : OwnG B W v fs) (hb : Below W.heap.size W W') : OwnG B W' v fs := World.ownsRow.kept h (grown_below hb) (one_or _)
theorem OwnG.rd {B : Nat} {W : World} {v : Value} {fs : List Fld} (h : OwnG B W v fs) (h32 : fs.length * 32 ≤ 140737488351232) (he : ∀ f ∈ fs, f.1.length ≤ 281474976710656 ∧ f.2.length ≤ 281474976710656) : RdG W v fs := by
  rcases h.2 with ⟨rfl, hn⟩ | ⟨g, cap, cur, rfl, hg, hh, hn, hm, hs, ht⟩
  · have : fs = [] := List.eq_nil_of_length_eq_zero hn
    subst this
    exact RdG.nil W
  · refine ⟨h32, he, _, cap, rfl, hn, hm, fun hne => ⟨g, 0, rfl, (Array.getElem?_eq_some_iff.1 hh).1, fun j hj => ?_⟩⟩
    have h1 := World.ownsRow.cellAt h (j * 2) (by omega)
    have h2 := World.ownsRow.cellAt h (j * 2 + 1) (by omega)
    obtain ⟨e1, e2⟩ := fldC_at fs j hj
    rw [e1] at h1
    rw [e2] at h2
    exact ⟨by simpa using h1, by simpa using h2⟩
theorem infoG : (Tryd.prog.info? 50).map (fun i => (i.zero, i.size, i.bytes)) = some (some (.agg #[.string ⟨#[]⟩, .string ⟨#[]⟩]), 2, 32) := by kernel_rfl

def setL : List Fld → (List UInt8 → List UInt8) → List Fld
  | [], _ => []
  | [f], g => [(f.1, g f.2)]
  | f :: r, g => f :: setL r g
/-- what a line does to the stanza that is being read -/
def stepP (now : Stz) (line : List UInt8) (at' : Int) : Except Int Stz :=
  if isBl (line.headD 0) then (if now.2 = [] then .error 210 else .ok (now.1, setL now.2 (fun v => v ++ 10 :: trF line)))
  else if Lib.indexByte line 58 < 0 ∨ nameF (line.take (Lib.indexByte line 58).toNat) = false then .error 210
  else if (getF now.2 (line.take (Lib.indexByte line 58).toNat)).isSome then .error 211
  else .ok (if now.2 = [] then at' else now.1, now.2 ++ [(line.take (Lib.indexByte line 58).toNat, trF (line.drop ((Lib.indexByte line 58).toNat + 1)))])
def PutS (B : Nat) (w : World) (ln : Int) (v : Value) (e : Ending) (w' : World) : Except Int Stz → Prop
  | .error r => e = .returned (.tuple #[.agg #[.int .i64 ln, v], .int .i64 r]) ∧ Below w.heap.size w w'
  | .ok st => ∃ v', e = .returned (.tuple #[.agg #[.int .i64 st.1, v'], .int .i64 0]) ∧ OwnG B w' v' st.2 ∧ w.grownBy w' v.ownBlock ∧ (v'.ownBlock = v.ownBlock ∨ ∀ g, v'.ownBlock = some g → w.heap.size ≤ g)
theorem ret_bz {fn : Func} {p u : Tmp} {tmps : Array Value} {W : World} {D : Nat} {ln : Int} {v : Value} (h : fn.results = #[.cell p 35, .tmp u]) (hp : tmps.getD p undef = .pointer (some ⟨D, 0, none⟩)) (hb : Bz W D ln v) :
    (results fn tmps).run Tryd.prog W = .ok (.tuple #[.agg #[.int .i64 ln, v], tmps.getD u undef]) W := by
  have c0 := hb.c0
  have c1 := hb.c1
  rw [results_cell_tmp h, hp]
  simp [go_sem, c0, c1]
theorem Bz.setS {W : World} {D : Nat} {ln : Int} {v : Value} (h : Bz W D ln v) (k : Nat) (x : Value) : (W.setCell ⟨D, k, none⟩ x).heap[D]? = some (.cells (#[.int .i64 ln, v].set! k x) 35 (0, 0)) := by
  obtain ⟨hlt, hk⟩ := Array.getElem?_eq_some_iff.1 h
  show (W.heap.modify D _)[D]? = _
  rw [Array.getElem?_eq_getElem (by rw [Array.size_modify]; exact hlt), Array.getElem_modify_self, hk]
  rfl
theorem Bz.s0 {W : World} {D : Nat} {ln : Int} {v : Value} (h : Bz W D ln v) (x : Int) : Bz (W.setCell ⟨D, 0, none⟩ (.int .i64 x)) D x v := h.setS 0 _
theorem Bz.s1 {W : World} {D : Nat} {ln : Int} {v : Value} (h : Bz W D ln v) (x : Value) : Bz (W.setCell ⟨D, 1, none⟩ x) D ln x := h.setS 1 _
/-- the answer's box is filled -/
theorem bz_fill {w W : World} {D B : Nat} {ln : Int} {v : Value} (h : Bz W D ln v) (hb : Below B w W) (hD : B ≤ D) (x : Int) (y : Value) :
    Bz ((W.setCell ⟨D, 0, none⟩ (.int .i64 x)).setCell ⟨D, 1, none⟩ y) D x y ∧ Below B w ((W.setCell ⟨D, 0, none⟩ (.int .i64 x)).setCell ⟨D, 1, none⟩ y) :=
  ⟨(h.s0 x).s1 y, (hb.setCell hD _).setCell hD _⟩

theorem cat21 (x y z : List UInt8) (hz : z = x ++ y) (h : x.length + y.length ≤ 9223372036854775807) (w : World) : (Op.stringOp .add ⟨x.toArray⟩ ⟨y.toArray⟩).run Tryd.prog w = .ok (.string ⟨z.toArray⟩) w := by
  subst hz
  rw [run_string_add_sum w _ _ (by simp [ByteArray.size]; omega), ByteArray.mk_append_mk]
theorem trF_le (l : List UInt8) : (trF l).length ≤ l.length := by
  unfold trF trR trL
  have h1 := (List.dropWhile_sublist isBl (l := l)).length_le
  have h2 := (List.dropWhile_sublist isBl (l := (l.dropWhile isBl).reverse)).length_le
  simp at h2 ⊢
  omega
theorem setL_eq : ∀ {fs : List Fld} (g : List UInt8 → List UInt8), fs ≠ [] → setL fs g = fs.set (fs.length - 1) ((fs.getD (fs.length - 1) ([], [])).1, g (fs.getD (fs.length - 1) ([], [])).2)
  | [], g, h => absurd rfl h
  | [f], g, _ => rfl
  | f :: f2 :: r, g, _ => by
    have ih := setL_eq (fs := f2 :: r) g (by simp)
    rw [setL, ih]
    · simp
    · simp
theorem OwnG.addr {B : Nat} {W : World} {a : Option Addr} {c : Nat} {fs : List Fld} (h : OwnG B W (.slice a fs.length c) fs) (hn : 0 < fs.length) : ∃ g, a = some ⟨g, 0, none⟩ ∧ B ≤ g := by
  rcases h.2 with ⟨e, hn2⟩ | ⟨g, cap, cur, hv, hg, _⟩
  · omega
  · injection hv with h1 h2 h3
    exact ⟨g, h1, hg⟩
theorem OwnG.last {B : Nat} {W : World} {g c : Nat} {fs : List Fld} (h : OwnG B W (.slice (some ⟨g, 0, none⟩) fs.length c) fs) (hn : fs ≠ []) : W.cell? ⟨g, (fs.length - 1) * 2 + 1, none⟩ = some (strV (fs.getD (fs.length - 1) ([], [])).2) := by
  have hl : 0 < fs.length := by cases fs with | nil => exact absurd rfl hn | cons x r => simp
  have h2 := World.ownsRow.cellAt h ((fs.length - 1) * 2 + 1) (by omega)
  rw [(fldC_at fs (fs.length - 1) (by omega)).2] at h2
  simpa using h2
theorem OwnG.blk {B : Nat} {W : World} {g n c : Nat} {fs : List Fld} (h : OwnG B W (.slice (some ⟨g, 0, none⟩) n c) fs) : g < W.heap.size := by
  rcases h.2 with ⟨e, _⟩ | ⟨g', cap, cur, hv, hg, hh, _⟩
  · cases e
  · injection hv with h1 h2 h3
    injection h1 with h1
    injection h1 with h1
    subst h1
    exact (Array.getElem?_eq_some_iff.1 hh).1
theorem OwnG.lastF {B : Nat} {W : World} {g c : Nat} {fs : List Fld} (h : OwnG B W (.slice (some ⟨g, 0, none⟩) fs.length c) fs) (hn : fs ≠ []) : W.frozen? ⟨g, (fs.length - 1) * 2 + 1, none⟩ = false := by
  rcases h.2 with ⟨e, _⟩ | ⟨g', cap, cur, hv, hg, hh, _⟩
  · cases e
  · injection hv with h1 h2 h3
    injection h1 with h1
    injection h1 with h1
    subst h1
    simp [World.frozen?, hh]
theorem set_heap21 {w : World} {g : Nat} {cur : Array Value} {e : TypeId} {fr : Nat × Nat} (hg : w.heap[g]? = some (.cells cur e fr)) (k : Nat) (x : Value) : (w.setCell ⟨g, k, none⟩ x).heap[g]? = some (.cells (cur.setIfInBounds k x) e fr) := by
  obtain ⟨hlt, hk⟩ := Array.getElem?_eq_some_iff.1 hg
  show (w.heap.modify g _)[g]? = _
  rw [Array.getElem?_eq_getElem (by rw [Array.size_modify]; exact hlt), Array.getElem_modify_self, hk]
  rfl
theorem own_cell21 {w : World} {base e size n g cap k : Nat} {xs : List Value} (h : w.ownsRow base e size (.slice (some ⟨g, 0, none⟩) n cap) n xs) (hk : k < n * size) (x : Value) :
    (w.setCell ⟨g, k, none⟩ x).ownsRow base e size (.slice (some ⟨g, 0, none⟩) n cap) n (xs.set k x) := by
  rcases h.2 with ⟨e1, _⟩ | ⟨g', cap', cur, hv, hb, hg, h1, h2, h3, h4⟩
  · simp at e1
  · injection hv with ha _ hc
    injection ha with ha; injection ha with ha; subst ha; subst hc
    refine ⟨by rw [List.length_set]; exact h.1, .inr ⟨g, cap, cur.setIfInBounds k x, rfl, hb, ?_, h1, h2, by simpa using h3, ?_⟩⟩
    · exact set_heap21 hg k x
    · rw [Array.toList_setIfInBounds, List.take_set, h4]
theorem fldC_set : ∀ (fs : List Fld) (j : Nat) (x : List UInt8), j < fs.length → (fldC fs).set (j * 2 + 1) (strV x) = fldC (fs.set j ((fs.getD j ([], [])).1, x))
  | [], j, x, h => by simp at h
  | f :: r, 0, x, _ => rfl
  | f :: r, j + 1, x, h => by
    have e : fldC (f :: r) = strV f.1 :: strV f.2 :: fldC r := rfl
    have e2 : fldC ((f :: r).set (j + 1) (((f :: r).getD (j + 1) ([], [])).1, x)) = strV f.1 :: strV f.2 :: fldC (r.set j ((r.getD j ([], [])).1, x)) := rfl
    rw [e, e2, ← fldC_set r j x (by simpa using h), show (j + 1) * 2 + 1 = (j * 2 + 1) + 1 + 1 by omega]
    rfl
theorem OwnG.setLast {B : Nat} {W : World} {g c : Nat} {fs : List Fld} (h : OwnG B W (.slice (some ⟨g, 0, none⟩) fs.length c) fs) (hn : fs ≠ []) (x : List UInt8) :
    OwnG B (W.setCell ⟨g, (fs.length - 1) * 2 + 1, none⟩ (strV x)) (.slice (some ⟨g, 0, none⟩) fs.length c) (fs.set (fs.length - 1) ((fs.getD (fs.length - 1) ([], [])).1, x)) := by
  have hl : 0 < fs.length := by cases fs with | nil => exact absurd rfl hn | cons x r => simp
  unfold OwnG
  rw [List.length_set, ← fldC_set fs _ x (by omega)]
  exact own_cell21 h (by omega) _

theorem row_kept21 {W W' : World} {B : Nat} {v : Value} {fs : List Fld} (h : OwnG B W v fs) (hk : ∀ k, v.ownBlock = some k → W'.heap[k]? = W.heap[k]?) : OwnG B W' v fs := by
  refine ⟨h.1, ?_⟩
  rcases h.2 with h2 | ⟨g, cap, cur, rfl, hg, hh, r⟩
  · exact .inl h2
  · exact .inr ⟨g, cap, cur, rfl, hg, (hk g rfl).trans hh, r⟩
theorem put_grown {w W1 : World} {g k1 D : Nat} {x : Value} (h : Below w.heap.size w W1) (hD : w.heap.size ≤ D) (y z : Value) : w.grownBy (((W1.setCell ⟨g, k1, none⟩ x).drew.setCell ⟨D, 0, none⟩ y).setCell ⟨D, 1, none⟩ z) (some g) := by
  have h1 : w.grownBy W1 (some g) := ⟨h.os, h.tape, h.output, h.size, fun k hk _ => h.block k hk⟩
  have h2 : w.grownBy (W1.setCell ⟨g, k1, none⟩ x) (some g) := World.grownBy.trans h1 (grown_set W1 ⟨g, k1, none⟩ x)
  have h3 : w.grownBy (W1.setCell ⟨g, k1, none⟩ x).drew (some g) := ⟨h2.os, h2.tape, h2.output, h2.size, h2.block⟩
  have far : ∀ {W : World} (j : Nat) (u : Value), w.grownBy W (some g) → w.grownBy (W.setCell ⟨D, j, none⟩ u) (some g) := fun {W} j u hw => by
    have hs := grown_set W ⟨D, j, none⟩ u
    exact ⟨hs.os.trans hw.os, hs.tape.trans hw.tape, hs.output.trans hw.output, Nat.le_trans hw.size hs.size, fun k hk hne => (Below.heap_setCell W _ _ k (by simp; omega)).trans (hw.block k hk hne)⟩
  exact far 1 z (far 0 y h3)
theorem OwnG.drew {B : Nat} {W : World} {v : Value} {fs : List Fld} (h : OwnG B W v fs) : OwnG B W.drew v fs := h.below ⟨rfl, rfl, rfl, Nat.le_refl _, fun _ _ => rfl⟩
theorem ownG_far {B : Nat} {W : World} {g n c D : Nat} {fs : List Fld} (h : OwnG B W (.slice (some ⟨g, 0, none⟩) n c) fs) (hD : g ≠ D) (j : Nat) (u : Value) : OwnG B (W.setCell ⟨D, j, none⟩ u) (.slice (some ⟨g, 0, none⟩) n c) fs :=
  row_kept21 h fun k hk => Below.heap_setCell W _ _ k (by simp [Value.ownBlock] at hk; simp; omega)

def PutA (B : Nat) (w : World) (ln : Int) (v : Value) (fs' : List Fld) (wx : World) : Prop :=
  ∃ a8 c8, Bz wx w.heap.size ln (.slice a8 fs'.length c8) ∧ Bz wx (w.heap.size + 1) 0 (.slice none 0 0) ∧ OwnG B wx (.slice a8 fs'.length c8) fs' ∧ w.grownBy wx v.ownBlock ∧ ((Value.slice a8 fs'.length c8).ownBlock = v.ownBlock ∨ ∀ g, (Value.slice a8 fs'.length c8).ownBlock = some g → w.heap.size ≤ g)
theorem row_form21 {B : Nat} {W : World} {e : TypeId} {s n : Nat} {v : Value} {xs : List Value} (h : W.ownsRow B e s v n xs) : ∃ a c, v = .slice a n c := by
  rcases h.2 with ⟨rfl, hn⟩ | ⟨g, cap, cur, hv, _⟩
  · exact ⟨none, 0, by rw [hn]⟩
  · exact ⟨_, cap, hv⟩
theorem OwnG.own {B : Nat} {W : World} {v : Value} {fs : List Fld} (h : OwnG B W v fs) : ∀ g, v.ownBlock = some g → B ≤ g ∧ g < W.heap.size := fun g hg => World.ownsRow.lt h g hg
theorem put_app {B : Nat} {w w3 w8 : World} {ln : Int} {a : Option Addr} {c : Nat} {fs : List Fld} {nl tl : List UInt8} {v8 : Value} {o : Obj} (ho : OwnG B w (.slice a fs.length c) fs) (XB : Below w.heap.size w w3) (X0 : Bz w3 w.heap.size ln (.slice a fs.length c)) (X1 : Bz w3 (w.heap.size + 1) 0 (.slice none 0 0))
    (own8 : w8.ownsRow B 50 2 v8 (fs.length + 1) (fldC fs ++ [strV nl, strV tl])) (ap8 : Ap (w3.alloc o).drew (.slice a fs.length c) w8 v8) :
    (∃ a8 c8, v8 = .slice a8 (fs.length + 1) c8) ∧ Bz w8 w.heap.size ln (.slice a fs.length c) ∧ PutA B w ln (.slice a fs.length c) (fs ++ [(nl, tl)]) (w8.setCell ⟨w.heap.size, 1, none⟩ v8) := by
  obtain ⟨a8, c8, rfl⟩ := row_form21 own8
  have hs3 : w.heap.size + 1 < w3.heap.size := X1.lt
  have hsn : (w3.alloc o).drew.heap.size = w3.heap.size + 1 := by show (w3.alloc o).heap.size = _; simp
  have hv : ∀ g, (Value.slice a fs.length c).ownBlock = some g → g < w.heap.size := fun g hg => (ho.own g hg).2
  have hk : ∀ k, k < w3.heap.size → some k ≠ (Value.slice a fs.length c).ownBlock → w8.heap[k]? = w3.heap[k]? := fun k hk hne => (ap8.grown.block k (by rw [hsn]; omega) hne).trans (Below.heap_alloc w3 o k hk)
  have hD0 : w8.heap[w.heap.size]? = w3.heap[w.heap.size]? := hk _ (by omega) (fun e => by have := hv _ e.symm; omega)
  have hD1 : w8.heap[w.heap.size + 1]? = w3.heap[w.heap.size + 1]? := hk _ (by omega) (fun e => by have := hv _ e.symm; omega)
  have Z0 : Bz w8 w.heap.size ln (.slice a fs.length c) := hD0.trans X0
  have Z1 : Bz w8 (w.heap.size + 1) 0 (.slice none 0 0) := hD1.trans X1
  have ho8 : OwnG B w8 (.slice a8 (fs.length + 1) c8) (fs ++ [(nl, tl)]) := by unfold OwnG; rw [fldC_snoc]; simpa using own8
  have h8n : ∀ g, (Value.slice a8 (fs.length + 1) c8).ownBlock = some g → g ≠ w.heap.size := fun g hg e => by
    rcases ap8.new with h | h
    · have := hv g (h ▸ hg); omega
    · have := h g hg; rw [hsn] at this; omega
  refine ⟨⟨a8, c8, rfl⟩, Z0, a8, c8, ?_, (Below.heap_setCell _ _ _ _ (by simp)).trans Z1, ?_, ?_, ?_⟩
  · rw [List.length_append]; exact Z0.s1 _
  · rw [List.length_append]
    exact row_kept21 ho8 fun k hk2 => Below.heap_setCell _ _ _ _ (by simp; exact h8n k hk2)
  · have g1 := ap8.grown
    have g2 := grown_set w8 ⟨w.heap.size, 1, none⟩ (.slice a8 (fs.length + 1) c8)
    refine ⟨(g2.os.trans g1.os).trans XB.os, (g2.tape.trans g1.tape).trans XB.tape, (g2.output.trans g1.output).trans XB.output, ?_, fun k hk2 hne => ?_⟩
    · have := g1.size; have h5 := g2.size; have h6 := XB.size; rw [hsn] at this; omega
    · exact ((Below.heap_setCell _ _ _ _ (by simp; omega)).trans (hk k (by omega) hne)).trans (XB.block k hk2)
  · rw [List.length_append]
    rcases ap8.new with h | h
    · exact .inl h
    · exact .inr fun g hg => by have := h g hg; rw [hsn] at this; omega
/-- what becomes of it while the answer's box is filled: a new row must not lie in that box, which holds no fields -/
theorem put_out {B : Nat} {w wc : World} {a8 : Option Addr} {L c8 : Nat} {v : Value} {fs' : List Fld} (ho : OwnG B wc (.slice a8 L c8) fs') (hg : w.grownBy wc v.ownBlock) (hn : (Value.slice a8 L c8).ownBlock = v.ownBlock ∨ ∀ g, (Value.slice a8 L c8).ownBlock = some g → w.heap.size ≤ g) (hv : ∀ g, v.ownBlock = some g → g < w.heap.size) (V1 : Bz wc (w.heap.size + 1) 0 (.slice none 0 0)) (y z : Value) :
    OwnG B ((wc.setCell ⟨w.heap.size + 1, 0, none⟩ y).setCell ⟨w.heap.size + 1, 1, none⟩ z) (.slice a8 L c8) fs' ∧ w.grownBy ((wc.setCell ⟨w.heap.size + 1, 0, none⟩ y).setCell ⟨w.heap.size + 1, 1, none⟩ z) v.ownBlock := by
  have hne : ∀ g, (Value.slice a8 L c8).ownBlock = some g → g ≠ w.heap.size + 1 := fun g hg2 e => by
    subst e
    rcases ho.2 with ⟨e1, _⟩ | ⟨g', cap, cur, hv2, _, hh, _⟩
    · rw [e1] at hg2; cases hg2
    · rw [hv2] at hg2
      have : g' = w.heap.size + 1 := by simpa [Value.ownBlock] using hg2
      rw [this, show wc.heap[w.heap.size + 1]? = _ from V1] at hh
      injection hh with hh
      injection hh with _ hh _
      exact absurd hh (by decide)
  have key : ∀ k, k ≠ w.heap.size + 1 → ((wc.setCell ⟨w.heap.size + 1, 0, none⟩ y).setCell ⟨w.heap.size + 1, 1, none⟩ z).heap[k]? = wc.heap[k]? := fun k hk => (Below.heap_setCell _ _ _ _ (by simpa using hk)).trans (Below.heap_setCell _ _ _ _ (by simpa using hk))
  have s1 := grown_set wc ⟨w.heap.size + 1, 0, none⟩ y
  have s2 := grown_set (wc.setCell ⟨w.heap.size + 1, 0, none⟩ y) ⟨w.heap.size + 1, 1, none⟩ z
  exact ⟨row_kept21 ho fun k hk => key k (hne k hk), (s2.os.trans s1.os).trans hg.os, (s2.tape.trans s1.tape).trans hg.tape, (s2.output.trans s1.output).trans hg.output, Nat.le_trans hg.size (Nat.le_trans s1.size s2.size), fun k hk hne2 => (key k (by omega)).trans (hg.block k hk hne2)⟩
theorem cell_of21 {W : World} {D : Nat} {xs : Array Value} {T : TypeId} {f : Nat × Nat} (h : W.heap[D]? = some (.cells xs T f)) (q : Nat) : W.cell? ⟨D, q, none⟩ = xs[q]? := by simp [World.cell?, h]
theorem two_new21 (W : World) (x y : Value) (T : TypeId) : ∀ j u, [x, y][j]? = some u → ((W.alloc (.cells #[x, y] T)).drew).cell? ((⟨W.heap.size, 0, none⟩ : Addr).add j) = some u := fun j u h => by
  have e := World.alloc_heap_new W (.cells #[x, y] T)
  have c : ∀ q, ((W.alloc (.cells #[x, y] T)).drew).cell? ⟨W.heap.size, q, none⟩ = #[x, y][q]? := fun q => by
    show (W.alloc (.cells #[x, y] T)).cell? _ = _
    exact cell_of21 e q
  rcases j with _ | _ | j
  · simp at h; subst h; exact c 0
  · simp at h; subst h; exact c 1
  · simp at h

set_option maxHeartbeats 6400000 in
set_option maxRecDepth 100000 in
theorem rPut21_any (ln : Int) (v : Value) (fs : List Fld) (s : ByteArray) (at' : Int) (w : World) (B : Nat) (ho : OwnG B w v fs) (hB : B ≤ w.heap.size) (h0 : 0 < s.size) (hs : s.size ≤ 1099511627776) (h32 : fs.length * 32 ≤ 70368744175616) (he : ∀ f ∈ fs, f.1.length ≤ 1099511627776 ∧ f.2.length ≤ 1099511627776) :
    Calls Tryd.prog 46 #[.agg #[.int .i64 ln, v], .string s, .int .i64 at'] w fun e w' => PutS B w ln v e w' (stepP (ln, fs) s.data.toList at') := by
  have HO : Hid (OwnG B w v fs) := ho
  have hrd := ho.rd (by omega) (fun f hf => by have := he f hf; omega)
  have HRd : Hid (RdG w v fs) := hrd
  obtain ⟨a, c, rfl, hc, hm, _⟩ := hrd.form
  have HBl : Hid (∀ W, Calls Tryd.prog 58 #[.int .u8 (((s[0]'h0).toNat : Nat) : Int)] W fun e w' => e = .returned (.bool (blZ ((s[0]'h0).toNat : Int))) ∧ w' = W) := fun W => rBlank21_any _ W
  have hbz := blZ_byte (s[0]'h0)
  have hhd : s.data.toList.headD 0 = s[0]'h0 := by rw [ba_head h0]; rfl
  obtain ⟨P, hP⟩ : ∃ P, P = stepP (ln, fs) s.data.toList at' := ⟨_, rfl⟩
  rw [← hP]
  have HP : Hid (P = stepP (ln, fs) s.data.toList at') := hP
  have HE : Hid (∀ f ∈ fs, f.1.length ≤ 1099511627776 ∧ f.2.length ≤ 1099511627776) := he
  clear hP ho hrd he
  cases hb : blZ ((s[0]'h0).toNat : Int)
  case true =>
    rw [hb] at HBl hbz
    by_cases hn : fs.length = 0
    · have hn0 : fs = [] := List.eq_nil_of_length_eq_zero hn
      have HPe : Hid (P = .error 210) := by show _ = _; rw [HP.out, stepP, if_pos (by rw [hhd]; exact hbz.symm), if_pos hn0]
      have hf0 : ((fs.length : Int) == 0) = true := beq_iff_eq.2 (by omega)
      clear hbz hhd hb hn hn0 HP
      go_enter Tryd.func46, Tryd.ntmps46
      go_wp2_with fail
      obtain ⟨W1, hW1⟩ : ∃ W1, W1 = ((w.alloc (.cells #[.int .i64 ln, .slice a fs.length c] 35)).alloc (.cells #[.int .i64 0, .slice none 0 0] 35)) := ⟨_, rfl⟩
      have Z0 : Hid (Bz W1 w.heap.size ln (.slice a fs.length c)) := by rw [hW1]; exact (Below.heap_alloc _ _ _ (by simp)).trans (World.alloc_heap_new w _)
      have Z1 : Hid (Bz W1 (w.heap.size + 1) 0 (.slice none 0 0)) := by rw [hW1]; exact Bz.mk1 _ _ _ _ (by simp)
      have B1 : Hid (Below w.heap.size w W1) := by rw [hW1]; exact Below.alloc (Below.alloc (Below.refl _ _) (Nat.le_refl _) _) (by simp) _
      rw [← hW1]
      clear hW1
      refine (HBl.out _).mono ?_
      rintro e w9 ⟨rfl, h9⟩
      have h9s := h9.symm
      clear h9
      subst h9s
      clear HBl
      have z00 := Z0.out.c0
      have z01 := Z0.out.c1
      have z10 := Z1.out.c0
      have z11 := Z1.out.c1
      have zf0 := Z1.out.fz 0
      have zf1 := Z1.out.fz 1
      have HX : Hid (Bz ((W1.setCell ⟨w.heap.size + 1, 0, none⟩ (.int .i64 ln)).setCell ⟨w.heap.size + 1, 1, none⟩ (.slice a fs.length c)) (w.heap.size + 1) ln (.slice a fs.length c) ∧ Below w.heap.size w ((W1.setCell ⟨w.heap.size + 1, 0, none⟩ (.int .i64 ln)).setCell ⟨w.heap.size + 1, 1, none⟩ (.slice a fs.length c))) := bz_fill Z1.out B1.out (by omega) _ _
      go_wp2
      all_goals
        generalize ((W1.setCell ⟨w.heap.size + 1, 0, none⟩ (.int .i64 ln)).setCell ⟨w.heap.size + 1, 1, none⟩ (.slice a fs.length c)) = Wx at *
        refine bodyPost_ret (ret_bz rfl rfl HX.out.1) rfl ?_
        rw [HPe.out]
        exact ⟨rfl, HX.out.2⟩
    · have hnn : fs ≠ [] := fun e => hn (by rw [e]; rfl)
      obtain ⟨g, rfl, hgB⟩ := HO.out.addr (by omega)
      have hf0 : ((fs.length : Int) == 0) = false := beq_eq_false_iff_ne.2 (by omega)
      have hlast := fs.length - 1
      obtain ⟨lv, hlv⟩ : ∃ lv, lv = (fs.getD (fs.length - 1) ([], [])).2 := ⟨_, rfl⟩
      have HPe : Hid (P = .ok (ln, setL fs (fun v => v ++ 10 :: trF s.data.toList))) := by show _ = _; rw [HP.out, stepP, if_pos (by rw [hhd]; exact hbz.symm), if_neg hnn]
      have HSet : Hid (setL fs (fun v => v ++ 10 :: trF s.data.toList) = fs.set (fs.length - 1) ((fs.getD (fs.length - 1) ([], [])).1, lv ++ 10 :: trF s.data.toList)) := by show _ = _; rw [hlv]; exact setL_eq _ hnn
      have hlz := (HE.out _ (getD_mem' (l := fs) (k := fs.length - 1) (d := ([], [])) (by omega))).2
      rw [← hlv] at hlz
      have HTr : Hid (∀ W, Calls Tryd.prog 43 #[.string s] W fun e w' => e = .returned (.string ⟨(trF s.data.toList).toArray⟩) ∧ w' = W) := fun W => rTrim21_any s W (by omega)
      have htl := trF_le s.data.toList
      have hsl := size20 s
      have hcat1 : ∀ W, (Op.stringOp .add ⟨lv.toArray⟩ ⟨#[10]⟩).run Tryd.prog W = .ok (.string ⟨(lv ++ [10]).toArray⟩) W := cat21 lv [10] _ rfl (by simp; omega)
      have hcat2 : ∀ W, (Op.stringOp .add ⟨(lv ++ [10]).toArray⟩ ⟨(trF s.data.toList).toArray⟩).run Tryd.prog W = .ok (.string ⟨(lv ++ 10 :: trF s.data.toList).toArray⟩) W := cat21 (lv ++ [10]) (trF s.data.toList) _ (by simp) (by simp; omega)
      have hcl := HO.out.last hnn
      have hgl := HO.out.blk
      rw [← hlv] at hcl
      have HSt := fun W (hW : OwnG B W (.slice (some ⟨g, 0, none⟩) fs.length c) fs) => hW.setLast hnn (lv ++ 10 :: trF s.data.toList)
      clear hbz hhd hb HP htl hsl hlz
      generalize trF s.data.toList = tr at *
      obtain ⟨NV, hNV⟩ : ∃ NV : ByteArray, NV = ⟨(lv ++ 10 :: tr).toArray⟩ := ⟨_, rfl⟩
      rw [← hNV] at hcat2
      have HNV : Hid (strV (lv ++ 10 :: tr) = .string NV) := by show _ = _; rw [hNV]; rfl
      clear hNV
      obtain ⟨m, hmm⟩ : ∃ m, fs.length - 1 = m := ⟨_, rfl⟩
      have hmn : fs.length = m + 1 := by omega
      have HMn : Hid (fs.length = m + 1) := hmn
      have HMm : Hid (fs.length - 1 = m) := hmm
      have hi1 : IntKind.i64.wrap (m : Int) = (m : Int) := by rw [IntKind.wrap_i64]; omega
      have hi0 : (fs.length : Int) - 1 = (m : Int) := by omega
      have hi3 : (m : Int) < fs.length := by omega
      have hi4 : m < fs.length := by omega
      have hi5 : (0 : Int) ≤ (m : Int) ∧ (m : Int) < (fs.length : Int) := ⟨by omega, hi3⟩
      rw [hmm] at hcl
      clear hmm hmn hlv hlast
      go_enter Tryd.func46, Tryd.ntmps46
      go_wp2_with fail
      obtain ⟨W1, hW1⟩ : ∃ W1, W1 = ((w.alloc (.cells #[.int .i64 ln, .slice (some ⟨g, 0, none⟩) fs.length c] 35)).alloc (.cells #[.int .i64 0, .slice none 0 0] 35)) := ⟨_, rfl⟩
      have Z0 : Hid (Bz W1 w.heap.size ln (.slice (some ⟨g, 0, none⟩) fs.length c)) := by rw [hW1]; exact (Below.heap_alloc _ _ _ (by simp)).trans (World.alloc_heap_new w _)
      have Z1 : Hid (Bz W1 (w.heap.size + 1) 0 (.slice none 0 0)) := by rw [hW1]; exact Bz.mk1 _ _ _ _ (by simp)
      have B1 : Hid (Below w.heap.size w W1) := by rw [hW1]; exact Below.alloc (Below.alloc (Below.refl _ _) (Nat.le_refl _) _) (by simp) _
      rw [← hW1]
      clear hW1
      refine (HBl.out _).mono ?_
      rintro e w9 ⟨rfl, h9⟩
      have h9s := h9.symm
      clear h9
      subst h9s
      clear HBl
      go_upto_region 5 with fail
      have z00 := Z0.out.c0
      have z01 := Z0.out.c1
      have zl : W1.cell? ⟨g, m * 2 + 1, none⟩ = some (strV lv) := (B1.out.cell (p := ⟨g, m * 2 + 1, none⟩) hgl).trans hcl
      have zlf := (HO.out.below B1.out).lastF hnn
      rw [HMm.out] at zlf
      unfold strV at zl
      have HO1 : Hid (OwnG B W1 (.slice (some ⟨g, 0, none⟩) fs.length c) fs) := HO.out.below B1.out
      clear hcl
      go_cut [] from 21 to 38 (fun wx => wx = (W1.setCell ⟨g, m * 2 + 1, none⟩ (.string NV)).drew)
      case first =>
        go_region_law (go_wp2_with (go_at_call 43; refine (HTr.out _).mono ?_; rintro e w8 ⟨rfl, h8⟩; have h8s := h8.symm; clear h8; subst h8s))
        all_goals
          go_wp2_with fail
          go_meet
          rfl
      case rest =>
        subst hcut
        have hgD : g ≠ w.heap.size := by omega
        have hgD1 : g ≠ w.heap.size + 1 := by omega
        have Y0 : Hid (Bz (W1.setCell ⟨g, m * 2 + 1, none⟩ (.string NV)).drew w.heap.size ln (.slice (some ⟨g, 0, none⟩) fs.length c)) := (Below.heap_setCell W1 ⟨g, m * 2 + 1, none⟩ (.string NV) w.heap.size (fun e => hgD e.symm)).trans Z0.out
        have Y1 : Hid (Bz (W1.setCell ⟨g, m * 2 + 1, none⟩ (.string NV)).drew (w.heap.size + 1) 0 (.slice none 0 0)) := (Below.heap_setCell W1 ⟨g, m * 2 + 1, none⟩ (.string NV) (w.heap.size + 1) (fun e => hgD1 e.symm)).trans Z1.out
        have HS4 := HSt _ HO1.out
        rw [HMm.out] at HS4
        have HS5 : Hid (OwnG B (W1.setCell ⟨g, m * 2 + 1, none⟩ (.string NV)) (.slice (some ⟨g, 0, none⟩) fs.length c) (fs.set m ((fs.getD m ([], [])).1, lv ++ 10 :: tr))) := by
          have h7 := HS4
          rw [HNV.out] at h7
          exact h7
        have HGr : Hid (∀ y z, w.grownBy (((W1.setCell ⟨g, m * 2 + 1, none⟩ (.string NV)).drew.setCell ⟨w.heap.size + 1, 0, none⟩ y).setCell ⟨w.heap.size + 1, 1, none⟩ z) (some g)) := fun y z => put_grown B1.out (by omega) y z
        have HFin : Hid (∀ y z, OwnG B (((W1.setCell ⟨g, m * 2 + 1, none⟩ (.string NV)).drew.setCell ⟨w.heap.size + 1, 0, none⟩ y).setCell ⟨w.heap.size + 1, 1, none⟩ z) (.slice (some ⟨g, 0, none⟩) fs.length c) (setL fs (fun v => v ++ 10 :: tr))) := fun y z => by
          rw [HSet.out]
          rw [HMm.out]
          exact ownG_far (ownG_far (OwnG.drew HS5.out) hgD1 0 y) hgD1 1 z
        clear z00 z01 zl zlf Z0 Z1 HS4 HSt HTr hcat1 hcat2
        generalize (W1.setCell ⟨g, m * 2 + 1, none⟩ (.string NV)).drew = W2 at *
        have z00 := Y0.out.c0
        have z01 := Y0.out.c1
        have z10 := Y1.out.c0
        have z11 := Y1.out.c1
        have zf0 := Y1.out.fz 0
        have zf1 := Y1.out.fz 1
        have HX : Hid (Bz ((W2.setCell ⟨w.heap.size + 1, 0, none⟩ (.int .i64 ln)).setCell ⟨w.heap.size + 1, 1, none⟩ (.slice (some ⟨g, 0, none⟩) fs.length c)) (w.heap.size + 1) ln (.slice (some ⟨g, 0, none⟩) fs.length c)) := (Y1.out.s0 _).s1 _
        have HG2 := HGr.out (.int .i64 ln) (.slice (some ⟨g, 0, none⟩) fs.length c)
        have HF2 := HFin.out (.int .i64 ln) (.slice (some ⟨g, 0, none⟩) fs.length c)
        go_wp2
        all_goals
          generalize (W2.setCell ⟨w.heap.size + 1, 0, none⟩ (.int .i64 ln)).setCell ⟨w.heap.size + 1, 1, none⟩ (.slice (some ⟨g, 0, none⟩) fs.length c) = Wx at *
          refine bodyPost_ret (ret_bz rfl rfl HX.out) rfl ?_
          rw [HPe.out]
          exact ⟨_, rfl, HF2, HG2, .inl rfl⟩
  case false =>
    rw [hb] at HBl hbz
    have HCo : Hid (∀ W, Calls Tryd.prog 60 #[.string s] W fun e w' => e = .returned (.int .i64 (iC s)) ∧ w' = W) := fun W => rColon21_any s W (by omega)
    have hic : Lib.indexByte s.data.toList 58 = iC s := rfl
    have hle := iC_le s
    by_cases hc0 : iC s < 0
    · have HPe : Hid (P = .error 210) := by show _ = _; rw [HP.out, stepP, if_neg (by rw [hhd, ← hbz]; simp), if_pos (.inl (by rw [hic]; exact hc0))]
      have hI : iC s = -1 := by omega
      rw [hI] at HCo
      clear hbz hhd hb HP hic hle hc0 hI
      go_enter Tryd.func46, Tryd.ntmps46
      go_wp2_with fail
      obtain ⟨W1, hW1⟩ : ∃ W1, W1 = ((w.alloc (.cells #[.int .i64 ln, .slice a fs.length c] 35)).alloc (.cells #[.int .i64 0, .slice none 0 0] 35)) := ⟨_, rfl⟩
      have Z0 : Hid (Bz W1 w.heap.size ln (.slice a fs.length c)) := by rw [hW1]; exact (Below.heap_alloc _ _ _ (by simp)).trans (World.alloc_heap_new w _)
      have Z1 : Hid (Bz W1 (w.heap.size + 1) 0 (.slice none 0 0)) := by rw [hW1]; exact Bz.mk1 _ _ _ _ (by simp)
      have B1 : Hid (Below w.heap.size w W1) := by rw [hW1]; exact Below.alloc (Below.alloc (Below.refl _ _) (Nat.le_refl _) _) (by simp) _
      rw [← hW1]
      clear hW1
      refine (HBl.out _).mono ?_
      rintro e w9 ⟨rfl, h9⟩
      have h9s := h9.symm
      clear h9
      subst h9s
      clear HBl
      go_wp2_with fail
      refine (HCo.out _).mono ?_
      rintro e w9 ⟨rfl, h9⟩
      have h9s := h9.symm
      clear h9
      subst h9s
      have z00 := Z0.out.c0
      have z01 := Z0.out.c1
      have z10 := Z1.out.c0
      have z11 := Z1.out.c1
      have zf0 := Z1.out.fz 0
      have zf1 := Z1.out.fz 1
      have HX : Hid (Bz ((W1.setCell ⟨w.heap.size + 1, 0, none⟩ (.int .i64 ln)).setCell ⟨w.heap.size + 1, 1, none⟩ (.slice a fs.length c)) (w.heap.size + 1) ln (.slice a fs.length c) ∧ Below w.heap.size w ((W1.setCell ⟨w.heap.size + 1, 0, none⟩ (.int .i64 ln)).setCell ⟨w.heap.size + 1, 1, none⟩ (.slice a fs.length c))) := bz_fill Z1.out B1.out (by omega) _ _
      go_wp2
      all_goals
        generalize ((W1.setCell ⟨w.heap.size + 1, 0, none⟩ (.int .i64 ln)).setCell ⟨w.heap.size + 1, 1, none⟩ (.slice a fs.length c)) = Wx at *
        refine bodyPost_ret (ret_bz rfl rfl HX.out.1) rfl ?_
        rw [HPe.out]
        exact ⟨rfl, HX.out.2⟩
    obtain ⟨i0, hi, hz0, hz1, hz2⟩ := info_parts infoG
    obtain ⟨k, hk⟩ : ∃ k : Nat, iC s = k := ⟨(iC s).toNat, by omega⟩
    have hks : k < s.size := by omega
    have HStep : Hid (stepP (ln, fs) s.data.toList at' = if nameF (s.data.toList.take k) = false then .error 210 else if (getF fs (s.data.toList.take k)).isSome then .error 211 else .ok (if fs = [] then at' else ln, fs ++ [(s.data.toList.take k, trF (s.data.toList.drop (k + 1)))])) := by
      show _ = _
      rw [stepP, if_neg (by rw [hhd, ← hbz]; simp), hic, hk]
      by_cases hnm : nameF (s.data.toList.take k) = false
      · rw [if_pos (.inr (by simpa using hnm)), if_pos hnm]
      · rw [if_neg (by intro h; rcases h with h | h; omega; exact hnm (by simpa using h)), if_neg hnm]; rfl
    have hNl : (s.extract 0 k).data.toList = s.data.toList.take k := by rw [ext_list]; simp
    have hRl : (s.extract (k + 1) s.size).data.toList = s.data.toList.drop (k + 1) := by rw [ext_list, List.take_of_length_le (by rw [List.length_drop, ba_len]; omega)]
    have hNs : (s.extract 0 k).size ≤ 1099511627776 := by rw [ByteArray.size_extract]; omega
    have hRs : (s.extract (k + 1) s.size).size ≤ 1099511627776 := by rw [ByteArray.size_extract]; omega
    have hNm := fun W => rName21_any (s.extract 0 k) W (by omega)
    have hTr := fun W => rTrim21_any (s.extract (k + 1) s.size) W (by omega)
    rw [hNl] at hNm
    rw [hRl] at hTr
    have HGt' := fun (W : World) (hW : Below w.heap.size w W) => rGet21_any ln (.slice a fs.length c) fs (s.extract 0 k) W (HRd.out.belowB hW (Nat.le_refl _))
    rw [hNl] at HGt'
    simp only [gtV_form] at HGt'
    have hNv : strV (s.data.toList.take k) = .string (s.extract 0 k) := by rw [← hNl]; unfold strV; rw [ba_mk]
    have htl := trF_le (s.data.toList.drop (k + 1))
    rw [hk] at HCo
    have hki : ¬ (k : Int) < 0 := by omega
    have hw1 : IntKind.i64.wrap ((k : Int) + 1) = (k : Int) + 1 := by rw [IntKind.wrap_i64]; omega
    have hb1 : 0 ≤ (k : Int) + 1 ∧ (k : Int) + 1 ≤ (s.size : Int) := ⟨by omega, by omega⟩
    have hb2 : k ≤ s.size := by omega
    rw [HStep.out] at HP
    clear hbz hhd hb hic hle hc0 hk HStep hNl hRl hNs hRs htl
    generalize s.data.toList.take k = nl at *
    generalize trF (s.data.toList.drop (k + 1)) = tl at *
    have HNm : Hid (∀ W, Calls Tryd.prog 31 #[.string (s.extract 0 k)] W fun e w' => e = .returned (.bool (nameF nl)) ∧ w' = W) := hNm
    have HTr : Hid (∀ W, Calls Tryd.prog 43 #[.string (s.extract (k + 1) s.size)] W fun e w' => e = .returned (.string ⟨tl.toArray⟩) ∧ w' = W) := hTr
    have HNv : Hid (strV nl = .string (s.extract 0 k)) := hNv
    clear hNm hTr hNv
    obtain ⟨TB, hTB⟩ : ∃ TB : ByteArray, TB = ⟨tl.toArray⟩ := ⟨_, rfl⟩
    rw [← hTB] at HTr
    have HTv : Hid (strV tl = .string TB) := by show _ = _; rw [hTB]; rfl
    clear hTB
    cases hnm : nameF nl
    · have HPe : Hid (P = .error 210) := by show _ = _; rw [HP.out, if_pos hnm]
      rw [hnm] at HNm
      clear HP hnm HGt'
      go_enter Tryd.func46, Tryd.ntmps46
      go_wp2_with fail
      obtain ⟨W1, hW1⟩ : ∃ W1, W1 = ((w.alloc (.cells #[.int .i64 ln, .slice a fs.length c] 35)).alloc (.cells #[.int .i64 0, .slice none 0 0] 35)) := ⟨_, rfl⟩
      have Z0 : Hid (Bz W1 w.heap.size ln (.slice a fs.length c)) := by rw [hW1]; exact (Below.heap_alloc _ _ _ (by simp)).trans (World.alloc_heap_new w _)
      have Z1 : Hid (Bz W1 (w.heap.size + 1) 0 (.slice none 0 0)) := by rw [hW1]; exact Bz.mk1 _ _ _ _ (by simp)
      have B1 : Hid (Below w.heap.size w W1) := by rw [hW1]; exact Below.alloc (Below.alloc (Below.refl _ _) (Nat.le_refl _) _) (by simp) _
      rw [← hW1]
      clear hW1
      refine (HBl.out _).mono ?_
      rintro e w9 ⟨rfl, h9⟩
      have h9s := h9.symm
      clear h9
      subst h9s
      clear HBl
      go_wp2_with fail
      refine (HCo.out _).mono ?_
      rintro e w9 ⟨rfl, h9⟩
      have h9s := h9.symm
      clear h9
      subst h9s
      go_wp2_with fail
      refine (HNm.out _).mono ?_
      rintro e w9 ⟨rfl, h9⟩
      have h9s := h9.symm
      clear h9
      subst h9s
      have z00 := Z0.out.c0
      have z01 := Z0.out.c1
      have z10 := Z1.out.c0
      have z11 := Z1.out.c1
      have zf0 := Z1.out.fz 0
      have zf1 := Z1.out.fz 1
      have HX : Hid (Bz ((W1.setCell ⟨w.heap.size + 1, 0, none⟩ (.int .i64 ln)).setCell ⟨w.heap.size + 1, 1, none⟩ (.slice a fs.length c)) (w.heap.size + 1) ln (.slice a fs.length c) ∧ Below w.heap.size w ((W1.setCell ⟨w.heap.size + 1, 0, none⟩ (.int .i64 ln)).setCell ⟨w.heap.size + 1, 1, none⟩ (.slice a fs.length c))) := bz_fill Z1.out B1.out (by omega) _ _
      go_wp2
      all_goals
        generalize ((W1.setCell ⟨w.heap.size + 1, 0, none⟩ (.int .i64 ln)).setCell ⟨w.heap.size + 1, 1, none⟩ (.slice a fs.length c)) = Wx at *
        refine bodyPost_ret (ret_bz rfl rfl HX.out.1) rfl ?_
        rw [HPe.out]
        exact ⟨rfl, HX.out.2⟩
    obtain ⟨G, hG⟩ : ∃ G, G = getF fs nl := ⟨_, rfl⟩
    rw [← hG] at HGt' HP
    rw [hnm] at HNm HP
    clear hG hnm
    obtain ⟨GB, hGB⟩ : ∃ GB : ByteArray, GB = ⟨(tw2 G).toArray⟩ := ⟨_, rfl⟩
    rw [← hGB] at HGt'
    clear hGB
    have HGt : Hid (∀ W, Below w.heap.size w W → Calls Tryd.prog 11 #[.agg #[.int .i64 ln, .slice a fs.length c], .string (s.extract 0 k)] W fun e w' => e = .returned (.tuple #[.string GB, .bool G.isSome]) ∧ Below W.heap.size W w') := HGt'
    clear HGt'
    have HP2 : Hid (P = if G.isSome then .error 211 else .ok (if fs = [] then at' else ln, fs ++ [(nl, tl)])) := by show _ = _; rw [HP.out, if_neg (by simp)]
    clear HP
    generalize G.isSome = gs at *
    go_enter Tryd.func46, Tryd.ntmps46
    go_wp2_with fail
    obtain ⟨W1, hW1⟩ : ∃ W1, W1 = ((w.alloc (.cells #[.int .i64 ln, .slice a fs.length c] 35)).alloc (.cells #[.int .i64 0, .slice none 0 0] 35)) := ⟨_, rfl⟩
    have Z0 : Hid (Bz W1 w.heap.size ln (.slice a fs.length c)) := by rw [hW1]; exact (Below.heap_alloc _ _ _ (by simp)).trans (World.alloc_heap_new w _)
    have Z1 : Hid (Bz W1 (w.heap.size + 1) 0 (.slice none 0 0)) := by rw [hW1]; exact Bz.mk1 _ _ _ _ (by simp)
    have B1 : Hid (Below w.heap.size w W1) := by rw [hW1]; exact Below.alloc (Below.alloc (Below.refl _ _) (Nat.le_refl _) _) (by simp) _
    rw [← hW1]
    clear hW1
    refine (HBl.out _).mono ?_
    rintro e w9 ⟨rfl, h9⟩
    have h9s := h9.symm
    clear h9
    subst h9s
    clear HBl
    go_wp2_with fail
    refine (HCo.out _).mono ?_
    rintro e w9 ⟨rfl, h9⟩
    have h9s := h9.symm
    clear h9
    subst h9s
    go_wp2_with fail
    refine (HNm.out _).mono ?_
    rintro e w9 ⟨rfl, h9⟩
    have h9s := h9.symm
    clear h9
    subst h9s
    go_upto_region 10 with fail
    have z00 := Z0.out.c0
    have z01 := Z0.out.c1
    have HS : Hid (∀ W', Below W1.heap.size W1 W' → Below W1.heap.size W1 W' ∧ W'.cell? ⟨w.heap.size, 0, none⟩ = some (.int .i64 ln) ∧ W'.cell? ⟨w.heap.size, 1, none⟩ = some (.slice a fs.length c)) := fun W' hW => ⟨hW, (Z0.out.blw hW Z0.out.lt).c0, (Z0.out.blw hW Z0.out.lt).c1⟩
    have HW1 : Hid (Below W1.heap.size W1 W1.drew) := (Below.refl _ _).drew
    have HG1 := HGt.out W1.drew (B1.out.trans (HW1.out.mono B1.out.size))
    have HGc : Hid (Calls Tryd.prog 11 #[.agg #[.int .i64 ln, .slice a fs.length c], .string (s.extract 0 k)] W1.drew fun e w' => e = .returned (.tuple #[.string GB, .bool gs]) ∧ Below W1.drew.heap.size W1.drew w') := HG1
    clear HG1 HGt
    go_region_held (fun W' => Below W1.heap.size W1 W' ∧ W'.cell? ⟨w.heap.size, 0, none⟩ = some (.int .i64 ln) ∧ W'.cell? ⟨w.heap.size, 1, none⟩ = some (.slice a fs.length c)) (first | with_reducible exact HS.out _ HW1.out | with_reducible exact HS.out _ G1.out) (first
      | (go_at_call 11; (with_reducible refine Calls.mono HGc.out ?_); rintro e w2 ⟨rfl, be1⟩; have G1 : Hid (Below W1.heap.size W1 w2) := Below.step HW1.out be1; clear be1))
    have Y0 : Hid (Bz w2 w.heap.size ln (.slice a fs.length c)) := Z0.out.blw G1.out Z0.out.lt
    have Y1 : Hid (Bz w2 (w.heap.size + 1) 0 (.slice none 0 0)) := Z1.out.blw G1.out Z1.out.lt
    have B2 : Hid (Below w.heap.size w w2) := B1.out.trans (G1.out.mono B1.out.size)
    clear z00 z01 HS HGc Z0 Z1 G1
    cases gs
    case true =>
      have HPe : Hid (P = .error 211) := HP2.out
      clear HP2
      have z00 := Y0.out.c0
      have z01 := Y0.out.c1
      have z10 := Y1.out.c0
      have z11 := Y1.out.c1
      have zf0 := Y1.out.fz 0
      have zf1 := Y1.out.fz 1
      have HX : Hid (Bz ((w2.setCell ⟨w.heap.size + 1, 0, none⟩ (.int .i64 ln)).setCell ⟨w.heap.size + 1, 1, none⟩ (.slice a fs.length c)) (w.heap.size + 1) ln (.slice a fs.length c) ∧ Below w.heap.size w ((w2.setCell ⟨w.heap.size + 1, 0, none⟩ (.int .i64 ln)).setCell ⟨w.heap.size + 1, 1, none⟩ (.slice a fs.length c))) := bz_fill Y1.out B2.out (by omega) _ _
      go_wp2
      all_goals
        generalize ((w2.setCell ⟨w.heap.size + 1, 0, none⟩ (.int .i64 ln)).setCell ⟨w.heap.size + 1, 1, none⟩ (.slice a fs.length c)) = Wx at *
        refine bodyPost_ret (ret_bz rfl rfl HX.out.1) rfl ?_
        rw [HPe.out]
        exact ⟨rfl, HX.out.2⟩
    case false =>
      have HPe : Hid (P = .ok (if fs = [] then at' else ln, fs ++ [(nl, tl)])) := HP2.out
      clear HP2
      by_cases hn : fs.length = 0
      · have hf0 : ((fs.length : Int) == 0) = true := beq_iff_eq.2 (by omega)
        have hn0 : fs = [] := List.eq_nil_of_length_eq_zero hn
        have HPl : Hid (P = .ok (at', fs ++ [(nl, tl)])) := by show _ = _; rw [HPe.out, if_pos hn0]
        have y00 := Y0.out.c0
        have y0f := Y0.out.fz 0
        clear HPe hn hn0
        go_upto_region 15 with fail
        have X0 : Hid (Bz (w2.setCell ⟨w.heap.size, 0, none⟩ (.int .i64 at')) w.heap.size at' (.slice a fs.length c)) := Y0.out.s0 _
        have X1 : Hid (Bz (w2.setCell ⟨w.heap.size, 0, none⟩ (.int .i64 at')) (w.heap.size + 1) 0 (.slice none 0 0)) := (Below.heap_setCell _ _ _ _ (by simp)).trans Y1.out
        have XB : Hid (Below w.heap.size w (w2.setCell ⟨w.heap.size, 0, none⟩ (.int .i64 at'))) := B2.out.setCell (Nat.le_refl _) _
        generalize w2.setCell ⟨w.heap.size, 0, none⟩ (.int .i64 at') = w3 at *
        clear y00 y0f Y0 Y1 B2
        have HO3 : Hid (OwnG B w3 (.slice a fs.length c) fs) := HO.out.below XB.out
        have x00 := X0.out.c0
        have x01 := X0.out.c1
        have x0f := X0.out.fz 1
        have HIn : Hid (Tryd.prog.info? 50 = some i0 ∧ i0.zero = some (.agg #[.string ⟨#[]⟩, .string ⟨#[]⟩]) ∧ i0.size = 2 ∧ i0.bytes = 32) := ⟨hi, hz0, hz1, hz2⟩
        have HRow : Hid (((w3.alloc (.cells #[.string (s.extract 0 k), .string TB] 50)).drew).ownsRow B 50 2 (.slice a fs.length c) fs.length (fldC fs)) := HO3.out.below ((Below.alloc (Below.refl _ _) (Nat.le_refl _) _).drew)
        have HNw : Hid (∀ j u, [Value.string (s.extract 0 k), Value.string TB][j]? = some u → ((w3.alloc (.cells #[.string (s.extract 0 k), .string TB] 50)).drew).cell? ((⟨w3.heap.size, 0, none⟩ : Addr).add j) = some u) := two_new21 _ _ _ _
        have x01a : ((w3.alloc (.cells #[.string (s.extract 0 k), .string TB] 50)).drew).cell? ⟨w.heap.size, 1, none⟩ = some (.slice a fs.length c) := (Bz.blw X0.out (Below.alloc (Below.refl _ _) (Nat.le_refl _) _).drew X0.out.lt).c1
        have x01b : (w3.alloc (.cells #[.string (s.extract 0 k), .string TB] 50)).cell? ⟨w.heap.size, 1, none⟩ = some (.slice a fs.length c) := x01a
        have hl63 : fs.length + 1 ≤ maxLen := by unfold maxLen; omega
        have hl48 : (fs.length + 1) * 32 ≤ 140737488355328 := by omega
        have HSz : Hid (B ≤ ((w3.alloc (.cells #[.string (s.extract 0 k), .string TB] 50)).drew).heap.size) := by
          show B ≤ (w3.alloc (.cells #[.string (s.extract 0 k), .string TB] 50)).heap.size
          have := XB.out.size
          simp; omega
        have HPa : Hid (∀ v8 w8, w8.ownsRow B 50 2 v8 (fs.length + 1) (fldC fs ++ [.string (s.extract 0 k), .string TB]) → Ap ((w3.alloc (.cells #[.string (s.extract 0 k), .string TB] 50)).drew) (.slice a fs.length c) w8 v8 → (∃ a8 c8, v8 = .slice a8 (fs.length + 1) c8) ∧ Bz w8 w.heap.size at' (.slice a fs.length c) ∧ PutA B w at' (.slice a fs.length c) (fs ++ [(nl, tl)]) (w8.setCell ⟨w.heap.size, 1, none⟩ v8)) := fun v8 w8 o8 a8 => put_app HO.out XB.out X0.out X1.out (by rw [HNv.out, HTv.out]; exact o8) a8
        go_cut [] from 65 to 79 (fun wx => PutA B w at' (.slice a fs.length c) (fs ++ [(nl, tl)]) wx)
        case first =>
          go_region_law (first
            | (refine step_append_apk rfl (.tmp 66) (.tmp 76) 33 rfl B 50 i0 (.agg #[.string ⟨#[]⟩, .string ⟨#[]⟩]) 2 32 Tryd.underlying33 HIn.out.1 HIn.out.2.1 HIn.out.2.2.1 HIn.out.2.2.2 rfl (by decide) (.slice a fs.length c) fs.length (fldC fs) (by simp [Act.eval, Act.put]) HRow.out ⟨w3.heap.size, 0, none⟩ 1 1 [.string (s.extract 0 k), .string TB] (by simp [Act.eval, Act.put]) rfl HNw.out (by simp [Value.oneCell']) hl63 hl48 HSz.out ?_; intro v8 w8 own8 ap8; have hp8 := HPa.out v8 w8 own8 ap8; obtain ⟨⟨a8, c8, rfl⟩, q0, q1⟩ := hp8; have HQ1 : Hid (PutA B w at' (.slice a fs.length c) (fs ++ [(nl, tl)]) (w8.setCell ⟨w.heap.size, 1, none⟩ (.slice a8 (fs.length + 1) c8))) := q1; have r0 := q0.c1; have r1 := q0.fz 1; clear own8 ap8 q0 q1)
            | (go_wp2_with (go_at_call 43; refine (HTr.out _).mono ?_; rintro e w8 ⟨rfl, h8⟩; have h8s := h8.symm; clear h8; subst h8s)))
          all_goals
            go_wp2_with fail
            go_meet
            exact HQ1.out
        case rest =>
          obtain ⟨a8, c8, V0, V1, VO, VG, VN⟩ := hcut
          have HV : Hid (OwnG B wc (.slice a8 (fs ++ [(nl, tl)]).length c8) (fs ++ [(nl, tl)]) ∧ w.grownBy wc (Value.slice a fs.length c).ownBlock ∧ ((Value.slice a8 (fs ++ [(nl, tl)]).length c8).ownBlock = (Value.slice a fs.length c).ownBlock ∨ ∀ g, (Value.slice a8 (fs ++ [(nl, tl)]).length c8).ownBlock = some g → w.heap.size ≤ g)) := ⟨VO, VG, VN⟩
          clear x00 x01 x0f x01a x01b HRow HNw HSz HPa HO3 hl63 hl48
          have V0' : Bz wc w.heap.size at' (.slice a8 (fs ++ [(nl, tl)]).length c8) := V0
          have e0 := V0'.c0
          have e1 := V0'.c1
          have d0 := V1.c0
          have d1 := V1.c1
          have df0 := V1.fz 0
          have df1 := V1.fz 1
          clear VO VG VN V0 V0'
          generalize hL : (fs ++ [(nl, tl)]).length = L at *
          clear hL
          have HX : Hid (Bz ((wc.setCell ⟨w.heap.size + 1, 0, none⟩ (.int .i64 at')).setCell ⟨w.heap.size + 1, 1, none⟩ (.slice a8 L c8)) (w.heap.size + 1) at' (.slice a8 L c8)) := (V1.s0 _).s1 _
          have HW : Hid (OwnG B ((wc.setCell ⟨w.heap.size + 1, 0, none⟩ (.int .i64 at')).setCell ⟨w.heap.size + 1, 1, none⟩ (.slice a8 L c8)) (.slice a8 L c8) (fs ++ [(nl, tl)]) ∧ w.grownBy ((wc.setCell ⟨w.heap.size + 1, 0, none⟩ (.int .i64 at')).setCell ⟨w.heap.size + 1, 1, none⟩ (.slice a8 L c8)) (Value.slice a fs.length c).ownBlock) := put_out HV.out.1 HV.out.2.1 HV.out.2.2 (fun g hg => (HO.out.own g hg).2) V1 _ _
          have HN : Hid ((Value.slice a8 L c8).ownBlock = (Value.slice a fs.length c).ownBlock ∨ ∀ g, (Value.slice a8 L c8).ownBlock = some g → w.heap.size ≤ g) := HV.out.2.2
          go_wp2
          all_goals
            generalize (wc.setCell ⟨w.heap.size + 1, 0, none⟩ (.int .i64 at')).setCell ⟨w.heap.size + 1, 1, none⟩ (.slice a8 L c8) = Wx at *
            refine bodyPost_ret (ret_bz rfl rfl HX.out) rfl ?_
            rw [HPl.out]
            exact ⟨_, rfl, HW.out.1, HW.out.2, HN.out⟩
      · have hf0 : ((fs.length : Int) == 0) = false := beq_eq_false_iff_ne.2 (by omega)
        have hn0 : fs ≠ [] := fun e => hn (by rw [e]; rfl)
        have HPl : Hid (P = .ok (ln, fs ++ [(nl, tl)])) := by show _ = _; rw [HPe.out, if_neg hn0]
        clear HPe hn hn0
        go_upto_region 15 with fail
        have X0 := Y0
        have X1 := Y1
        have XB := B2
        clear Y0 Y1 B2
        obtain ⟨w3, hw3⟩ : ∃ w3, w3 = w2 := ⟨_, rfl⟩
        subst hw3
        have HO3 : Hid (OwnG B w3 (.slice a fs.length c) fs) := HO.out.below XB.out
        have x00 := X0.out.c0
        have x01 := X0.out.c1
        have x0f := X0.out.fz 1
        have HIn : Hid (Tryd.prog.info? 50 = some i0 ∧ i0.zero = some (.agg #[.string ⟨#[]⟩, .string ⟨#[]⟩]) ∧ i0.size = 2 ∧ i0.bytes = 32) := ⟨hi, hz0, hz1, hz2⟩
        have HRow : Hid (((w3.alloc (.cells #[.string (s.extract 0 k), .string TB] 50)).drew).ownsRow B 50 2 (.slice a fs.length c) fs.length (fldC fs)) := HO3.out.below ((Below.alloc (Below.refl _ _) (Nat.le_refl _) _).drew)
        have HNw : Hid (∀ j u, [Value.string (s.extract 0 k), Value.string TB][j]? = some u → ((w3.alloc (.cells #[.string (s.extract 0 k), .string TB] 50)).drew).cell? ((⟨w3.heap.size, 0, none⟩ : Addr).add j) = some u) := two_new21 _ _ _ _
        have x01a : ((w3.alloc (.cells #[.string (s.extract 0 k), .string TB] 50)).drew).cell? ⟨w.heap.size, 1, none⟩ = some (.slice a fs.length c) := (Bz.blw X0.out (Below.alloc (Below.refl _ _) (Nat.le_refl _) _).drew X0.out.lt).c1
        have x01b : (w3.alloc (.cells #[.string (s.extract 0 k), .string TB] 50)).cell? ⟨w.heap.size, 1, none⟩ = some (.slice a fs.length c) := x01a
        have hl63 : fs.length + 1 ≤ maxLen := by unfold maxLen; omega
        have hl48 : (fs.length + 1) * 32 ≤ 140737488355328 := by omega
        have HSz : Hid (B ≤ ((w3.alloc (.cells #[.string (s.extract 0 k), .string TB] 50)).drew).heap.size) := by
          show B ≤ (w3.alloc (.cells #[.string (s.extract 0 k), .string TB] 50)).heap.size
          have := XB.out.size
          simp; omega
        have HPa : Hid (∀ v8 w8, w8.ownsRow B 50 2 v8 (fs.length + 1) (fldC fs ++ [.string (s.extract 0 k), .string TB]) → Ap ((w3.alloc (.cells #[.string (s.extract 0 k), .string TB] 50)).drew) (.slice a fs.length c) w8 v8 → (∃ a8 c8, v8 = .slice a8 (fs.length + 1) c8) ∧ Bz w8 w.heap.size ln (.slice a fs.length c) ∧ PutA B w ln (.slice a fs.length c) (fs ++ [(nl, tl)]) (w8.setCell ⟨w.heap.size, 1, none⟩ v8)) := fun v8 w8 o8 a8 => put_app HO.out XB.out X0.out X1.out (by rw [HNv.out, HTv.out]; exact o8) a8
        go_cut [] from 65 to 79 (fun wx => PutA B w ln (.slice a fs.length c) (fs ++ [(nl, tl)]) wx)
        case first =>
          go_region_law (first
            | (refine step_append_apk rfl (.tmp 66) (.tmp 76) 33 rfl B 50 i0 (.agg #[.string ⟨#[]⟩, .string ⟨#[]⟩]) 2 32 Tryd.underlying33 HIn.out.1 HIn.out.2.1 HIn.out.2.2.1 HIn.out.2.2.2 rfl (by decide) (.slice a fs.length c) fs.length (fldC fs) (by simp [Act.eval, Act.put]) HRow.out ⟨w3.heap.size, 0, none⟩ 1 1 [.string (s.extract 0 k), .string TB] (by simp [Act.eval, Act.put]) rfl HNw.out (by simp [Value.oneCell']) hl63 hl48 HSz.out ?_; intro v8 w8 own8 ap8; have hp8 := HPa.out v8 w8 own8 ap8; obtain ⟨⟨a8, c8, rfl⟩, q0, q1⟩ := hp8; have HQ1 : Hid (PutA B w ln (.slice a fs.length c) (fs ++ [(nl, tl)]) (w8.setCell ⟨w.heap.size, 1, none⟩ (.slice a8 (fs.length + 1) c8))) := q1; have r0 := q0.c1; have r1 := q0.fz 1; clear own8 ap8 q0 q1)
            | (go_wp2_with (go_at_call 43; refine (HTr.out _).mono ?_; rintro e w8 ⟨rfl, h8⟩; have h8s := h8.symm; clear h8; subst h8s)))
          all_goals
            go_wp2_with fail
            go_meet
            exact HQ1.out
        case rest =>
          obtain ⟨a8, c8, V0, V1, VO, VG, VN⟩ := hcut
          have HV : Hid (OwnG B wc (.slice a8 (fs ++ [(nl, tl)]).length c8) (fs ++ [(nl, tl)]) ∧ w.grownBy wc (Value.slice a fs.length c).ownBlock ∧ ((Value.slice a8 (fs ++ [(nl, tl)]).length c8).ownBlock = (Value.slice a fs.length c).ownBlock ∨ ∀ g, (Value.slice a8 (fs ++ [(nl, tl)]).length c8).ownBlock = some g → w.heap.size ≤ g)) := ⟨VO, VG, VN⟩
          clear x00 x01 x0f x01a x01b HRow HNw HSz HPa HO3 hl63 hl48
          have V0' : Bz wc w.heap.size ln (.slice a8 (fs ++ [(nl, tl)]).length c8) := V0
          have e0 := V0'.c0
          have e1 := V0'.c1
          have d0 := V1.c0
          have d1 := V1.c1
          have df0 := V1.fz 0
          have df1 := V1.fz 1
          clear VO VG VN V0 V0'
          generalize hL : (fs ++ [(nl, tl)]).length = L at *
          clear hL
          have HX : Hid (Bz ((wc.setCell ⟨w.heap.size + 1, 0, none⟩ (.int .i64 ln)).setCell ⟨w.heap.size + 1, 1, none⟩ (.slice a8 L c8)) (w.heap.size + 1) ln (.slice a8 L c8)) := (V1.s0 _).s1 _
          have HW : Hid (OwnG B ((wc.setCell ⟨w.heap.size + 1, 0, none⟩ (.int .i64 ln)).setCell ⟨w.heap.size + 1, 1, none⟩ (.slice a8 L c8)) (.slice a8 L c8) (fs ++ [(nl, tl)]) ∧ w.grownBy ((wc.setCell ⟨w.heap.size + 1, 0, none⟩ (.int .i64 ln)).setCell ⟨w.heap.size + 1, 1, none⟩ (.slice a8 L c8)) (Value.slice a fs.length c).ownBlock) := put_out HV.out.1 HV.out.2.1 HV.out.2.2 (fun g hg => (HO.out.own g hg).2) V1 _ _
          have HN : Hid ((Value.slice a8 L c8).ownBlock = (Value.slice a fs.length c).ownBlock ∨ ∀ g, (Value.slice a8 L c8).ownBlock = some g → w.heap.size ≤ g) := HV.out.2.2
          go_wp2
          all_goals
            generalize (wc.setCell ⟨w.heap.size + 1, 0, none⟩ (.int .i64 ln)).setCell ⟨w.heap.size + 1, 1, none⟩ (.slice a8 L c8) = Wx at *
            refine bodyPost_ret (ret_bz rfl rfl HX.out) rfl ?_
            rw [HPl.out]
            exact ⟨_, rfl, HW.out.1, HW.out.2, HN.out⟩

end Go.Proofs.YtbeaoekbppdlmaaDoor
