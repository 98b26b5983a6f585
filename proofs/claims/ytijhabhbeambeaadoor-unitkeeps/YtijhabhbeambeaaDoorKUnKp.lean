/-
  What stays through UnitKeeps: lists of numbers and of causes that lie apart; what the calls say.
  KEEP: set on app at below new trans refl start ap kept rd rds mono lt add none own nil put len pos setF setV putL putR other neV same_any row call out ints caus eq
-/
import Derived.Test.YtijhabhbeambeaaDoorKUnitForces
import Derived.Test.YtijhabhbeambeaaDoorKRUp
import Derived.Test.YtijhabhbeambeaaDoorJAparQ
import Derived.Test.YtijhabhbeambeaaDoorJTrn
set_option linter.unusedSimpArgs false
set_option linter.unusedVariables false
namespace Go.Proofs.YtijhabhbeambeaaDoor
open Go Go.RowKit Go.Shelf

structure Rw where
  e : TypeId
  z : Nat
  v : Value
  n : Nat
  xs : List Value
def il (v : Value) (D : List Int) : Rw := ⟨3, 1, v, D.length, D.map (Value.int .i64)⟩
def cl (v : Value) (cs : List (Int × Nat)) : Rw := ⟨78, 2, v, cs.length, twc cs⟩
def RwAt (x : Rw) (B : Nat) (W : World) : Prop := W.ownsRow B x.e x.z x.v x.n x.xs
structure Ko (w0 : World) (S : Nat) (Wr W : World) (bs : List (Nat × Value × Value)) (fs : List Rw) : Prop where
  k : Kx w0 S Wr W bs []
  own : ∀ x ∈ fs, RwAt x S W
  ap : fs.Pairwise (fun x y => x.v.ownBlock = none ∨ x.v.ownBlock ≠ y.v.ownBlock)
section
variable {w0 Wr W W' : World} {S : Nat} {bs : List (Nat × Value × Value)} {fs : List Rw}
theorem Ko.start (h : Kx w0 S Wr W bs []) : Ko w0 S Wr W bs [] := ⟨h, fun x hx => (by cases hx), List.Pairwise.nil⟩
theorem Ko.below (h : Ko w0 S Wr W bs fs) (hb : Below W.heap.size W W') : Ko w0 S Wr W' bs fs :=
  ⟨h.k.below hb, fun x hx => row_kept (h.own x hx) fun k e => hb.block k ((h.own x hx).lt k e.symm).2, h.ap⟩
theorem Ko.call (h : Ko w0 S Wr W bs fs) (hb : Below W.heap.size W W') {x : Rw} (hx : RwAt x W.heap.size W') : Ko w0 S Wr W' bs (fs ++ [x]) := by
  have h1 := h.below hb
  refine ⟨h1.k, fun y hy => ?_, ?_⟩
  · rcases List.mem_append.1 hy with e | e
    · exact h1.own y e
    · rw [List.mem_singleton.1 e]
      exact row_mono hx h.k.sz
  · rw [List.pairwise_append]
    refine ⟨h.ap, by simp, fun y hy z hz => ?_⟩
    rw [List.mem_singleton.1 hz]
    cases hv : y.v.ownBlock with
    | none => exact .inl rfl
    | some g =>
      refine .inr fun e2 => ?_
      have h3 := ((h.own y hy).lt g hv).2
      have h4 := (hx.lt g e2.symm).1
      omega
theorem Ko.out {Q : Nat → Prop} (h : Ko w0 S Wr W bs fs) (hf : Fr Q W W') (hq : ∀ k, Q k → w0.heap.size ≤ k ∧ k < S) : Ko w0 S W' W' bs fs :=
  ⟨h.k.out hf hq, fun x hx => own_out (h.own x hx) hf (fun k hk => (hq k hk).2), h.ap⟩
theorem Ko.ints (h : Ko w0 S Wr W bs fs) {v : Value} {D : List Int} (hm : il v D ∈ fs) : Own S W v D := h.own _ hm
theorem Ko.caus (h : Ko w0 S Wr W bs fs) {v : Value} {cs : List (Int × Nat)} (hm : cl v cs ∈ fs) : W.ownsRow 0 78 2 v cs.length (twc cs) := row_mono (h.own _ hm) (Nat.zero_le _)
theorem Ko.apI (h : Ko w0 S Wr W bs fs) {i j : Nat} (hi : i < fs.length) (hj : j < fs.length) (hne : i ≠ j) : (fs[i]).v.ownBlock = none ∨ (fs[i]).v.ownBlock ≠ (fs[j]).v.ownBlock := by
  have hp := List.pairwise_iff_getElem.1 h.ap
  rcases Nat.lt_or_gt_of_ne hne with h1 | h1
  · exact hp i j hi hj h1
  · rcases hp j i hj hi h1 with h2 | h2
    · cases hv : (fs[i]).v.ownBlock with
      | none => exact .inl rfl
      | some g => exact .inr (by rw [h2]; simp)
    · exact .inr (Ne.symm h2)
end
/-- the argument's box and what it reads -/
structure Ax (D0 : Nat) (n : Int) (s : Value) (css : List (List Int)) (m : Int) (t : Value) (dss : List (List Int)) (vf : Value) (facts : List Int) (vo : Value) (other : List Int) (W : World) : Prop where
  c0 : W.cell? ⟨D0, 0, none⟩ = some (.int .i64 n)
  c1 : W.cell? ⟨D0, 1, none⟩ = some s
  c2 : W.cell? ⟨D0, 2, none⟩ = some (.int .i64 m)
  c3 : W.cell? ⟨D0, 3, none⟩ = some t
  c4 : W.cell? ⟨D0, 4, none⟩ = some vf
  c5 : W.cell? ⟨D0, 5, none⟩ = some vo
  rf : Rds W s css
  rg : Rds W t dss
  rh : Rd W vf facts
  ro : Rd W vo other
  deb : Deb W
section
variable {D0 : Nat} {n : Int} {s : Value} {css : List (List Int)} {m : Int} {t : Value} {dss : List (List Int)} {vf : Value} {facts : List Int} {vo : Value} {other : List Int} {W W' : World}
theorem Ax.below (h : Ax D0 n s css m t dss vf facts vo other W) (hb : Below W.heap.size W W') : Ax D0 n s css m t dss vf facts vo other W' := by
  have go : ∀ {j : Nat} {x : Value}, W.cell? ⟨D0, j, none⟩ = some x → W'.cell? ⟨D0, j, none⟩ = some x := fun {j x} e => (hb.cell (p := ⟨D0, j, none⟩) (World.block_lt_of_cell? W _ e)).trans e
  exact ⟨go h.c0, go h.c1, go h.c2, go h.c3, go h.c4, go h.c5, h.rf.below hb, h.rg.below hb, h.rh.below hb, h.ro.below hb, h.deb.below hb⟩
theorem cell_of {W : World} {D : Nat} {cs : Array Value} {ty : TypeId} (h : W.heap[D]? = some (.cells cs ty (0, 0))) {j : Nat} {v : Value} (hj : cs[j]? = some v) : W.cell? ⟨D, j, none⟩ = some v := by simp [World.cell?, h, hj]
theorem Ax.new {w : World} (ty : TypeId) (h1 : Rds w s css) (h2 : Rds w t dss) (h3 : Rd w vf facts) (h4 : Rd w vo other) (h5 : Deb w) : Ax w.heap.size n s css m t dss vf facts vo other (w.alloc (.cells #[.int .i64 n, s, .int .i64 m, t, vf, vo] ty)) := by
  have hb := below_box w (.cells #[.int .i64 n, s, .int .i64 m, t, vf, vo] ty)
  have hh : (w.alloc (.cells #[.int .i64 n, s, .int .i64 m, t, vf, vo] ty)).heap[w.heap.size]? = some (.cells #[.int .i64 n, s, .int .i64 m, t, vf, vo] ty (0, 0)) := World.alloc_heap_new w _
  exact ⟨cell_of hh rfl, cell_of hh rfl, cell_of hh rfl, cell_of hh rfl, cell_of hh rfl, cell_of hh rfl, h1.below hb, h2.below hb, h3.below hb, h4.below hb, h5.below hb⟩
end
/-- what the calls say, whoever says it -/
def Cp (n : Int) (css : List (List Int)) (facts : List Int) (b : Bool) (D : List Int) : Prop := ∃ wa wb u, Clz wa wb n css facts u b D
def Wp (n : Int) (css : List (List Int)) (facts : List Int) (cs : List (Int × Nat)) (e0 : Int) : Prop := ∃ wa wb u, Wy wa wb n css facts u cs e0
def Pp (n : Int) (css : List (List Int)) (D : List Int) : Prop := ∃ wa wb u, Pb wa wb n css u D
theorem Cp.eq {n : Int} {css : List (List Int)} {facts : List Int} {b b' : Bool} {D D' : List Int} (h : Cp n css facts b D) (h' : Cp n css facts b' D') : b = b' ∧ D = D' := by
  obtain ⟨_, _, _, h⟩ := h
  obtain ⟨_, _, _, h'⟩ := h'
  exact clz_eq h h'
theorem Cp.len {n : Int} {css : List (List Int)} {facts : List Int} {b : Bool} {D : List Int} (h : Cp n css facts b D) : D.length * 8 ≤ 140737488351232 := by
  obtain ⟨_, _, _, h⟩ := h
  exact clz_len h
theorem Wp.eq {n : Int} {css : List (List Int)} {facts : List Int} {cs cs' : List (Int × Nat)} {e0 e0' : Int} (h : Wp n css facts cs e0) (h' : Wp n css facts cs' e0') : cs = cs' ∧ e0 = e0' := by
  obtain ⟨_, _, _, h⟩ := h
  obtain ⟨_, _, _, h'⟩ := h'
  exact wy_eq h h'
theorem Wp.len {n : Int} {css : List (List Int)} {facts : List Int} {cs : List (Int × Nat)} {e0 : Int} (h : Wp n css facts cs e0) : cs.length ≤ 2097152 := by
  obtain ⟨_, _, _, h⟩ := h
  exact wy_len h
theorem Pp.eq {n : Int} {css : List (List Int)} {D D' : List Int} (h : Pp n css D) (h' : Pp n css D') : D = D' := by
  obtain ⟨_, _, _, h⟩ := h
  obtain ⟨_, _, _, h'⟩ := h'
  exact h.same h'
theorem Pp.len {n : Int} {css : List (List Int)} {D : List Int} (h : Pp n css D) : D.length * 8 ≤ 140737488351232 := by
  obtain ⟨_, _, _, h⟩ := h
  have := h.len
  omega
def CloseS (P : Program) (f : FuncId) (n : Int) (s : Value) (css : List (List Int)) (vf : Value) (facts : List Int) (W : World) : Prop :=
  Calls P f #[.agg #[.int .i64 n, s], vf] W fun e w' => ∃ a c b D, e = .returned (.tuple #[.slice a (List.length (α := Int) D) c, .bool b, .int .i64 (cloE n css facts)]) ∧ Cp n css facts b D ∧ RwAt (il (.slice a (List.length (α := Int) D) c) D) W.heap.size w' ∧ Below W.heap.size W w'
def WhyS (P : Program) (f : FuncId) (n : Int) (s : Value) (css : List (List Int)) (vf : Value) (facts : List Int) (W : World) : Prop :=
  Calls P f #[.agg #[.int .i64 n, s], vf] W fun e w' => ∃ a c cs e0, e = .returned (.tuple #[.slice a (List.length (α := Int × Nat) cs) c, .int .i64 e0, .int .i64 (whyE n css facts)]) ∧ Wp n css facts cs e0 ∧ RwAt (cl (.slice a (List.length (α := Int × Nat) cs) c) cs) W.heap.size w' ∧ Below W.heap.size W w'
def ForS (P : Program) (f : FuncId) (n : Int) (s : Value) (css : List (List Int)) (vf : Value) (facts : List Int) (W : World) : Prop :=
  Calls P f #[.agg #[.int .i64 n, s], vf, .int .i64 1] W fun e w' => e = .returned (.tuple #[.bool (frcB n css facts 1), .int .i64 (frcE n css facts 1)]) ∧ Below W.heap.size W w'
def PrbS (P : Program) (f : FuncId) (n : Int) (s : Value) (css : List (List Int)) (W : World) : Prop :=
  Calls P f #[.agg #[.int .i64 n, s]] W fun e w' => ∃ a c D, e = .returned (.tuple #[.slice a (List.length (α := Int) D) c, .int .i64 (prE n css)]) ∧ Pp n css D ∧ RwAt (il (.slice a (List.length (α := Int) D) c) D) W.heap.size w' ∧ Below W.heap.size W w'
section
variable {n : Int} {s : Value} {css : List (List Int)} {vf : Value} {facts : List Int} {W : World}
theorem uCloseS (hr : Rds W s css) (hf : Rd W vf facts) (hw : Few css) (hD : Deb W) : CloseS Tryd.prog 11 n s css vf facts W := by
  refine (uClose_any n s vf css facts W hr hf hw hD).mono ?_
  rintro e w' ⟨u, b, D, rfl, h⟩
  obtain ⟨a, c, rfl⟩ := own_form h.own
  exact ⟨a, c, b, D, rfl, ⟨_, _, _, h⟩, h.own, h.bel⟩
theorem rCloseS (hr : Rds W s css) (hf : Rd W vf facts) (hw : Few css) : CloseS Tryd.prog 16 n s css vf facts W := by
  refine (rClose_any n s vf css facts W hr hf hw.num).mono ?_
  rintro e w' ⟨u, b, D, rfl, h⟩
  obtain ⟨a, c, rfl⟩ := own_form h.own
  exact ⟨a, c, b, D, rfl, ⟨_, _, _, h⟩, h.own, h.bel⟩
theorem uWhyS (hr : Rds W s css) (hf : Rd W vf facts) (hw : Few css) (hD : Deb W) : WhyS Tryd.prog 12 n s css vf facts W := by
  refine (uWhy_any n s vf css facts W hr hf hw hD).mono ?_
  rintro e w' ⟨u, cs, e0, rfl, h⟩
  obtain ⟨a, c, rfl⟩ := row_form' h.row
  exact ⟨a, c, cs, e0, rfl, ⟨_, _, _, h⟩, h.row, h.bel⟩
theorem rWhyS (hr : Rds W s css) (hf : Rd W vf facts) : WhyS Tryd.prog 17 n s css vf facts W := by
  refine (rWhy_any n s vf css facts W hr hf).mono ?_
  rintro e w' ⟨u, cs, e0, rfl, h⟩
  obtain ⟨a, c, rfl⟩ := row_form' h.row
  exact ⟨a, c, cs, e0, rfl, ⟨_, _, _, h⟩, h.row, h.bel⟩
theorem uForS (hr : Rds W s css) (hf : Rd W vf facts) (hw : Few css) (hD : Deb W) : ForS Tryd.prog 13 n s css vf facts W := uForces_any n s vf css facts 1 W hr hf hw hD
theorem rForS (hr : Rds W s css) (hf : Rd W vf facts) (hw : Few css) : ForS Tryd.prog 18 n s css vf facts W := rForces_any n s vf css facts 1 W hr hf hw.num
theorem uPrbS (hr : Rds W s css) (hw : Few css) (hD : Deb W) : PrbS Tryd.prog 5 n s css W := by
  refine (uProbe_any n s css W hr hw hD).mono ?_
  rintro e w' ⟨u, D, rfl, h⟩
  obtain ⟨a, c, rfl⟩ := own_form h.own
  exact ⟨a, c, D, rfl, ⟨_, _, _, h⟩, h.own, h.bel⟩
theorem rPrbS (hr : Rds W s css) (hw : Few css) : PrbS Tryd.prog 7 n s css W := by
  refine (rProbe_any n s css W hr hw.num).mono ?_
  rintro e w' ⟨u, D, rfl, h⟩
  obtain ⟨a, c, rfl⟩ := own_form h.own
  exact ⟨a, c, D, rfl, ⟨_, _, _, h⟩, h.own, h.bel⟩
def CpyS (n : Int) (s : Value) (css : List (List Int)) (W : World) : Prop :=
  Calls Tryd.prog 6 #[.agg #[.int .i64 n, s]] W fun e w' => ∃ a c, e = .returned (.agg #[.int .i64 n, .slice a css.length c]) ∧ Rds w' (.slice a css.length c) css ∧ Below W.heap.size W w'
theorem cpyS (hr : Rds W s css) : CpyS n s css W := by
  refine (copyFormula_any n s css W hr).mono ?_
  rintro e w' ⟨u, rfl, ho, hb⟩
  obtain ⟨a, c, rfl⟩ := ownf_form ho
  exact ⟨a, c, rfl, ho.rds hr.len (rds_each hr), hb⟩
def CpiS (vf : Value) (facts : List Int) (W : World) : Prop :=
  Calls Tryd.prog 20 #[vf] W fun e w' => ∃ a c, e = .returned (.slice a facts.length c) ∧ Rd w' (.slice a facts.length c) facts ∧ Below W.heap.size W w'
theorem cpiS (hf : Rd W vf facts) : CpiS vf facts W := by
  refine (copyInts_any vf facts W hf).mono ?_
  rintro e w' ⟨u, rfl, ho, hb⟩
  obtain ⟨a, c, rfl⟩ := own_form ho
  exact ⟨a, c, rfl, ho.rd hf.len, hb⟩
end
/-- what a region leaves -/
def RClo (w0 : World) (S : Nat) (Wr : World) (bs : List (Nat × Value × Value)) (fs : List Rw) (n : Int) (css : List (List Int)) (facts : List Int) (p q r : Value) (W : World) : Prop :=
  ∃ a c b D, p = .slice a (List.length (α := Int) D) c ∧ q = .bool b ∧ r = .int .i64 (cloE n css facts) ∧ Cp n css facts b D ∧ Ko w0 S Wr W bs (fs ++ [il (.slice a (List.length (α := Int) D) c) D])
def RWhy (w0 : World) (S : Nat) (Wr : World) (bs : List (Nat × Value × Value)) (fs : List Rw) (n : Int) (css : List (List Int)) (facts : List Int) (p q r : Value) (W : World) : Prop :=
  ∃ a c cs e0, p = .slice a (List.length (α := Int × Nat) cs) c ∧ q = .int .i64 e0 ∧ r = .int .i64 (whyE n css facts) ∧ Wp n css facts cs e0 ∧ Ko w0 S Wr W bs (fs ++ [cl (.slice a (List.length (α := Int × Nat) cs) c) cs])
def RFor (w0 : World) (S : Nat) (Wr : World) (bs : List (Nat × Value × Value)) (fs : List Rw) (n : Int) (css : List (List Int)) (facts : List Int) (p q : Value) (W : World) : Prop :=
  p = .bool (frcB n css facts 1) ∧ q = .int .i64 (frcE n css facts 1) ∧ Ko w0 S Wr W bs fs
theorem sameI {v v' : Value} {D : List Int} {W : World} (h : Rd W v D) (h' : Rd W v' D) : Calls Tryd.prog 8 #[v, v'] W fun e w' => e = .returned (.bool true) ∧ Below W.heap.size W w' := by
  have := sameInts_any v v' D D W h h'
  rw [show (D == D) = true by simp] at this
  exact this
section
variable {w0 Wr W : World} {S : Nat} {bs : List (Nat × Value × Value)} {fs : List Rw}
def rwAt (fs : List Rw) (I : List Nat) (j : Nat) : Rw := fs.getD (I.getD j 0) (il (.slice none 0 0) [])
theorem rwAt_eq {I : List Nat} (hlt : ∀ i ∈ I, i < fs.length) {j : Nat} (hj : j < I.length) : ∃ h : I[j] < fs.length, rwAt fs I j = fs[I[j]] := by
  refine ⟨hlt _ (List.getElem_mem hj), ?_⟩
  unfold rwAt
  rw [List.getD_eq_getElem?_getD, List.getD_eq_getElem?_getD, List.getElem?_eq_getElem hj]
  simp only [Option.getD_some]
  rw [List.getElem?_eq_getElem (hlt _ (List.getElem_mem hj))]
  rfl
theorem Ko.apJ (h : Ko w0 S Wr W bs fs) {I : List Nat} (hI : I.Nodup) (hlt : ∀ i ∈ I, i < fs.length) {i j : Nat} (hi : i < I.length) (hj : j < I.length) (hne : i ≠ j) : (rwAt fs I i).v.ownBlock = none ∨ (rwAt fs I i).v.ownBlock ≠ (rwAt fs I j).v.ownBlock := by
  obtain ⟨h1, e1⟩ := rwAt_eq hlt hi
  obtain ⟨h2, e2⟩ := rwAt_eq hlt hj
  rw [e1, e2]
  refine h.apI h1 h2 (fun e => ?_)
  have hp := List.pairwise_iff_getElem.1 hI
  rcases Nat.lt_or_gt_of_ne hne with h3 | h3
  · exact hp i j hi hj h3 e
  · exact hp j i hj hi h3 e.symm
/-- the lists of numbers lie apart; what is of another kind stays -/
theorem Ko.apartI (h : Ko w0 S Wr W bs fs) (I J : List Nat) (hI : (I ++ J).Nodup) (hlt : ∀ i ∈ I ++ J, i < fs.length) (hn : I.length ≤ 1000) (hints : ∀ j, j < I.length → ∃ v D, rwAt fs I j = il v D ∧ D.length * 8 ≤ 140737488353280) :
    Calls Tryd.prog 23 #[.slice (some ⟨W.heap.size, 0, none⟩) I.length I.length] (W.alloc (.cells ((List.range I.length).map fun j => (rwAt fs I j).v).toArray 25)) fun e w' => e = .returned (.bool true) ∧ Below w0.heap.size w0 w' ∧ W.heap.size ≤ w'.heap.size ∧ ∀ j, j < J.length → RwAt (rwAt fs J j) S w' := by
  have hb := below_box W (.cells ((List.range I.length).map fun j => (rwAt fs I j).v).toArray 25)
  have h1 := h.below hb
  have hI1 : I.Nodup := (List.nodup_append.1 hI).1
  have hI2 : ∀ i ∈ I, i < fs.length := fun i hi => hlt i (List.mem_append_left _ hi)
  have hJ2 : ∀ i ∈ J, i < fs.length := fun i hi => hlt i (List.mem_append_right _ hi)
  refine (apart_q (fun k => ∃ j, j < J.length ∧ (rwAt fs J j).v.ownBlock = some k) S _ I.length (fun j => (rwAt fs I j).v) (fun j => (rwAt fs I j).n) _ h1.k.sz ?_ ?_ (fun i j hi hj hne => h.apJ hI1 hI2 hi hj hne) (by omega) ?_ ?_ ?_).mono ?_
  · have := World.ownsRow_lit (base := S) (e := 25) (size := 1) W ((List.range I.length).map fun j => (rwAt fs I j).v).toArray I.length h.k.sz (by unfold maxLen; omega) (by simp)
    simpa using this
  · intro j hj
    obtain ⟨v, D, e, hD⟩ := hints j hj
    obtain ⟨h2, e2⟩ := rwAt_eq hI2 hj
    have h3 := h1.own _ (List.getElem_mem h2)
    rw [← e2] at h3
    rw [e] at h3 ⊢
    exact ⟨D, h3, rfl⟩
  · intro j hj
    obtain ⟨v, D, e, hD⟩ := hints j hj
    show (rwAt fs I j).n * 8 ≤ _
    rw [e]
    exact hD
  · rintro j hj b hb2 ⟨k, hk, hb3⟩
    obtain ⟨h2, e2⟩ := rwAt_eq hI2 hj
    obtain ⟨h4, e4⟩ := rwAt_eq hJ2 hk
    have hb2' : (rwAt fs I j).v.ownBlock = some b := hb2
    rw [e2] at hb2'
    rw [e4] at hb3
    rcases h.apI h2 h4 (fun e => (List.nodup_append.1 hI).2.2 _ (List.getElem_mem hj) _ (List.getElem_mem hk) e) with h5 | h5
    · rw [h5] at hb2'; cases hb2'
    · exact h5 (hb2'.trans hb3.symm)
  · rintro k ⟨j, hj, hk⟩
    obtain ⟨h4, e4⟩ := rwAt_eq hJ2 hj
    rw [e4] at hk
    exact ((h1.own _ (List.getElem_mem h4)).lt k hk).2
  · rintro e w' ⟨rfl, hbw, hq⟩
    refine ⟨rfl, h1.k.bel.trans (hbw.mono h.k.lo), Nat.le_trans hb.size hbw.size, fun j hj => ?_⟩
    obtain ⟨h4, e4⟩ := rwAt_eq hJ2 hj
    have h5 := h1.own _ (List.getElem_mem h4)
    rw [e4]
    exact row_kept h5 fun k hk => hq k ⟨j, hj, by rw [e4]; exact hk.symm⟩
theorem twz_twc (cs : List (Int × Nat)) : twz (cs.map fun c => (c.1, (c.2 : Int))) = twc cs := by
  unfold twz twc
  rw [List.flatMap_map]
/-- the lists of causes lie apart -/
theorem apartC (h : Ko w0 S Wr W bs fs) {w : World} (hs : S ≤ w.heap.size) (J : List Nat) (hJ : J.Nodup) (hlt : ∀ i ∈ J, i < fs.length) (hn : J.length ≤ 1000) (hc : ∀ j, j < J.length → ∃ v cs, rwAt fs J j = cl v cs ∧ cs.length ≤ 2097152) (ho : ∀ j, j < J.length → RwAt (rwAt fs J j) S w) (hbw : Below w0.heap.size w0 w) :
    Calls Tryd.prog 24 #[.slice (some ⟨w.heap.size, 0, none⟩) J.length J.length] (w.alloc (.cells ((List.range J.length).map fun j => (rwAt fs J j).v).toArray 40)) fun e w' => e = .returned (.bool true) ∧ Below w0.heap.size w0 w' := by
  have hb := below_box w (.cells ((List.range J.length).map fun j => (rwAt fs J j).v).toArray 40)
  refine (apart_c (fun _ => False) S _ J.length (fun j => (rwAt fs J j).v) (fun j => (rwAt fs J j).n) _ (Nat.le_trans hs hb.size) ?_ ?_ (fun i j hi hj hne => h.apJ hJ hlt hi hj hne) (by omega) ?_ (fun _ _ _ _ h => h) (fun _ h => h.elim)).mono ?_
  · have := World.ownsRow_lit (base := S) (e := 40) (size := 1) w ((List.range J.length).map fun j => (rwAt fs J j).v).toArray J.length hs (by unfold maxLen; omega) (by simp)
    simpa using this
  · intro j hj
    obtain ⟨v, cs, e, hD⟩ := hc j hj
    have h3 := row_kept (ho j hj) fun k hk => hb.block k ((ho j hj).lt k hk.symm).2
    rw [e] at h3 ⊢
    refine ⟨cs.map fun c => (c.1, (c.2 : Int)), ?_, by rw [List.length_map]; rfl⟩
    unfold OwnC
    rw [twz_twc, List.length_map]
    exact h3
  · intro j hj
    obtain ⟨v, cs, e, hD⟩ := hc j hj
    show (rwAt fs J j).n * 16 ≤ _
    rw [e]
    show cs.length * 16 ≤ _
    omega
  · rintro e w' ⟨rfl, hbw2, -⟩
    exact ⟨rfl, (Below.step hbw hb).trans (hbw2.mono h.k.lo)⟩
end
end Go.Proofs.YtijhabhbeambeaaDoor
