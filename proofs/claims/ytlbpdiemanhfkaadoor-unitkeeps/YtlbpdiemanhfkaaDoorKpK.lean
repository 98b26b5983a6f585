/-
  What stays through a statement of memory: boxes, answers that lie apart, lists that are lent.
  KEEP: set on app at below new trans refl start ap kept rd rds mono lt add none own nil put len pos setF setV putL putR other neV same_any row
-/
import Derived.Test.YtlbpdiemanhfkaaDoorLrO
import Derived.Test.YtlbpdiemanhfkaaDoorAparCl
set_option linter.unusedSimpArgs false
set_option linter.unusedVariables false
namespace Go.Proofs.YtlbpdiemanhfkaaDoor
open Go Go.RowKit Go.Shelf

theorem Fr.toBelow2 {Q : Nat → Prop} {B : Nat} {w W W' : World} (h : Below B w W) (hf : Fr Q W W') (hB : B ≤ W.heap.size) (hq : ∀ k, Q k → B ≤ k) : Below B w W' :=
  ⟨hf.os.trans h.os, hf.tape.trans h.tape, hf.output.trans h.output, Nat.le_trans h.size hf.size, fun k hk => (hf.block k (by omega) (fun e => by have := hq k e; omega)).trans (h.block k hk)⟩
/-- a head of a list of one's own is read -/
theorem own_hd {B : Nat} {W : World} {a : Option Addr} {c n : Nat} {z T : List Int} (h : Own B W (.slice a n c) (z ++ T)) (hn : z.length ≤ n) (hz : z.length * 8 ≤ 140737488351232) : Rd W (.slice a z.length c) z := by
  rcases h.2 with ⟨e1, h0⟩ | ⟨g, cap, cur, e, hb, hg, h1, h2, h3, h4⟩
  · injection e1 with e1 e2 e3
    subst e1; subst e3
    have hz0 : z = [] := by
      cases z with
      | nil => rfl
      | cons x r => simp at h0
    subst hz0
    exact Rd.nil _
  · injection e with e1 e2 e3
    subst e1; subst e3
    have hl : (z ++ T).length = z.length + T.length := List.length_append
    refine ⟨hz, some ⟨g, 0, none⟩, c, rfl, by omega, h2, (fun h => by cases h), fun _ => ⟨g, 0, rfl, (h.lt g rfl).2, fun j hj => ?_⟩⟩
    have hx : W.ownsRow B 3 1 (.slice (some ⟨g, 0, none⟩) (z ++ T).length c) (z ++ T).length ((z ++ T).map (Value.int .i64)) := by
      have h5 := h
      unfold Own at h5
      subst e2
      exact h5
    have := row_cell hx (j := j) (x := .int .i64 (z.getD j 0)) (by
      rw [List.getElem?_map, List.getElem?_append_left hj, List.getElem?_eq_getElem hj, List.getD_eq_getElem?_getD, List.getElem?_eq_getElem hj]; rfl)
    rw [Nat.zero_add]
    exact this
/-- boxes, answers that lie apart, and a rest, in a world that has grown -/
structure Kx (w0 : World) (S : Nat) (Wr W : World) (bs : List (Nat × Value × Value)) (fs : List (Int × Value × List Cls)) : Prop where
  bel : Below w0.heap.size w0 W
  lo : w0.heap.size ≤ S
  sz : S ≤ W.heap.size
  bx : ∀ b ∈ bs, Bx2 W b.1 24 b.2.1 b.2.2 ∧ S ≤ b.1
  own : ∀ x ∈ fs, OwnR S W x.2.1 x.2.2
  apR : (fs.map Prod.snd).Pairwise (fun x y => x.1.ownBlock = none ∨ x.1.ownBlock ≠ y.1.ownBlock)
  apL : ApartC ((fs.map Prod.snd).flatMap Prod.snd)
  ref : Below Wr.heap.size Wr W
section
variable {w0 Wr W W' : World} {S : Nat} {bs : List (Nat × Value × Value)} {fs : List (Int × Value × List Cls)}
theorem Kx.start (hb : Below w0.heap.size w0 W) (hl : w0.heap.size ≤ S) (hS : S ≤ W.heap.size) : Kx w0 S W W [] [] :=
  ⟨hb, hl, hS, fun b hb => (by cases hb), fun x hx => (by cases hx), List.Pairwise.nil, List.Pairwise.nil, Below.refl _ _⟩
theorem Kx.below (h : Kx w0 S Wr W bs fs) (hb : Below W.heap.size W W') : Kx w0 S Wr W' bs fs :=
  ⟨Below.step h.bel hb, h.lo, Nat.le_trans h.sz hb.size, fun b hb' => ⟨(h.bx b hb').1.below hb, (h.bx b hb').2⟩, fun x hx => (h.own x hx).below hb, h.apR, h.apL, Below.step h.ref hb⟩
theorem Kx.box (h : Kx w0 S Wr W bs fs) (x y : Value) : Kx w0 S Wr (W.alloc (.cells #[x, y] 24)) (bs ++ [(W.heap.size, x, y)]) fs := by
  have h1 := h.below (below_box W (.cells #[x, y] 24))
  refine ⟨h1.bel, h1.lo, h1.sz, fun b hb => ?_, h1.own, h1.apR, h1.apL, h1.ref⟩
  rcases List.mem_append.1 hb with h2 | h2
  · exact h1.bx b h2
  · rw [List.mem_singleton.1 h2]
    exact ⟨Bx2.new _ _ _ _, h.sz⟩
theorem Kx.call (h : Kx w0 S Wr W bs fs) (hb : Below W.heap.size W W') {s : Value} {css : List (List Int)} (ho : OwnF W.heap.size W' s css) (n : Int) : ∃ L, L.map Prod.snd = css ∧ Kx w0 S Wr W' bs (fs ++ [(n, s, L)]) := by
  obtain ⟨L, hL, e⟩ := ho
  have h1 := h.below hb
  refine ⟨L, e, h1.bel, h1.lo, h1.sz, h1.bx, fun x hx => ?_, ?_, ?_, h1.ref⟩
  · rcases List.mem_append.1 hx with h2 | h2
    · exact h1.own x h2
    · rw [List.mem_singleton.1 h2]
      exact hL.mono h.sz
  · rw [List.map_append, List.pairwise_append]
    refine ⟨h.apR, by simp, fun x hx y hy => ?_⟩
    obtain ⟨x', hx', rfl⟩ := List.mem_map.1 hx
    simp only [List.map_cons, List.map_nil, List.mem_singleton] at hy
    subst hy
    cases hv : x'.2.1.ownBlock with
    | none => exact .inl rfl
    | some g =>
      refine .inr fun e2 => ?_
      have h3 := ((h.own x' hx').row.lt g hv).2
      have h4 := (hL.row.lt g e2.symm).1
      omega
  · rw [List.map_append, List.flatMap_append]
    refine List.pairwise_append.2 ⟨h.apL, by show ApartC (([(n, s, L)].map Prod.snd).flatMap Prod.snd); rw [show ([(n, s, L)].map Prod.snd).flatMap Prod.snd = L by simp]; exact hL.ap, fun x hx y hy => ?_⟩
    obtain ⟨f, hf, hxf⟩ := List.mem_flatMap.1 hx
    obtain ⟨x', hx', rfl⟩ := List.mem_map.1 hf
    have hy' : y ∈ L := by simpa using hy
    cases hv : x.1.ownBlock with
    | none => exact .inl rfl
    | some g =>
      refine .inr fun e2 => ?_
      have h3 := (((h.own x' hx').own x hxf).lt g hv).2
      have h4 := ((hL.own y hy').lt g e2.symm).1
      omega
theorem Kx.tail {x : Int × Value × List Cls} (h : Kx w0 S Wr W bs (x :: fs)) : Kx w0 S Wr W bs fs :=
  ⟨h.bel, h.lo, h.sz, h.bx, fun y hy => h.own y (List.mem_cons_of_mem _ hy), (List.pairwise_cons.1 h.apR).2, (List.pairwise_append.1 (show ApartC (x.2.2 ++ (fs.map Prod.snd).flatMap Prod.snd) from h.apL)).2.1, h.ref⟩
theorem own_out {e s n : Nat} {B : Nat} {Q : Nat → Prop} {v : Value} {xs : List Value} (h : W.ownsRow B e s v n xs) (hf : Fr Q W W') (hq : ∀ k, Q k → k < B) : W'.ownsRow B e s v n xs := row_kept h fun k e => hf.block k (h.lt k e.symm).2 (fun hk => by have h1 := (h.lt k e.symm).1; have h2 := hq k hk; omega)
theorem ownr_out {B : Nat} {Q : Nat → Prop} {v : Value} {L : List Cls} (h : OwnR B W v L) (hf : Fr Q W W') (hq : ∀ k, Q k → k < B) : OwnR B W' v L := ⟨own_out h.row hf hq, fun x hx => own_out (h.own x hx) hf hq, h.ap⟩
theorem Kx.out {Q : Nat → Prop} (h : Kx w0 S Wr W bs fs) (hf : Fr Q W W') (hq : ∀ k, Q k → w0.heap.size ≤ k ∧ k < S) : Kx w0 S W' W' bs fs :=
  ⟨hf.toBelow2 h.bel h.bel.size (fun k hk => (hq k hk).1), h.lo, Nat.le_trans h.sz hf.size, fun b hb => ⟨(hf.block _ (h.bx b hb).1.lt (fun hk => by have h1 := (hq _ hk).2; have h2 := (h.bx b hb).2; omega)).trans (h.bx b hb).1, (h.bx b hb).2⟩, fun x hx => ownr_out (h.own x hx) hf (fun k hk => (hq k hk).2), h.apR, h.apL, Below.refl _ _⟩
/-- a box that is filled -/
theorem Kx.fill (h : Kx w0 S Wr W bs fs) {D : Nat} {x y : Value} (hD : Bx2 W D 24 x y) (h1 : S ≤ D) (h2 : Wr.heap.size ≤ D) (h3 : ∀ b ∈ bs, b.1 ≠ D) (x' y' : Value) : Kx w0 S Wr ((W.setCell ⟨D, 0, none⟩ x').setCell ⟨D, 1, none⟩ y') (bs ++ [(D, x', y')]) fs := by
  have hb := (hD.set0 x')
  refine ⟨below_set (below_set h.bel (Nat.le_trans h.lo h1) _ _) (Nat.le_trans h.lo h1) _ _, h.lo, ?_, fun b hb' => ?_, fun x hx => ((h.own x hx).set hD (by decide) (by decide) _ _).set hb (by decide) (by decide) _ _, h.apR, h.apL, below_set (below_set h.ref h2 _ _) h2 _ _⟩
  · exact Nat.le_trans h.sz (Nat.le_trans (grown_set W ⟨D, 0, none⟩ x').size (grown_set _ ⟨D, 1, none⟩ y').size)
  · rcases List.mem_append.1 hb' with e | e
    · have := h.bx b e
      have hne := h3 b e
      exact ⟨(this.1.kept (grown_set W ⟨D, 0, none⟩ x') (by simpa using hne)).kept (grown_set _ ⟨D, 1, none⟩ y') (by simpa using hne), this.2⟩
    · rw [List.mem_singleton.1 e]
      exact ⟨hb.set1 y', h1⟩
/-- an answer's box -/
theorem Kx.ans (h : Kx w0 S Wr W bs fs) (hb : Below W.heap.size W W') {s : Value} {css : List (List Int)} (ho : OwnF W.heap.size W' s css) (n : Int) : ∃ L, L.map Prod.snd = css ∧ Kx w0 S Wr (W'.alloc (.cells #[.int .i64 n, s] 24)) (bs ++ [(W'.heap.size, .int .i64 n, s)]) (fs ++ [(n, s, L)]) := by
  obtain ⟨L, e, h1⟩ := h.call hb ho n
  exact ⟨L, e, h1.box _ _⟩
/-- an answer's box that was made ahead of the call -/
theorem Kx.ans2 {x y : Value} (h : Kx w0 S Wr W bs fs) (hb : Below (W.alloc (.cells #[x, y] 24)).heap.size (W.alloc (.cells #[x, y] 24)) W') {s : Value} {css : List (List Int)} (ho : OwnF (W.alloc (.cells #[x, y] 24)).heap.size W' s css) (n : Int) : ∃ L, L.map Prod.snd = css ∧ Kx w0 S Wr ((W'.setCell ⟨W.heap.size, 0, none⟩ (.int .i64 n)).setCell ⟨W.heap.size, 1, none⟩ s) (bs ++ [(W.heap.size, .int .i64 n, s)]) (fs ++ [(n, s, L)]) := by
  obtain ⟨L, e, h1⟩ := (h.below (below_box W _)).call hb ho n
  exact ⟨L, e, h1.fill ((Bx2.new W _ x y).below hb) h.sz h.ref.size (fun b hb' e2 => by have := (h.bx b hb').1.lt; omega) _ _⟩
/-- the answer of a region that draws its order -/
def An (w0 : World) (S : Nat) (Wr : World) (bs : List (Nat × Value × Value)) (fs : List (Int × Value × List Cls)) (u : Int) (cs : List (List Int)) (p : Value) (W : World) : Prop :=
  ∃ D a c L, p = .pointer (some ⟨D, 0, none⟩) ∧ L.map Prod.snd = cs ∧ Kx w0 S Wr W (bs ++ [(D, .int .i64 u, .slice a cs.length c)]) (fs ++ [(u, .slice a cs.length c, L)])
theorem Kx.rds (h : Kx w0 S Wr W bs fs) {n : Int} {s : Value} {L : List Cls} {css : List (List Int)} (hm : (n, s, L) ∈ fs) (e : L.map Prod.snd = css) (h24 : css.length * 24 ≤ 140737488351232) (h8 : ∀ z ∈ css, z.length * 8 ≤ 140737488351232) : Rds W s css :=
  OwnF.rds ⟨L, h.own _ hm, e⟩ h24 h8
end
theorem fcells_len (F : List (Int × Value × List Cls)) : (fcells F).length = F.length * 2 := by
  induction F with
  | nil => rfl
  | cons x r ih =>
    have e : fcells (x :: r) = [.int .i64 x.1, x.2.1] ++ fcells r := rfl
    rw [e, List.length_append, ih]
    simp; omega
end Go.Proofs.YtlbpdiemanhfkaaDoor
