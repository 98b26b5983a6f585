/-
  depotlaw02.turned, walked; what stays while lists that were lent are written over.
  KEEP: set on app at below new trans refl start ap kept rd rds mono lt add none own nil put len pos setF setV putL putR other neV same_any row
-/
import Derived.Test.YtlbpdiemanhfkaaDoorTrn
set_option linter.unusedSimpArgs false
set_option linter.unusedVariables false
namespace Go.Proofs.YtlbpdiemanhfkaaDoor
open Go Go.RowKit Go.Shelf

theorem Fr.toBelow {Q : Nat → Prop} {B : Nat} {w W W' : World} (h : Below B w W) (hf : Fr Q W W') (hB : B ≤ W.heap.size) (hq : ∀ k, Q k → B ≤ k) : Below B w W' :=
  ⟨hf.os.trans h.os, hf.tape.trans h.tape, hf.output.trans h.output, Nat.le_trans h.size hf.size, fun k hk => (hf.block k (by omega) (fun e => by have := hq k e; omega)).trans (h.block k hk)⟩
theorem cutN_zero {B : Nat} {W : World} {x : Value} {z : List Int} (h : Own B W x z) : cutN 0 x = x := by
  obtain ⟨a, c, rfl⟩ := own_form h
  rfl
theorem OwnR.tn {B : Nat} {W : World} {a : Option Addr} {c : Nat} {L : List Cls} (h : OwnR B W (.slice a L.length c) L) : Tn B W a (L.map Prod.snd) [] L := by
  refine ⟨fun k hk => ?_, h.own, h.ap, by simp⟩
  obtain ⟨g, cap, e, h1, h2, h3⟩ := row_some h.row (by omega)
  injection e with e1 _ e3
  subst e1; subst e3
  refine ⟨g, rfl, h3, ?_, fun x hx e => ?_⟩
  · have := row_cell h.row (j := k) (x := (L[k]).1) (by rw [List.getElem?_map, List.getElem?_eq_getElem hk]; rfl)
    rw [this, List.length_nil, cutN_zero (h.own _ (List.getElem_mem hk))]
  · exact block_apart (by decide) h.row (h.own x hx) e.symm rfl
theorem OwnR.turned {B : Nat} {W W' : World} {a : Option Addr} {c : Nat} {L : List Cls} (h : OwnR B W (.slice a L.length c) L) (hf : Fr (TnB L) W W') {css : List (List Int)} (ht : Tn B W' a css [] (L.map (tnC []))) : OwnF B W' (.slice a L.length c) css := by
  refine ⟨L.map (tnC []), ⟨?_, ht.own, ht.ap⟩, by rw [ht.ls]; simp⟩
  have e : (L.map (tnC [])).map Prod.fst = L.map Prod.fst := by simp [tnC, Function.comp_def]
  rw [e, List.length_map]
  refine row_kept h.row fun k hk => hf.block k (h.row.lt k hk.symm).2 ?_
  rintro ⟨x, hx, e⟩
  exact block_apart (by decide) h.row (h.own x hx) e.symm hk.symm
theorem tnB_le {B : Nat} {W : World} {L : List Cls} (h : ∀ x ∈ L, Own B W x.1 x.2) : ∀ k, TnB L k → B ≤ k ∧ k < W.heap.size := fun k ⟨x, hx, e⟩ => (h x hx).lt k e.symm
end Go.Proofs.YtlbpdiemanhfkaaDoor
