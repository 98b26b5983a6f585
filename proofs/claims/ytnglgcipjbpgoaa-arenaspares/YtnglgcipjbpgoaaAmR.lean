/-
  depotref04: Drop, Put, walked.
  KEEP: set on app at below new trans refl start ap kept rd rds mono own row cells lt box lo ml ms c0 f0 form max find eq ma some none
-/
import Derived.Test.YtnglgcipjbpgoaaAmQ
set_option linter.unusedSimpArgs false
set_option linter.unusedVariables false
namespace Go.Proofs.Ytnglgcipjbpgoaa
open Go Go.RowKit

theorem rowsM_kill : ∀ {L : List Mt} {i : Nat} (hi : i < L.length) (x' : Mc), x'.pl = L[i].2.pl → x'.learnt = L[i].2.learnt → x'.live = false → rowsM (L.set i (L[i].1, x')) = (rowsM L).set (i * 4 + 3) (.bool false)
  | x :: r, 0, hi, x', h1, h2, h3 => by
    show rowsM ((x.1, x') :: r) = (Value.int .i64 x.2.pl :: x.1 :: .bool x.2.learnt :: .bool x.2.live :: rowsM r).set 3 (.bool false)
    have e1 : x'.pl = x.2.pl := h1
    have e2 : x'.learnt = x.2.learnt := h2
    rw [show rowsM ((x.1, x') :: r) = .int .i64 x'.pl :: x.1 :: .bool x'.learnt :: .bool x'.live :: rowsM r from rfl, e1, e2, h3]
    rfl
  | x :: r, i + 1, hi, x', h1, h2, h3 => by
    have ih := rowsM_kill (L := r) (i := i) (by simpa using hi) x' (by simpa using h1) (by simpa using h2) h3
    rw [show (i + 1) * 4 + 3 = (i * 4 + 3) + 1 + 1 + 1 + 1 by omega]
    show rowsM (x :: r.set i ((r[i]'(by simpa using hi)).1, x')) = (Value.int .i64 x.2.pl :: x.1 :: .bool x.2.learnt :: .bool x.2.live :: rowsM r).set ((i * 4 + 3) + 1 + 1 + 1 + 1) (.bool false)
    rw [show rowsM (x :: r.set i ((r[i]'(by simpa using hi)).1, x')) = .int .i64 x.2.pl :: x.1 :: .bool x.2.learnt :: .bool x.2.live :: rowsM (r.set i ((r[i]'(by simpa using hi)).1, x')) from rfl, ih]
    rfl
/-- a clause of the list is taken out -/
theorem Ma4.kill {B m g cap : Nat} {W : World} {L : List Mt} {i : Nat} (h : Ma4 B W m (.slice (some ⟨g, 0, none⟩) L.length cap) L) (hi : i < L.length) (x' : Mc) (h1 : x'.pl = L[i].2.pl) (h2 : x'.learnt = L[i].2.learnt) (h3 : x'.live = false) (h4 : x'.lits = L[i].2.lits) :
    Ma4 B (W.setCell ⟨g, i * 4 + 3, none⟩ (.bool false)) m (.slice (some ⟨g, 0, none⟩) L.length cap) (L.set i (L[i].1, x')) := by
  have hg := grown_set W ⟨g, i * 4 + 3, none⟩ (.bool false)
  have hmg : m ≠ g := by
    rintro rfl
    rcases h.ml.row.2 with ⟨e, _⟩ | ⟨g', cap', cur, e, _, hh, _⟩
    · cases e
    · injection e with e1 _ _
      injection e1 with e1
      injection e1 with e1
      subst e1
      rw [h.box] at hh
      injection hh with hh
      injection hh with _ hh
      exact absurd hh (by decide)
  refine ⟨(hg.block m h.lt (by simpa using hmg)).trans h.box, ⟨?_, fun x hx => ?_⟩, h.lo⟩
  · have := (World.ownsRow.stored h.ml.row (i * 4 + 3) (.bool false)).1
    rw [rowsM_kill hi x' h1 h2 h3, List.length_set]
    exact this
  · have key : ∀ y : Mt, y ∈ L → Own B (W.setCell ⟨g, i * 4 + 3, none⟩ (.bool false)) y.1 y.2.lits := fun y hy =>
      row_apart (by decide) (h.ml.own y hy) h.ml.row (World.ownsRow.stored h.ml.row (i * 4 + 3) (.bool false)).2
    rcases List.mem_or_eq_of_mem_set hx with e | e
    · exact key x e
    · rw [e]
      have := key L[i] (List.getElem_mem hi)
      show Own B _ L[i].1 x'.lits
      rw [h4]; exact this
theorem set_snd4 {L : List Mt} {i : Nat} {v : Value} {x : Mc} : (L.set i (v, x)).map Prod.snd = (L.map Prod.snd).set i x := by rw [List.map_set]
/-- the lists' values: as they were, or new -/
def Vs4 (w : World) (L L' : List Mt) : Prop := ∀ x ∈ L', (∃ y ∈ L, y.1 = x.1) ∨ ∀ g, x.1.ownBlock = some g → w.heap.size ≤ g
theorem vs_set {w : World} {L : List Mt} {i : Nat} (hi : i < L.length) (c : Mc) : Vs4 w L (L.set i (L[i].1, c)) := fun x hx => by
  rcases List.mem_or_eq_of_mem_set hx with e | e
  · exact .inl ⟨x, e, rfl⟩
  · exact .inl ⟨L[i], List.getElem_mem hi, by rw [e]⟩
/-- what Drop says -/
def Dp4 (B : Nat) (w : World) (m : Nat) (rv : Value) (L : List Mt) (S : List Seg) (r : Int) (e : Ending) (w' : World) : Prop :=
  (find S r = none ∧ e = .returned (.int .i64 2) ∧ w' = w) ∨ ∃ s, find S r = some s ∧ ∃ L', e = .returned (.int .i64 0) ∧ Mz4 B w' m rv L' (dropAt S r) ∧ Mv w m rv w' rv ∧ Vs4 w L L' ∧ L'.length = L.length
set_option maxHeartbeats 1600000 in
theorem mDrop_any (B m : Nat) (rv : Value) (L : List Mt) (S : List Seg) (r : Int) (w : World) (h : Mz4 B w m rv L S) :
    Calls Try.prog 27 #[.pointer (some ⟨m, 0, none⟩), .int .i64 r] w fun e w' => Dp4 B w m rv L S r e w' := by
  have HM : Hid (Mz4 B w m rv L S) := h
  have hmx := h.ma.ml.max
  unfold maxLen at hmx
  have c0 := h.ma.c0
  cases hf : find S r with
  | none =>
    have HF : Hid (find S r = none) := hf
    clear h c0 hf
    go_enter Try.func27, Try.ntmps27
    go_wp2_with fail
    refine (mFind_any B m rv L r w HM.out.ma).mono ?_
    rintro e w1 ⟨he, ew⟩
    have ew := ew.symm
    subst ew
    have he := fi_none HM.out.eq HF.out he
    subst he
    go_wp2
    go_ret
    exact .inl ⟨HF.out, rfl, rfl⟩
  | some s =>
    have HF : Hid (find S r = some s) := hf
    obtain ⟨ra, rc, hrv⟩ := h.ma.ml.form
    subst hrv
    clear h hf
    go_enter Try.func27, Try.ntmps27
    go_wp2_with fail
    refine (mFind_any B m _ L r w HM.out.ma).mono ?_
    rintro e w1 ⟨he, ew⟩
    have ew := ew.symm
    subst ew
    obtain ⟨i, hi, e1, e2, e3⟩ := fi_some HM.out.eq HF.out he
    subst e1
    obtain ⟨g, cap, erv, hnc, hcm, hBg, hgl, d0, d1, d2, d3, df⟩ := HM.out.ma.ml.cells hi
    injection erv with q1 q2 q3
    subst q1; subst q3
    have d3' := d3.trans (congrArg (fun x : Mc => some (Value.bool x.live)) e2)
    have HFin : Hid (∀ X, X = w.setCell ⟨g, i * 4 + 3, none⟩ (.bool false) → Dp4 B w m (.slice (some ⟨g, 0, none⟩) L.length rc) L S r (.returned (.int .i64 0)) X) := fun X eX => by
      subst eX
      have hk := HM.out.ma.kill hi ⟨r, s.lits, s.learnt, false⟩ (congrArg Mc.pl e2).symm (congrArg Mc.learnt e2).symm rfl (congrArg Mc.lits e2).symm
      have hg := grown_set w ⟨g, i * 4 + 3, none⟩ (.bool false)
      exact .inr ⟨s, HF.out, _, rfl, ⟨hk, by rw [set_snd4]; exact e3.symm⟩, ⟨hg.os, hg.tape, hg.output, hg.size, fun k hk _ h2 => hg.block k hk h2, .inl rfl⟩, vs_set hi _, List.length_set⟩
    have hfz := df (i * 4 + 3)
    clear q2 d0 d1 d2 d3 df e2 e3 he
    go_wp2
    go_ret
    exact HFin.out _ rfl
end Go.Proofs.Ytnglgcipjbpgoaa
