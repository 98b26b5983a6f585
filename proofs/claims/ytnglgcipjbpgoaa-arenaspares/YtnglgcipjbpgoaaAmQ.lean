/-
  depotref04: Learnt, Get, Drop, Put, walked, by what the arena's words say.
  KEEP: set on app at below new trans refl start ap kept rd rds mono own row cells lt box lo ml ms c0 f0 form max find eq ma some none
-/
import Derived.Test.YtnglgcipjbpgoaaAmM
set_option linter.unusedSimpArgs false
set_option linter.unusedVariables false
namespace Go.Proofs.Ytnglgcipjbpgoaa
open Go Go.RowKit

/-- the document's arena says what the words say -/
structure Mz4 (B : Nat) (W : World) (m : Nat) (rv : Value) (L : List Mt) (S : List Seg) : Prop where
  ma : Ma4 B W m rv L
  eq : L.map Prod.snd = plc 0 S
theorem Mz4.below {B m : Nat} {W W' : World} {rv : Value} {L : List Mt} {S : List Seg} (h : Mz4 B W m rv L S) (hb : Below W.heap.size W W') : Mz4 B W' m rv L S := ⟨h.ma.below hb, h.eq⟩
theorem mz_at {L : List Mt} {S : List Seg} (h : L.map Prod.snd = plc 0 S) {i : Nat} (hi : i < L.length) (hi2 : i < (plc 0 S).length) : L[i].2 = (plc 0 S)[i] := by
  have : (L.map Prod.snd)[i]'(by simpa using hi) = (plc 0 S)[i] := by simp only [h]
  rw [← this]; simp
theorem fi_none {L : List Mt} {S : List Seg} {r : Int} {e : Ending} (h : L.map Prod.snd = plc 0 S) (hf : find S r = none) (he : Fi4 L r e) : e = .returned (.int .i64 (-1)) := by
  rcases he with ⟨e1, _⟩ | ⟨i, hi, _, h2, h3, _⟩
  · exact e1
  · have hp := (plc_find S 0 r).1 (by rw [Int.sub_zero]; exact hf)
    exact absurd ⟨h2, h3⟩ (hp L[i].2 (by rw [← h]; exact List.mem_map.2 ⟨L[i], List.getElem_mem hi, rfl⟩))
theorem fi_some {L : List Mt} {S : List Seg} {r : Int} {e : Ending} {s : Seg} (h : L.map Prod.snd = plc 0 S) (hf : find S r = some s) (he : Fi4 L r e) : ∃ i, ∃ hi : i < L.length, e = .returned (.int .i64 i) ∧ L[i].2 = ⟨r, s.lits, s.learnt, true⟩ ∧ plc 0 (dropAt S r) = (L.map Prod.snd).set i ⟨r, s.lits, s.learnt, false⟩ := by
  obtain ⟨i0, hi0, h1, h2, h3⟩ := (plc_find S 0 r).2 s (by rw [Int.sub_zero]; exact hf)
  rw [Int.sub_zero] at h2
  have hl : L.length = (plc 0 S).length := by rw [← h]; simp
  have hi0' : i0 < L.length := by omega
  have e0 : L[i0].2 = ⟨r, s.lits, s.learnt, true⟩ := (mz_at h hi0' hi0).trans h1
  rcases he with ⟨_, hn⟩ | ⟨i, hi, e1, g1, g2, g3⟩
  · exact absurd ⟨by rw [e0], by rw [e0]⟩ (hn L[i0] (List.getElem_mem hi0'))
  · have hii : i = i0 := by
      rcases Nat.lt_trichotomy i i0 with q | q | q
      · have := h3 i q
        rw [← mz_at h hi (by omega)] at this
        exact absurd ⟨g1, g2⟩ this
      · exact q
      · exact absurd ⟨by rw [e0], by rw [e0]⟩ (g3 i0 q)
    subst hii
    exact ⟨i, hi, e1, e0, by rw [h2, h]⟩
set_option maxHeartbeats 800000 in
theorem mLearnt_any (B m : Nat) (rv : Value) (L : List Mt) (S : List Seg) (r : Int) (w : World) (h : Mz4 B w m rv L S) :
    Calls Try.prog 25 #[.pointer (some ⟨m, 0, none⟩), .int .i64 r] w fun e w' => e = .returned (.bool (match find S r with | some s => s.learnt | none => false)) ∧ w' = w := by
  have HM : Hid (Mz4 B w m rv L S) := h
  have hmx := h.ma.ml.max
  unfold maxLen at hmx
  have c0 := h.ma.c0
  cases hf : find S r with
  | none =>
    have HF : Hid (find S r = none) := hf
    clear h c0 hf
    go_enter Try.func25, Try.ntmps25
    go_wp2_with fail
    refine (mFind_any B m rv L r w HM.out.ma).mono ?_
    rintro e w1 ⟨he, ew⟩
    have ew := ew.symm
    subst ew
    have he := fi_none HM.out.eq HF.out he
    subst he
    go_wp2
    go_ret
    exact ⟨rfl, rfl⟩
  | some s =>
    have HF : Hid (find S r = some s) := hf
    obtain ⟨ra, rc, hrv⟩ := h.ma.ml.form
    subst hrv
    clear h hf
    go_enter Try.func25, Try.ntmps25
    go_wp2_with fail
    refine (mFind_any B m _ L r w HM.out.ma).mono ?_
    rintro e w1 ⟨he, ew⟩
    have ew := ew.symm
    subst ew
    obtain ⟨i, hi, e1, e2, -⟩ := fi_some HM.out.eq HF.out he
    subst e1
    obtain ⟨g, cap, erv, hnc, hcm, hBg, hgl, d0, d1, d2, d3, df⟩ := HM.out.ma.ml.cells hi
    injection erv with q1 q2 q3
    subst q1; subst q3
    have d2' := d2.trans (congrArg (fun x : Mc => some (Value.bool x.learnt)) e2)
    clear q2 d0 d1 d2 d3 df e2 he
    go_wp2
    go_ret
    exact ⟨rfl, rfl⟩
theorem get4_below {w w8 v8 : _} (h : Ap w (.slice none 0 0) w8 v8) : Below w.heap.size w w8 := (Below.refl _ _).grown h.grown (Nat.le_refl _) (by simp [Value.ownBlock])
/-- what Get says -/
def Gt4 (w : World) (S : List Seg) (r : Int) (e : Ending) (w' : World) : Prop :=
  (find S r = none ∧ e = .returned (.tuple #[.slice none 0 0, .bool false]) ∧ w' = w) ∨ ∃ s, find S r = some s ∧ ∃ u, e = .returned (.tuple #[u, .bool true]) ∧ Own w.heap.size w' u s.lits ∧ Below w.heap.size w w'
set_option maxHeartbeats 1600000 in
theorem mGet_any (B m : Nat) (rv : Value) (L : List Mt) (S : List Seg) (r : Int) (w : World) (h : Mz4 B w m rv L S) (h8 : ∀ x ∈ L, x.2.lits.length * 8 ≤ 140737488351232) :
    Calls Try.prog 23 #[.pointer (some ⟨m, 0, none⟩), .int .i64 r] w fun e w' => Gt4 w S r e w' := by
  have HM : Hid (Mz4 B w m rv L S) := h
  have hmx := h.ma.ml.max
  unfold maxLen at hmx
  have c0 := h.ma.c0
  obtain ⟨i0, hi0, hz0, hz1, hz2⟩ := info_parts Try.info3
  cases hf : find S r with
  | none =>
    have HF : Hid (find S r = none) := hf
    clear h c0 hf
    go_enter Try.func23, Try.ntmps23
    go_wp2_with fail
    refine (mFind_any B m rv L r w HM.out.ma).mono ?_
    rintro e w1 ⟨he, ew⟩
    have ew := ew.symm
    subst ew
    have he := fi_none HM.out.eq HF.out he
    subst he
    go_wp2
    go_returns
    exact .inl ⟨HF.out, rfl, rfl⟩
  | some s =>
    have HF : Hid (find S r = some s) := hf
    have H8 : Hid (∀ x ∈ L, x.2.lits.length * 8 ≤ 140737488351232) := h8
    obtain ⟨ra, rc, hrv⟩ := h.ma.ml.form
    subst hrv
    clear h hf h8
    go_enter Try.func23, Try.ntmps23
    go_wp2_with fail
    refine (mFind_any B m _ L r w HM.out.ma).mono ?_
    rintro e w1 ⟨he, ew⟩
    have ew := ew.symm
    subst ew
    obtain ⟨i, hi, e1, e2, -⟩ := fi_some HM.out.eq HF.out he
    subst e1
    obtain ⟨g, cap, erv, hnc, hcm, hBg, hgl, d0, d1, d2, d3, df⟩ := HM.out.ma.ml.cells hi
    injection erv with q1 q2 q3
    subst q1; subst q3
    have ho := HM.out.ma.ml.own _ (List.getElem_mem hi)
    have h8 := H8.out _ (List.getElem_mem hi)
    rw [show L[i].2.lits = s.lits from congrArg Mc.lits e2] at ho h8
    obtain ⟨la, lc, hls⟩ := own_form ho
    have d1' := d1.trans (congrArg some hls)
    rw [hls] at ho
    have HR : Hid (Rd w (.slice la s.lits.length lc) s.lits) := ho.rd h8
    have HFin : Hid (∀ u w', Own w.heap.size w' u s.lits → Below w.heap.size w w' → Gt4 w S r (.returned (.tuple #[u, .bool true])) w') := fun u w' h1 h2 => .inr ⟨s, HF.out, u, rfl, h1, h2⟩
    clear q2 d0 d1 d2 d3 df e2 he hls ho
    go_wp2_with (at_builtin; refine wpList_app_rd rfl _ _ rfl w.heap.size (.slice none 0 0) (.slice la s.lits.length lc) [] s.lits rfl rfl (World.ownsRow_nil _ _ _ _) HR.out (by simp; omega) (Nat.le_refl _) ?_; intro v8 w8 own8 ap8; have HO8 : Hid (Own w.heap.size w8 v8 s.lits ∧ Below w.heap.size w w8) := ⟨by simpa using own8, get4_below ap8⟩; clear own8 ap8)
    go_returns
    exact HFin.out _ _ HO8.out.1 HO8.out.2
end Go.Proofs.Ytnglgcipjbpgoaa
