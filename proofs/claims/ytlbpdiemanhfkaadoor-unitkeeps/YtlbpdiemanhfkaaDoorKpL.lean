/-
  Rows that are lent and turned.
  KEEP: set on app at below new trans refl start ap kept rd rds mono lt add none own nil put len pos setF setV putL putR other neV same_any row
-/
import Derived.Test.YtlbpdiemanhfkaaDoorTrd
import Derived.Test.YtlbpdiemanhfkaaDoorKpK
set_option linter.unusedSimpArgs false
set_option linter.unusedVariables false
namespace Go.Proofs.YtlbpdiemanhfkaaDoor
open Go Go.RowKit Go.Shelf

theorem cutV_eq (x : Cls) : cutV x = cutN 64 x.1 := by
  obtain ⟨v, z⟩ := x
  cases v <;> rfl
theorem Lk.tn {B : Nat} {W : World} {a : Option Addr} {c : Nat} {vr : Value} {css : List (List Int)} {L M : List Cls} (h : Lk B W (.slice a (css.length + 64) c) vr css L M) : Tn B W a css m64 L := by
  refine ⟨fun k hk => ?_, h.l.r.own, h.l.r.ap, h.ls⟩
  have hl := h.len
  have hw := h.l.w
  rw [List.length_append, List.length_map, List.length_map, hl.1, hl.2] at hw
  obtain ⟨g, cap, e, h1, h2, h3⟩ := row_some hw (by omega)
  injection e with e1 _ e3
  subst e1; subst e3
  refine ⟨g, rfl, h3, ?_, fun x hx e => ?_⟩
  · have := row_cell hw (j := k) (x := cutV L[k]) (by rw [List.getElem?_append_left (by simpa using hk), List.getElem?_map, List.getElem?_eq_getElem hk]; rfl)
    rw [this, cutV_eq, m64_len]
  · exact block_apart (by decide) hw (h.l.r.own x hx) e.symm rfl
theorem Tn.rds {B : Nat} {W : World} {a : Option Addr} {c : Nat} {css : List (List Int)} {T : List Int} {L : List Cls} (h : Tn B W a css T L) (hc : css.length ≤ c) (hc2 : c ≤ maxLen) (hn : a = none → c = 0) (h24 : css.length * 24 ≤ 140737488351232) (h8 : ∀ z ∈ css, z.length * 8 ≤ 140737488351232) : Rds W (.slice a css.length c) css := by
  have hll : L.length = css.length := by have h5 := congrArg List.length h.ls; simpa using h5
  refine ⟨h24, a, c, rfl, hc, hc2, hn, fun hne => ?_⟩
  have h0 : 0 < css.length := List.length_pos_iff.2 hne
  obtain ⟨gw, e, h1, -, -⟩ := h.cell 0 (by omega)
  refine ⟨gw, 0, e, h1, fun j hj => ?_⟩
  obtain ⟨gw', e', -, h2, -⟩ := h.cell j (by omega)
  have eg : gw' = gw := by rw [e] at e'; injection e' with e'; injection e' with e'; exact e'.symm
  subst eg
  rw [Nat.zero_add]
  refine ⟨_, h2, ?_⟩
  have ho := h.own _ (List.getElem_mem (show j < L.length by omega))
  rw [(h.at (show j < L.length by omega)).1] at ho
  obtain ⟨au, cu, eu⟩ := own_form ho
  rw [eu] at ho ⊢
  rw [List.length_append] at ho ⊢
  show Rd W (.slice au ((css.getD j []).length + T.length - T.length) cu) (css.getD j [])
  rw [Nat.add_sub_cancel]
  exact own_hd ho (by omega) (h8 _ (getD_inR hj))
theorem Lr.turned {B : Nat} {W W' : World} {vw vr : Value} {css : List (List Int)} {T : List Int} {L M : List Cls} {ws : List Value} {a : Option Addr} (h : Lr B W vw vr L ws M) (hf : Fr (TnB L) W W') (ht : Tn B W' a css T (L.map (tnC T))) : Lr B W' vw vr (L.map (tnC T)) ws [] := by
  have keep : ∀ {v : Value} {n : Nat} {xs : List Value}, W.ownsRow B 25 1 v n xs → W'.ownsRow B 25 1 v n xs := fun hr => row_kept hr fun k hk => hf.block k (hr.lt k hk.symm).2 (by
    rintro ⟨x, hx, e⟩
    exact block_apart (by decide) hr (h.r.own x hx) e.symm hk.symm)
  refine ⟨⟨?_, ht.own, ht.ap⟩, keep h.w, fun x hx => (by cases hx), h.ne⟩
  have e : (L.map (tnC T)).map Prod.fst = L.map Prod.fst := by simp [tnC, Function.comp_def]
  rw [e, List.length_map]
  exact keep h.r.row
theorem lr_out {B : Nat} {Q : Nat → Prop} {W W' : World} {vw vr : Value} {L M : List Cls} {ws : List Value} (h : Lr B W vw vr L ws M) (hf : Fr Q W W') (hq : ∀ k, Q k → k < B) : Lr B W' vw vr L ws M :=
  ⟨ownr_out h.r hf hq, own_out h.w hf hq, fun x hx => own_out (h.m x hx) hf hq, h.ne⟩
theorem lown_le {B : Nat} {W : World} {vw vr : Value} {L M : List Cls} {ws : List Value} (h : Lr B W vw vr L ws M) : ∀ k, Lown vw vr L k → B ≤ k ∧ k < W.heap.size := fun k hk => by
  rcases hk with e | e | ⟨x, hx, e⟩
  · exact h.w.lt k e.symm
  · exact h.r.row.lt k e.symm
  · exact (h.r.own x hx).lt k e.symm
theorem lown_turned {vw vr : Value} {L : List Cls} {T : List Int} {k : Nat} (h : Lown vw vr (L.map (tnC T)) k) : Lown vw vr L k := by
  rcases h with e | e | ⟨x, hx, e⟩
  · exact .inl e
  · exact .inr (.inl e)
  · obtain ⟨y, hy, rfl⟩ := List.mem_map.1 hx
    exact .inr (.inr ⟨y, hy, e⟩)
theorem bx3_out {Q : Nat → Prop} {W W' : World} {D : Nat} {t : TypeId} {x y z : Value} (h : Bx3 W D t x y z) (hf : Fr Q W W') (hq : ∀ k, Q k → k < D) : Bx3 W' D t x y z := (hf.block D h.lt (fun hk => Nat.lt_irrefl _ (hq D hk))).trans h
/-- the value of what is handed in: its address, its room -/
theorem Lq.vals {w W : World} {vi vw vr : Value} {css : List (List Int)} {L M : List Cls} (h : Lq w W vi vw vr css L M) : ∃ g c, vw = .slice (some ⟨g, 0, none⟩) (css.length + 64) c ∧ vi = .slice (some ⟨g, 0, none⟩) css.length c ∧ css.length + 64 ≤ c ∧ c ≤ maxLen := by
  obtain ⟨a, c, e1, e2⟩ := h.i
  have hl := h.k.len
  have hw := h.l.w
  rw [List.length_append, List.length_map, List.length_map, hl.1, hl.2] at hw
  obtain ⟨g, cap, e, h1, h2, -⟩ := row_some hw (by omega)
  rw [e1] at e
  injection e with e3 _ e4
  subst e3; subst e4
  exact ⟨g, c, e1, e2, h1, h2⟩
end Go.Proofs.YtlbpdiemanhfkaaDoor
