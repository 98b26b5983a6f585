/-
  watch, at one small formula: know, look.
  KEEP: set on app at below new trans refl start ap kept rd rds mono lt add none own nil put len pos setF setV putL putR other neV same_any
-/
import Derived.Test.YtljcdlpjnpcdmaaWo
import Derived.Deep.RegionLaw
import Derived.Deep.CutRange
set_option linter.unusedSimpArgs false
set_option linter.unusedVariables false
namespace Go.Proofs.Ytljcdlpjnpcdmaa
open Go Go.RowKit

theorem infoI32w : (Try.prog.info? 21).map (fun i => (i.zero, i.size, i.bytes)) = some (some (.int .i32 0), 1, 4) := by kernel_rfl
theorem below_setW {B : Nat} {w W : World} {g j : Nat} (h : Below B w W) (hg : B ≤ g) (x : Value) : Below B w (W.setCell ⟨g, j, none⟩ x) := h.setCell (p := ⟨g, j, none⟩) hg x
theorem one_newW (w : World) (x : Value) (t : TypeId) : ∀ j y, [x][j]? = some y → (w.alloc (.cells #[x] t)).cell? ((⟨w.heap.size, 0, none⟩ : Addr).add j) = some y := fun j y hy => by
  rw [Addr.add_lit]
  have hh := World.alloc_heap_new w (.cells #[x] t)
  show (match (w.alloc (.cells #[x] t)).heap[w.heap.size]? with | some (Obj.cells c elem frozen) => c[0 + j]? | x => none) = _
  rw [hh]
  simpa using hy
section
variable {B : Nat} {W W' : World} {C Wt Bl R D lit late : Value} {p q z : Int} {wl rl tl : List Int}
theorem nil_row (B : Nat) (W : World) (e s : Nat) : W.ownsRow B e s (.slice none 0 0) ([] : List Int).length (([] : List Int).map (Value.int .i32)) → True := fun _ => trivial
theorem Nr.setZ {g c : Nat} (h : Nr B W C Wt (.slice (some ⟨g, 0, none⟩) 4 c) (.slice none 0 0) D lit (.slice none 0 0) p q z wl [] []) (x : Int) : Nr B (W.setCell ⟨g, 0, none⟩ (.int .i32 x)) C Wt (.slice (some ⟨g, 0, none⟩) 4 c) (.slice none 0 0) D lit (.slice none 0 0) p q x wl [] [] := by
  have hg := grown_set W ⟨g, 0, none⟩ (.int .i32 x)
  have hty : TyW W g 21 := row_tyW h.b rfl
  have byTy : ∀ {e s n : Nat} {v : Value} {xs : List Value}, 21 ≠ e → W.ownsRow B e s v n xs → (W.setCell ⟨g, 0, none⟩ (.int .i32 x)).ownsRow B e s v n xs := fun hne hr => row_kept hr fun k e1 => hg.block k (hr.lt k e1.symm).2 (fun e2 => by simp at e2; subst e2; exact hne (hty.unique (row_tyW hr e1)))
  have byAp : ∀ {e s n : Nat} {v : Value} {xs : List Value}, (∀ g', v.ownBlock = some g' → (Value.slice (some ⟨g, 0, none⟩) 4 c).ownBlock ≠ some g') → W.ownsRow B e s v n xs → (W.setCell ⟨g, 0, none⟩ (.int .i32 x)).ownsRow B e s v n xs := fun ha hr => row_kept hr fun k e1 => hg.block k (hr.lt k e1.symm).2 (fun e2 => by simp at e2; subst e2; exact ha k e1.symm rfl)
  exact ⟨byTy (by decide) h.c, byAp h.ap.1 h.l, byAp h.ap.2 h.w, own_cell h.b (k := 0) (by omega) _, World.ownsRow_nil _ _ _ _, byTy (by decide) h.d, World.ownsRow_nil _ _ _ _, h.ap⟩
theorem Nr.newR {R' : Value} {rl' : List Int} (h : Nr B W C Wt Bl R D lit late p q z wl rl tl) (hk : ∀ k, k < W.heap.size → W'.heap[k]? = W.heap[k]?) (hr : W'.ownsRow B 21 1 R' rl'.length (rl'.map (Value.int .i32))) : Nr B W' C Wt Bl R' D lit late p q z wl rl' tl := by
  have h2 : Nr B W' C Wt Bl R D lit late p q z wl rl tl := h.kept fun k hk2 _ => hk k hk2
  exact ⟨h2.c, h2.l, h2.w, h2.b, hr, h2.d, h2.t, h2.ap⟩
theorem Nr.newT {gD cD : Nat} {T' : Value} {tl' : List Int} (h : Nr B W C Wt Bl R (.slice (some ⟨gD, 0, none⟩) 1 cD) lit late p q z wl rl tl) (ht : W.ownsRow B 21 1 T' tl'.length (tl'.map (Value.int .i32))) : Nr B (W.setCell ⟨gD, 1, none⟩ T') C Wt Bl R (.slice (some ⟨gD, 0, none⟩) 1 cD) lit T' p q z wl rl tl' := by
  have hg := grown_set W ⟨gD, 1, none⟩ T'
  have hty : TyW W gD 52 := row_tyW h.d rfl
  have byTy : ∀ {e s n : Nat} {v : Value} {xs : List Value}, 52 ≠ e → W.ownsRow B e s v n xs → (W.setCell ⟨gD, 1, none⟩ T').ownsRow B e s v n xs := fun hne hr => row_kept hr fun k e1 => hg.block k (hr.lt k e1.symm).2 (fun e2 => by simp at e2; subst e2; exact hne (hty.unique (row_tyW hr e1)))
  exact ⟨byTy (by decide) h.c, byTy (by decide) h.l, byTy (by decide) h.w, byTy (by decide) h.b, byTy (by decide) h.r, own_cell h.d (k := 1) (by omega) _, byTy (by decide) ht, h.ap⟩
theorem Nr.setP {gC cC : Nat} (h : Nr B W (.slice (some ⟨gC, 0, none⟩) 1 cC) Wt Bl R D lit late p q z wl rl tl) (x y : Int) : Nr B ((W.setCell ⟨gC, 1, none⟩ (.int .i64 x)).setCell ⟨gC, 2, none⟩ (.int .i64 y)) (.slice (some ⟨gC, 0, none⟩) 1 cC) Wt Bl R D lit late x y z wl rl tl := by
  have hty : TyW W gC 75 := row_tyW h.c rfl
  have one : ∀ {W : World} {e s n : Nat} {v u : Value} {xs : List Value} {j : Nat}, TyW W gC 75 → 75 ≠ e → W.ownsRow B e s v n xs → (W.setCell ⟨gC, j, none⟩ u).ownsRow B e s v n xs := fun {W e s n v u xs j} ht hne hr => row_kept hr fun k e1 => (grown_set W ⟨gC, j, none⟩ u).block k (hr.lt k e1.symm).2 (fun e2 => by simp at e2; subst e2; exact hne (ht.unique (row_tyW hr e1)))
  have hc1 := own_cell h.c (k := 1) (by omega) (.int .i64 x)
  have hty1 : TyW (W.setCell ⟨gC, 1, none⟩ (.int .i64 x)) gC 75 := row_tyW hc1 rfl
  have two : ∀ {e s n : Nat} {v : Value} {xs : List Value}, 75 ≠ e → W.ownsRow B e s v n xs → ((W.setCell ⟨gC, 1, none⟩ (.int .i64 x)).setCell ⟨gC, 2, none⟩ (.int .i64 y)).ownsRow B e s v n xs := fun hne hr => one hty1 hne (one hty hne hr)
  exact ⟨own_cell hc1 (k := 2) (by omega) (.int .i64 y), two (by decide) h.l, two (by decide) h.w, two (by decide) h.b, two (by decide) h.r, two (by decide) h.d, two (by decide) h.t, h.ap⟩
end
theorem BxW.other {W : World} {b g j : Nat} {C Wt Bl R D : Value} {gone st : Int} {cl : Bool} {e : TypeId} (h : BxW W b C Wt Bl R gone D st cl) (ht : TyW W g e) (hne : 58 ≠ e) (x : Value) : BxW (W.setCell ⟨g, j, none⟩ x) b C Wt Bl R gone D st cl :=
  ((grown_set W ⟨g, j, none⟩ x).block b h.lt (fun e1 => by simp at e1; subst e1; exact hne (h.ty.unique ht))).trans h
theorem BxW.set5 {W : World} {b : Nat} {C Wt Bl R D : Value} {gone st : Int} {cl : Bool} (h : BxW W b C Wt Bl R gone D st cl) (x : Value) : BxW (W.setCell ⟨b, 5, none⟩ x) b C Wt Bl x gone D st cl := set_heap h 5 x
theorem BxW.set2 {W : World} {b : Nat} {C Wt Bl R D : Value} {gone st : Int} {cl : Bool} (h : BxW W b C Wt Bl R gone D st cl) (x : Value) : BxW (W.setCell ⟨b, 2, none⟩ x) b C x Bl R gone D st cl := set_heap h 2 x
theorem BxW.set1 {W : World} {b : Nat} {C Wt Bl R D : Value} {gone st : Int} {cl : Bool} (h : BxW W b C Wt Bl R gone D st cl) (x : Value) : BxW (W.setCell ⟨b, 1, none⟩ x) b x Wt Bl R gone D st cl := set_heap h 1 x
theorem BxW.set6 {W : World} {b : Nat} {C Wt Bl R D : Value} {gone st : Int} {cl : Bool} (h : BxW W b C Wt Bl R gone D st cl) (x : Int) : BxW (W.setCell ⟨b, 6, none⟩ (.int .i64 x)) b C Wt Bl R x D st cl := set_heap h 6 _
theorem BxW.set8 {W : World} {b : Nat} {C Wt Bl R D : Value} {gone st : Int} {cl : Bool} (h : BxW W b C Wt Bl R gone D st cl) (x : Int) : BxW (W.setCell ⟨b, 8, none⟩ (.int .i64 x)) b C Wt Bl R gone D x cl := set_heap h 8 _
theorem BxW.set9 {W : World} {b : Nat} {C Wt Bl R D : Value} {gone st : Int} {cl : Bool} (h : BxW W b C Wt Bl R gone D st cl) (x : Bool) : BxW (W.setCell ⟨b, 9, none⟩ (.bool x)) b C Wt Bl R gone D st x := set_heap h 9 _
set_option maxRecDepth 100000 in
set_option maxHeartbeats 1600000 in
theorem wKnow_any (B b g c : Nat) (aD : Option Addr) (cD : Nat) (C Wt lit : Value) (gone st : Int) (cl : Bool) (p q : Int) (wl : List Int) (w : World) (hb : B ≤ b) (hB : B ≤ w.heap.size)
    (hx : BxW w b C Wt (.slice (some ⟨g, 0, none⟩) 4 c) (.slice none 0 0) gone (.slice aD 1 cD) st cl) (hn : Nr B w C Wt (.slice (some ⟨g, 0, none⟩) 4 c) (.slice none 0 0) (.slice aD 1 cD) lit (.slice none 0 0) p q 0 wl [] []) :
    Calls Try.prog 26 #[.pointer (some ⟨b, 0, none⟩), .int .i32 0] w fun e w' => e = .returned (.tuple #[]) ∧ ∃ R, BxW w' b C Wt (.slice (some ⟨g, 0, none⟩) 4 c) R gone (.slice aD 1 cD) st cl ∧ Nr B w' C Wt (.slice (some ⟨g, 0, none⟩) 4 c) R (.slice aD 1 cD) lit (.slice none 0 0) p q 1 wl [0] [] ∧ Below B w w' := by
  have h4 : w.cell? ⟨b, 4, none⟩ = some (.slice (some ⟨g, 0, none⟩) 4 c) := hx.cell 4 _ rfl
  have h7 : w.cell? ⟨b, 7, none⟩ = some (.slice aD 1 cD) := hx.cell 7 _ rfl
  have z0 : w.cell? ⟨g, 0, none⟩ = some (.int .i32 0) := row_cell hn.b (j := 0) rfl
  have f0 : w.frozen? ⟨g, 0, none⟩ = false := row_fz hn.b 0
  have HT : Hid (Calls Try.prog 24 #[.pointer (some ⟨b, 0, none⟩), .int .i32 0] w fun e w' => e = .returned (.bool (decide ((0 : Int) < 0))) ∧ w' = w) := wTrue_any b g c 0 0 w h4 (by omega) z0
  have hty : TyW w g 21 := row_tyW hn.b rfl
  have hgB : B ≤ g := (hn.b.lt g rfl).1
  have HS : Hid (BxW (w.setCell ⟨g, 0, none⟩ (.int .i32 1)) b C Wt (.slice (some ⟨g, 0, none⟩) 4 c) (.slice none 0 0) gone (.slice aD 1 cD) st cl ∧ Nr B (w.setCell ⟨g, 0, none⟩ (.int .i32 1)) C Wt (.slice (some ⟨g, 0, none⟩) 4 c) (.slice none 0 0) (.slice aD 1 cD) lit (.slice none 0 0) p q 1 wl [] [] ∧ Below B w (w.setCell ⟨g, 0, none⟩ (.int .i32 1))) := ⟨hx.other hty (by decide) _, hn.setZ 1, below_setW (Below.refl _ _) hgB _⟩
  clear hx hn hty
  go_enter Try.func26, Try.ntmps26
  go_wp2_with fail
  refine Calls.mono HT.out ?_
  rintro e w1 ⟨rfl, hw1⟩
  obtain rfl : w = w1 := hw1.symm
  clear hw1
  go_upto_region 1 with fail
  go_cut [] from 7 to 16 (fun wx => BxW wx b C Wt (.slice (some ⟨g, 0, none⟩) 4 c) (.slice none 0 0) gone (.slice aD 1 cD) st cl ∧ Nr B wx C Wt (.slice (some ⟨g, 0, none⟩) 4 c) (.slice none 0 0) (.slice aD 1 cD) lit (.slice none 0 0) p q 1 wl [] [] ∧ Below B w wx)
  case first =>
    go_region_law (go_simp; go_at_call 17; refine (wDepth_any b aD cD _ (by first | exact h7 | exact h7)).mono ?_; intro e w9 hh; rw [hh.1, hh.2]; clear hh e w9; dsimp only)
    all_goals
      have HS2 : Hid (BxW (w.setCell ⟨g, 0, none⟩ (.int .i32 1)).drew b C Wt (.slice (some ⟨g, 0, none⟩) 4 c) (.slice none 0 0) gone (.slice aD 1 cD) st cl ∧ Nr B (w.setCell ⟨g, 0, none⟩ (.int .i32 1)).drew C Wt (.slice (some ⟨g, 0, none⟩) 4 c) (.slice none 0 0) (.slice aD 1 cD) lit (.slice none 0 0) p q 1 wl [] [] ∧ Below B w (w.setCell ⟨g, 0, none⟩ (.int .i32 1)).drew) := ⟨HS.out.1.below (Below.refl _ _).drew, HS.out.2.1.below (Below.refl _ _).drew, HS.out.2.2.drew⟩
      go_wp2_with fail
      go_meet
      exact HS2.out
  case rest =>
  obtain ⟨hx1, hn1, hb1⟩ := hcut
  have HS3 : Hid (BxW wc b C Wt (.slice (some ⟨g, 0, none⟩) 4 c) (.slice none 0 0) gone (.slice aD 1 cD) st cl ∧ Nr B wc C Wt (.slice (some ⟨g, 0, none⟩) 4 c) (.slice none 0 0) (.slice aD 1 cD) lit (.slice none 0 0) p q 1 wl [] [] ∧ Below B w wc) := ⟨hx1, hn1, hb1⟩
  have h5 : wc.cell? ⟨b, 5, none⟩ = some (.slice none 0 0) := hx1.cell 5 _ rfl
  clear hx1 hn1 hb1 HS h4 h7 z0 f0
  generalize wc = w2 at *
  obtain ⟨i3, hi3, hz3, hs3, hy3⟩ := info_parts infoI32w
  have HI3 : Hid (Try.prog.info? 21 = some i3 ∧ i3.zero = some (.int .i32 0) ∧ i3.size = 1 ∧ i3.bytes = 4) := ⟨hi3, hz3, hs3, hy3⟩
  have HNew : Hid (∀ j y, [Value.int .i32 0][j]? = some y → (w2.alloc (.cells #[.int .i32 0] 21)).cell? ((⟨w2.heap.size, 0, none⟩ : Addr).add j) = some y) := one_newW w2 (.int .i32 0) 21
  have HBs : Hid (B ≤ (w2.alloc (.cells #[.int .i32 0] 21)).heap.size) := Nat.le_trans hB (Nat.le_trans HS3.out.2.2.size (below_box _ _).size)
  have HAp : Hid (∀ v5 w5, w5.ownsRow B 21 1 v5 1 [Value.int .i32 0] → Ap (w2.alloc (.cells #[.int .i32 0] 21)) (.slice none 0 0) w5 v5 → (∃ a5 c5, v5 = .slice a5 1 c5) ∧ w5.cell? ⟨b, 5, none⟩ = some (.slice none 0 0) ∧ w5.frozen? ⟨b, 5, none⟩ = false ∧ BxW (w5.setCell ⟨b, 5, none⟩ v5) b C Wt (.slice (some ⟨g, 0, none⟩) 4 c) v5 gone (.slice aD 1 cD) st cl ∧ Nr B (w5.setCell ⟨b, 5, none⟩ v5) C Wt (.slice (some ⟨g, 0, none⟩) 4 c) v5 (.slice aD 1 cD) lit (.slice none 0 0) p q 1 wl [0] [] ∧ Below B w (w5.setCell ⟨b, 5, none⟩ v5)) := fun v5 w5 ho ha => by
    have hbl : Below w2.heap.size w2 w5 := ⟨ha.grown.os, ha.grown.tape, ha.grown.output, Nat.le_trans (below_box _ _).size ha.grown.size, fun k hk => (ha.grown.block k (Nat.lt_of_lt_of_le hk (below_box _ _).size) (by simp [Value.ownBlock])).trans ((below_box w2 _).block k hk)⟩
    have hx5 := HS3.out.1.below hbl
    refine ⟨row_form' ho, hx5.cell 5 _ rfl, hx5.fz 5, hx5.set5 v5, (HS3.out.2.1.newR (R' := v5) (rl' := [0]) (fun k hk => hbl.block k hk) ho).box hx5.ty 5 v5, ?_⟩
    exact below_setW (HS3.out.2.2.trans (hbl.mono (Nat.le_trans hB HS3.out.2.2.size))) hb _
  go_wp2_with (at_builtin; refine wpList_append_apk rfl _ _ 50 rfl B 21 i3 (.int .i32 0) 1 4 Try.underlying50 HI3.out.1 HI3.out.2.1 HI3.out.2.2.1 HI3.out.2.2.2 rfl (by decide) (.slice none 0 0) 0 [] rfl (World.ownsRow_nil _ _ _ _) ⟨w2.heap.size, 0, none⟩ 1 1 [.int .i32 0] rfl rfl HNew.out (by simp [Value.oneCell']) (by unfold maxLen; decide) (by decide) HBs.out ?_; intro v5 w5 own5 ap5; obtain ⟨a5, c5, hv5⟩ := row_form' own5; subst hv5; have K5 := HAp.out _ w5 own5 ap5; have d5 := K5.2.1; have g5 := K5.2.2.1; have F5 : Hid (_ ∧ _ ∧ _) := K5.2.2.2; clear K5 own5 ap5)
  go_end0
  exact ⟨rfl, _, F5.out⟩
end Go.Proofs.Ytljcdlpjnpcdmaa
