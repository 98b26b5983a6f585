/-
  heat: the document's Order.
  KEEP: set on app at below new trans refl start kept mono lt add none own nil put len pos other cell ty blt fz box k p r pr a0 a1 a2 c0 c1 c2 hb setK setP setR unique grown step fin bij up q1 q2 pl held mk v1 v2 t1 t2 hs few cut root z kl nl sl d1 d2 row down has holds stp bel heat cells sc wi mem srt inn inj out lays ap kind rd rds bump cool weak types foreign rows cong form heat nodup s w ord rest
-/
import Derived.Test.YtbfjhgiifmhccaaHrT
import Derived.Test.YtbfjhgiifmhccaaHtX
set_option linter.unusedSimpArgs false
set_option linter.unusedVariables false
namespace Go.Proofs.Ytbfjhgiifmhccaa
open Go Go.RowKit
attribute [local go_sem] run_store_float

theorem infoB14 : (Try.prog.info? 4).map (fun i => (i.zero, i.size, i.bytes)) = some (some (.bool false), 1, 1) := by kernel_rfl
theorem hrow_app (k : Nat) (H : Nat → Bool) : hrow (k + 1) H = hrow k H ++ [.bool (H (k + 1))] := by unfold hrow; rw [List.range_succ, List.map_append]; rfl
theorem bel_grown {w W W' : World} {o : Option Nat} (hb : Below w.heap.size w W) (hg : W.grownBy W' o) (ho : ∀ y, o = some y → w.heap.size ≤ y) : Below w.heap.size w W' :=
  ⟨hg.os.trans hb.os, hg.tape.trans hb.tape, hg.output.trans hb.output, Nat.le_trans hb.size hg.size, fun j hj => (hg.block j (Nat.lt_of_lt_of_le hj hb.size) fun e => by have := ho j e.symm; omega).trans (hb.block j hj)⟩
/-- those that are marked still -/
def mrkO (L : List Nat) (H : Nat → Bool) (u : Nat) : Bool := H u && decide (u ∉ L)
theorem mrkO_nil (H : Nat → Bool) : mrkO [] H = H := by funext u; simp [mrkO]
theorem mrkO_app (L : List Nat) (H : Nat → Bool) (t : Nat) : mrkO (L ++ [t]) H = fun u => if u = t then false else mrkO L H u := by
  funext u
  unfold mrkO
  by_cases e : u = t
  · subst e; simp
  · simp [e]
structure OrI (κ : Nat → Nat) (H : Nat → Bool) (n : Nat) (L : List Nat) : Prop where
  mem : ∀ v, v ∈ L → 1 ≤ v ∧ v ≤ n ∧ H v = true
  srt : L.Pairwise (fun a b => ahd κ a b = true)
  rest : ∀ v, 1 ≤ v → v ≤ n → mrkO L H v = true → ∀ x, x ∈ L → ahd κ x v = true
theorem OrI.nil (κ : Nat → Nat) (H : Nat → Bool) (n : Nat) : OrI κ H n [] := ⟨fun v h => (by cases h), List.Pairwise.nil, fun v _ _ _ x hx => (by cases hx)⟩
theorem OrI.few {κ : Nat → Nat} {H : Nat → Bool} {n : Nat} {L : List Nat} (h : OrI κ H n L) : L.length ≤ n :=
  ord_few (κ := κ) (H := fun u => decide (u ∈ L)) ⟨fun v => ⟨fun hv => ⟨(h.mem v hv).1, (h.mem v hv).2.1, decide_eq_true hv⟩, fun hv => of_decide_eq_true hv.2.2⟩, h.srt⟩
theorem OrI.step {κ : Nat → Nat} {H : Nat → Bool} {n t : Nat} {L : List Nat} (h : OrI κ H n L) (hw : WB κ (mrkO L H) n t) (ht : 1 ≤ t) : OrI κ H n (L ++ [t]) := by
  rcases hw with ⟨h0, _⟩ | ⟨h1, h2, h3, h4⟩
  · omega
  · refine ⟨fun v hv => ?_, ?_, fun v v1 v2 v3 x hx => ?_⟩
    · rcases List.mem_append.1 hv with e | e
      · exact h.mem v e
      · rw [List.mem_singleton.1 e]
        unfold mrkO at h3
        rw [Bool.and_eq_true] at h3
        exact ⟨h1, h2, h3.1⟩
    · rw [List.pairwise_append]
      refine ⟨h.srt, by simp, fun a ha c hc => ?_⟩
      rw [List.mem_singleton.1 hc]
      exact h.rest t h1 h2 h3 a ha
    · rw [mrkO_app] at v3
      by_cases e : v = t
      · simp [e] at v3
      · simp only [if_neg e] at v3
        rcases List.mem_append.1 hx with e' | e'
        · exact h.rest v v1 v2 v3 x e'
        · rw [List.mem_singleton.1 e']
          have := h4 v v1 v2 v3
          cases q : ahd κ t v with
          | true => rfl
          | false => exact absurd (ahd_total this q) e
theorem OrI.fin {κ : Nat → Nat} {H : Nat → Bool} {n : Nat} {L : List Nat} (h : OrI κ H n L) (hw : WB κ (mrkO L H) n 0) : IsOrd κ H n L := by
  rcases hw with ⟨_, h0⟩ | ⟨h1, _⟩
  · refine ⟨fun v => ⟨h.mem v, fun ⟨v1, v2, v3⟩ => ?_⟩, h.srt⟩
    have := h0 v v1 v2
    unfold mrkO at this
    rw [v3] at this
    simpa using this
  · omega
theorem WB.mk' {κ : Nat → Nat} {M : Nat → Bool} {k t : Nat} (h : WB κ M k t) (ht : 1 ≤ t) : M t = true := by
  rcases h with ⟨h0, _⟩ | ⟨_, _, h3, _⟩
  · omega
  · exact h3
section
variable {B b n dec st : Nat} {s : Rv} {K : List Nat} {H M : Nat → Bool} {W W' : World}
def LfS (w wx : World) (v : Value) (k : Nat) (H : Nat → Bool) : Prop := wx.ownsRow w.heap.size 4 1 v k (hrow k H) ∧ Below w.heap.size w wx
def OuS (w wx : World) (v u : Value) (n : Nat) (κ : Nat → Nat) (H : Nat → Bool) (L : List Nat) : Prop := LfS w wx v n (mrkO L H) ∧ Own w.heap.size wx u (L.map fun (x : Nat) => (x : Int)) ∧ OrI κ H n L
set_option maxHeartbeats 4000000 in
theorem rorder_any (w : World) (h : Rz B w b s n dec st K H) :
    Calls Try.prog 34 #[.pointer (some ⟨b, 0, none⟩)] w fun e w' => OrdS w n (gt K) H e w' := by
  have hn := h.nl
  have HH : Hid (Rz B w b s n dec st K H) := h
  obtain ⟨i0, hi0, hy0, hy1, hy2⟩ := info_parts Try.info3
  have HI : Hid (Try.prog.info? 3 = some i0 ∧ i0.zero = some (.int .i64 0) ∧ i0.size = 1 ∧ i0.bytes = 8) := ⟨hi0, hy0, hy1, hy2⟩
  obtain ⟨j0, gj0, gy0, gy1, gy2⟩ := info_parts infoB14
  have HJ : Hid (Try.prog.info? 4 = some j0 ∧ j0.zero = some (.bool false) ∧ j0.size = 1 ∧ j0.bytes = 1) := ⟨gj0, gy0, gy1, gy2⟩
  obtain ⟨aw, cw, ew⟩ := row_form' h.wi
  have HE : Hid (s.W = .slice aw n cw) := ew
  clear h ew hi0 hy0 hy1 hy2 gj0 gy0 gy1 gy2
  go_enter Try.func34, Try.ntmps34
  go_wp2
  go_loopg [3, 4] n (fun g x y wx => ∃ (k : Nat) (a : Option Addr) (c : Nat), k + g = n ∧ x = .slice a k c ∧ y = .int .i64 (k : Int) ∧ Hid (LfS w wx (.slice a k c) k H))
  case atStart => exact ⟨0, _, _, by omega, rfl, rfl, ⟨World.ownsRow_nil _ _ _ _, Below.refl _ _⟩⟩
  case round =>
    obtain ⟨k, a, c, hk, rfl, rfl, H1⟩ := hrel
    have HH1 : Hid (Rz B wr b s n dec st K H) := HH.out.below H1.out.2
    have c1 := HH1.out.cells.2.1
    rw [HE.out] at c1
    by_cases hlt : k < n
    · obtain ⟨gw, cw', ew, k1, k2, k3⟩ := row_some HH1.out.wi (by omega)
      rw [HE.out] at ew
      cases ew
      have hs := HH1.out.wi
      rw [HE.out] at hs
      have xk := row_cell hs (hrow_at hlt)
      clear hs
      have HRow : Hid ((wr.alloc (.cells #[.bool (H (k + 1))] 4)).ownsRow w.heap.size 4 1 (.slice a k c) k (hrow k H)) := World.ownsRow.alloc H1.out.1 _
      have HNew : Hid (∀ j u, [(Value.bool (H (k + 1)))][j]? = some u → (wr.alloc (.cells #[.bool (H (k + 1))] 4)).cell? ((⟨wr.heap.size, 0, none⟩ : Addr).add j) = some u) := cell_one_new _ _ _
      have HBs : Hid (w.heap.size ≤ (wr.alloc (.cells #[.bool (H (k + 1))] 4)).heap.size) := by
        show _ ≤ _
        rw [World.size_alloc]; have := H1.out.2.size; omega
      have HApp : Hid (∀ v8 w8, w8.ownsRow w.heap.size 4 1 v8 (k + 1) (hrow k H ++ [.bool (H (k + 1))]) → Ap (wr.alloc (.cells #[.bool (H (k + 1))] 4)) (.slice a k c) w8 v8 → (∃ a8 c8, v8 = .slice a8 (k + 1) c8) ∧ LfS w w8 v8 (k + 1) H) := fun v8 w8 own8 ap8 => by
        refine ⟨row_form' own8, by rw [hrow_app]; exact own8, ?_⟩
        exact bel_grown (Below.step H1.out.2 (below_box _ _)) ap8.grown fun y e => (H1.out.1.lt y e).1
      have hl63 : k + 1 ≤ maxLen := by unfold maxLen; omega
      have hl48 : (k + 1) * 1 ≤ 140737488355328 := by omega
      have hgk : n - (k + 1) < gk := by omega
      have HKN : Hid (k + 1 + (n - (k + 1)) = n) := by show _ = _; omega
      clear H1 hk HH1
      generalize H (k + 1) = x at *
      generalize hrow k H = xs at *
      go_wp2_with (at_builtin; refine wpList_append_apk rfl _ _ 71 rfl w.heap.size 4 j0 (.bool false) 1 1 Try.underlying71 HJ.out.1 HJ.out.2.1 HJ.out.2.2.1 HJ.out.2.2.2 rfl (by decide) (.slice a k c) k xs rfl HRow.out ⟨wr.heap.size, 0, none⟩ 1 1 [.bool x] rfl rfl HNew.out (by simp [Value.oneCell']) hl63 hl48 HBs.out ?_; intro v8 w8 own8 ap8; obtain ⟨⟨a8, c8, hv8⟩, q1⟩ := HApp.out v8 w8 own8 ap8; subst hv8; have HQ1 : Hid _ := q1; clear own8 ap8 q1)
      go_roundg (n - (k + 1))
      case rel => exact ⟨k + 1, _, _, HKN.out, rfl, by simp, HQ1.out⟩
      case measure => exact hgk
    · have hke : k = n := by omega
      subst hke
      have HO0 : Hid (OuS w wr (.slice a k c) (.slice none 0 0) k (gt K) H []) := ⟨by rw [mrkO_nil]; exact H1.out, World.ownsRow_nil _ _ _ _, OrI.nil _ _ _⟩
      clear H1 HH1
      go_wp2
      go_loopg [5, 6] (k + 1) (fun g x y wx => ∃ (L : List Nat) (au : Option Addr) (cu : Nat), L.length + g = k + 1 ∧ x = .slice au L.length cu ∧ Hid (OuS w wx (.slice a k c) (.slice au L.length cu) k (gt K) H L))
      case atStart => exact ⟨[], _, _, by simp, rfl, HO0⟩
      case round =>
        obtain ⟨L, au, cu, hL, rfl, H2⟩ := hrel
        clear HO0
        have HH1 : Hid (Rz B wr b s k dec st K H) := HH.out.below H2.out.1.2
        have HWm : Hid (Calls Try.prog 45 #[.pointer (some ⟨b, 0, none⟩), .slice a k c] wr fun e w' => ∃ t : Nat, e = .returned (.int .i64 (t : Int)) ∧ WB (gt K) (mrkO L H) k t ∧ Below wr.heap.size wr w') := rwarm_any _ _ wr HH1.out H2.out.1.1
        go_upto_region 8 with (go_at_call 45; refine HWm.out.mono ?_; rintro e w5 ⟨t, rfl, h5, h6⟩; have H5 : Hid (WB (gt K) (mrkO L H) k t) := h5; have H6 : Hid (Below wr.heap.size wr w5) := h6; clear h5 h6 HWm)
        have HLf5 : Hid (LfS w w5 (.slice a k c) k (mrkO L H)) := ⟨row_kept H2.out.1.1 fun j ej => H6.out.block j (H2.out.1.1.lt j ej.symm).2, Below.step H2.out.1.2 H6.out⟩
        have HOw5 : Hid (Own w.heap.size w5 (.slice au L.length cu) (L.map fun (x : Nat) => (x : Int))) := row_kept H2.out.2.1 fun j ej => H6.out.block j (H2.out.2.1.lt j ej.symm).2
        have HOr : Hid (OrI (gt K) H k L) := H2.out.2.2
        clear H2 H6 HH1
        cases t with
        | zero =>
          have HF : Hid (OrdS w k (gt K) H (.returned (.slice au L.length cu)) w5) := ⟨L, _, rfl, HOr.out.fin H5.out, HOw5.out, HLf5.out.2⟩
          clear H5 HLf5 HOw5 HOr
          go_wp2
          go_ret
          exact HF.out
        | succ t1 =>
          have htl : t1 < k := by have := H5.out.le; omega
          obtain ⟨g, c', ec, k1, k2, k3⟩ := row_some HLf5.out.1 (by omega)
          cases ec
          have hM : mrkO L H (t1 + 1) = true := H5.out.mk' (by omega)
          have xk := row_cell HLf5.out.1 (hrow_at htl)
          have zk := row_fz HLf5.out.1 t1
          have HOr2 : Hid (OrI (gt K) H k (L ++ [t1 + 1])) := HOr.out.step H5.out (by omega)
          have hfew := HOr2.out.few
          rw [List.length_append, List.length_singleton] at hfew
          have hg6 := grown_set w5 ⟨g, t1, none⟩ (.bool false)
          have HLf6 : Hid (LfS w (w5.setCell ⟨g, t1, none⟩ (.bool false)) (.slice (some ⟨g, 0, none⟩) k c) k (mrkO (L ++ [t1 + 1]) H)) := by
            refine ⟨?_, bel_grown HLf5.out.2 hg6 fun y e => ?_⟩
            · rw [mrkO_app, ← hrow_set false (by omega) (by omega), Nat.add_sub_cancel]
              exact own_cell HLf5.out.1 (by omega) _
            · exact (HLf5.out.1.lt y (by rw [← e]; rfl)).1
          have HOw6 : Hid ((w5.setCell ⟨g, t1, none⟩ (.bool false)).ownsRow w.heap.size 3 1 (.slice au L.length cu) L.length ((L.map fun (x : Nat) => (x : Int)).map (Value.int .i64))) := by
            have := HOw5.out
            unfold Own at this
            rw [List.length_map] at this
            exact row_oth this hg6 (fun y e => row_tf HLf5.out.1 (by rw [← e]; rfl)) (by decide)
          clear hg6 hM HOr H5 HLf5 HOw5
          have HRow : Hid (((w5.setCell ⟨g, t1, none⟩ (.bool false)).alloc (.cells #[.int .i64 ((t1 : Int) + 1)] 3)).ownsRow w.heap.size 3 1 (.slice au L.length cu) L.length ((L.map fun (x : Nat) => (x : Int)).map (Value.int .i64))) := World.ownsRow.alloc HOw6.out _
          have HNew : Hid (∀ j u, [(Value.int .i64 ((t1 : Int) + 1))][j]? = some u → ((w5.setCell ⟨g, t1, none⟩ (.bool false)).alloc (.cells #[.int .i64 ((t1 : Int) + 1)] 3)).cell? ((⟨w5.heap.size, 0, none⟩ : Addr).add j) = some u) := by
            have hq := cell_one_new (w5.setCell ⟨g, t1, none⟩ (.bool false)) (Value.int .i64 ((t1 : Int) + 1)) 3
            rw [World.size_setCell] at hq
            exact hq
          have HBs : Hid (w.heap.size ≤ ((w5.setCell ⟨g, t1, none⟩ (.bool false)).alloc (.cells #[.int .i64 ((t1 : Int) + 1)] 3)).heap.size) := by
            show _ ≤ _
            rw [World.size_alloc]; have := HLf6.out.2.size; omega
          have HApp : Hid (∀ v8 w8, w8.ownsRow w.heap.size 3 1 v8 (L.length + 1) (((L.map fun (x : Nat) => (x : Int)).map (Value.int .i64)) ++ [.int .i64 ((t1 : Int) + 1)]) → Ap ((w5.setCell ⟨g, t1, none⟩ (.bool false)).alloc (.cells #[.int .i64 ((t1 : Int) + 1)] 3)) (.slice au L.length cu) w8 v8 → (∃ a8 c8, v8 = .slice a8 (L ++ [t1 + 1]).length c8) ∧ OuS w w8 (.slice (some ⟨g, 0, none⟩) k c) v8 k (gt K) H (L ++ [t1 + 1])) := fun v8 w8 own8 ap8 => by
            refine ⟨?_, ⟨?_, ?_⟩, ?_, HOr2.out⟩
            · rw [List.length_append, List.length_singleton]; exact row_form' own8
            · exact row_oth (World.ownsRow.alloc HLf6.out.1 _) ap8.grown (fun y e => row_tf HRow.out e.symm) (by decide)
            · exact bel_grown (Below.step HLf6.out.2 (below_box _ _)) ap8.grown fun y e => (HRow.out.lt y e).1
            · unfold Own
              rw [i64_app, List.length_map, List.length_append, List.length_singleton]
              exact own8
          have hl63 : L.length + 1 ≤ maxLen := by unfold maxLen; omega
          have hl48 : (L.length + 1) * 8 ≤ 140737488355328 := by omega
          have hgk : k + 1 - (L ++ [t1 + 1]).length < gk := by rw [List.length_append, List.length_singleton]; omega
          have HKN : Hid ((L ++ [t1 + 1]).length + (k + 1 - (L ++ [t1 + 1]).length) = k + 1) := by show _ = _; rw [List.length_append, List.length_singleton]; omega
          have hm1 : ((t1 + 1 : Nat) : Int) - 1 = (t1 : Int) := by omega
          clear HLf6 HOw6 HOr2 hL
          generalize hLL : L ++ [t1 + 1] = L2 at *
          generalize ((L.map fun (x : Nat) => (x : Int)).map (Value.int .i64)) = xs at *
          generalize L.length = l at *
          clear hLL
          go_wp2_with (at_builtin; refine wpList_append_apk rfl _ _ 52 rfl w.heap.size 3 i0 (.int .i64 0) 1 8 Try.underlying52 HI.out.1 HI.out.2.1 HI.out.2.2.1 HI.out.2.2.2 rfl (by decide) (.slice au l cu) l xs rfl HRow.out ⟨w5.heap.size, 0, none⟩ 1 1 [.int .i64 ((t1 : Int) + 1)] rfl rfl HNew.out (by simp [Value.oneCell']) hl63 hl48 HBs.out ?_; intro v8 w8 own8 ap8; obtain ⟨⟨a8, c8, hv8⟩, q1⟩ := HApp.out v8 w8 own8 ap8; subst hv8; have HQ1 : Hid _ := q1; clear own8 ap8 q1)
          go_roundg (k + 1 - L2.length)
          case rel => exact ⟨L2, _, _, HKN.out, rfl, HQ1.out⟩
          case measure => exact hgk
end
end Go.Proofs.Ytbfjhgiifmhccaa
