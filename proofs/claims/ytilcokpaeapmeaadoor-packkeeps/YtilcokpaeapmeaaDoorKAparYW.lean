/-
  depotkit.ApartBytes, walked.
  KEEP: set on app at below new trans refl start ap kept rd rds mono row push put step side drew drewN mark weaken less store slice place cell lt prefix setOther
-/
import Derived.Test.YtilcokpaeapmeaaDoorJAparQ
set_option linter.unusedSimpArgs false
set_option linter.unusedVariables false
namespace Go.Proofs.YtilcokpaeapmeaaDoor
open Go Go.RowKit Go.Shelf

attribute [local go_sem] Oper.semAt_some

theorem Gby.drew {Q : Nat → Prop} {B S : Nat} {w wr : World} {rv : Value} {K : Nat} {v : Nat → Value} {n : Nat → Nat} {gr : Value} {kr k : Nat} {u : Nat → Value} {m : Nat → Nat} (h : Gby Q B S w wr rv K v n gr kr k u m) : Gby Q B S w wr.drew rv K v n gr kr k u m :=
  ⟨h.ap.drew, h.grow, h.gp, h.gb, h.sz, h.hB, h.vb, h.rb, h.hap, h.hk, h.sw⟩
theorem Gby.drewN {Q : Nat → Prop} {B S : Nat} {w wr : World} {rv : Value} {K : Nat} {v : Nat → Value} {n : Nat → Nat} {gr : Value} {kr k : Nat} {u : Nat → Value} {m : Nat → Nat} (h : Gby Q B S w wr rv K v n gr kr k u m) (q : Nat) : Gby Q B S w (wr.drewN q) rv K v n gr kr k u m := by
  refine h.new ?_
  exact grown_of_below (below_drewN _ _)
theorem szY (w : World) (o : Obj) : w.heap.size < (w.alloc o).heap.size := by simp
theorem own_sliceY {B : Nat} {w : World} {x : Value} {Y : List Int} (h : Oby B w x Y) : ∃ a c, x = .slice a Y.length c := Ory.slice h
theorem row_sliceY {B K : Nat} {e : TypeId} {w : World} {x : Value} {xs : List Value} (h : w.ownsRow B e 1 x K xs) : ∃ a c, x = .slice a K c := by
  rcases h.2 with ⟨hv, hn⟩ | ⟨g, cap, cur, hv, _⟩
  · exact ⟨none, 0, by rw [hv, hn]⟩
  · exact ⟨_, _, hv⟩
/-- a list of truths of the call's own -/
def Onb (base : Nat) (w : World) (v : Value) (Y : List Int) : Prop := w.ownsRow base 5 1 v Y.length (Y.map (Value.int .u8))
theorem bytes_oneCell (l : List Int) : ∀ u ∈ l.map (Value.int .u8), u.oneCell' = true := by
  intro u hu
  obtain ⟨b, _, rfl⟩ := List.mem_map.1 hu
  rfl
theorem Gby.side {Q : Nat → Prop} {B S Sk N : Nat} {w wr wa w' : World} {rv : Value} {K : Nat} {v : Nat → Value} {n : Nat → Nat} {gr mv : Value} {kr k : Nat} {u : Nat → Value} {m : Nat → Nat} {xs : List Value} (h : Gby Q B S w wr rv K v n gr kr k u m) (hSk : S ≤ Sk)
    (huk : ∀ j, j < k → ∀ b, (u j).ownBlock = some b → b < Sk) (hga : wr.grownBy wa none) (hm : wa.ownsRow Sk 5 1 mv N xs) (hg : wa.grownBy w' mv.ownBlock) : Gby Q B S w w' rv K v n gr kr k u m := by
  have ha := h.new hga
  cases e : mv.ownBlock with
  | none => rw [e] at hg; exact ha.new hg
  | some g =>
    have hS : Sk ≤ g := (World.ownsRow.lt hm g e).1
    rw [e] at hg
    refine ha.step hg (fun b e' => by cases e'; have := h.hB; omega) (fun b e' hq => by cases e'; have h7 := h.ap.qs _ hq; have h8 := h.sw; omega) (fun j o e' hj => row_cells hm j o (by rw [e]; exact e') hj) (fun j hj => (ha.ap.pm j hj).kept hg (.inr fun e' => ?_)) (.inr (block_apart (by decide) ha.ap.row hm e)) (.inr (block_apart (by decide) ha.grow hm e)) (fun j hj => .inr fun e' => ?_)
    · have := h.vb j hj _ e'
      omega
    · have := huk j hj _ e'
      omega

set_option maxRecDepth 100000 in
set_option maxHeartbeats 8000000 in
theorem apart_y (Q : Nat → Prop) (B : Nat) (rv : Value) (K : Nat) (v : Nat → Value) (n : Nat → Nat) (w : World) (hB : B ≤ w.heap.size)
    (hrow : w.ownsRow B 44 1 rv K ((List.range K).map v)) (hown : ∀ j, j < K → ∃ Y, Oby B w (v j) Y ∧ Y.length = n j)
    (hap : ∀ i j, i < K → j < K → i ≠ j → (v i).ownBlock = none ∨ (v i).ownBlock ≠ (v j).ownBlock) (hK : K * 24 ≤ 140737488351232) (hn : ∀ j, j < K → n j * 8 ≤ 140737488353280) (hqv : ∀ j, j < K → ∀ b, (v j).ownBlock = some b → ¬ Q b) (hqs : ∀ k, Q k → k < w.heap.size) :
    Calls Tryd.prog 28 #[rv] w fun e w' => e = .returned (.bool true) ∧ Below B w w' ∧ ∀ k, Q k → w'.heap[k]? = w.heap[k]? := by
  obtain ⟨i0, hi, hz0, hz1, hz2⟩ := info_parts infoYt
  obtain ⟨iL, hiL, hL0, hL1, hL2⟩ := info_parts infoYr
  have A0 : Hid (Aby Q B w w rv K v n (fun _ => 0)) := ⟨hrow, fun j hj => by obtain ⟨Y, h1, h2⟩ := hown j hj; exact ⟨Y, h1, h2, fun t ht => by omega⟩, Below.refl _ _, KeepsOthers.refl _, fun _ _ => rfl, hqv, hqs⟩
  obtain ⟨ar, cr, rfl⟩ : ∃ ar cr, rv = .slice ar K cr := row_sliceY hrow
  have HAP : Hid (∀ i j, i < K → j < K → i ≠ j → (v i).ownBlock = none ∨ (v i).ownBlock ≠ (v j).ownBlock) := hap
  have HN : Hid (∀ j, j < K → n j * 8 ≤ 140737488353280) := hn
  clear hap hn hrow hown
  go_enter Tryd.func28, Tryd.ntmps28
  go_wp2
  go_loopg [3] K (fun g i wr => ∃ k : Nat, k + g = K ∧ i = .int .i64 k ∧ Aby Q B w wr (.slice ar K cr) K v n (fun j => if j < k then n j else 0))
  case atStart => exact ⟨0, by omega, rfl, A0.out.weaken (fun j _ => by simp)⟩
  case round =>
  obtain ⟨k, hk, rfl, ap⟩ := hrel
  have HK : Hid (k + gk = K) := hk
  by_cases hlt : k < K
  · have AP : Hid (Aby Q B w wr (.slice ar K cr) K v n (fun j => if j < k then n j else 0)) := ap
    obtain ⟨gr, cap, er, hcap, hcell⟩ := row_aty ap.row hlt
    simp only [Value.slice.injEq, true_and] at er
    obtain ⟨rfl, rfl⟩ := er
    have hnk := HN.out k hlt
    clear ap hk
    obtain ⟨nk, hnk'⟩ : ∃ nk, n k = nk := ⟨_, rfl⟩
    rw [hnk'] at hnk
    have HNK : Hid (n k = nk) := hnk'
    clear hnk' hcell
    go_wp2
    go_loopg [4] nk (fun g i wq => ∃ i' : Nat, i' + g = nk ∧ i = .int .i64 i' ∧ Aby Q B w wq (.slice (some ⟨gr, 0, none⟩) K cr) K v n (fun j => if j < k then n j else if j = k then i' else 0))
    case atStart => exact ⟨0, by omega, rfl, AP.out.weaken (fun j _ => by simp)⟩
    case round =>
      obtain ⟨i, hi', rfl, ap⟩ := hrel
      have HI : Hid (i + gk = nk) := hi'
      by_cases hil : i < nk
      · obtain ⟨_, _, er, -, hcell⟩ := row_aty ap.row hlt
        cases er
        obtain ⟨g, cap, y, e, hcp, q1, q2, apm⟩ := ap.mark HAP.out hlt (i := i) (by simp) (by rw [HNK.out]; exact hil)
        rw [e, HNK.out] at hcell
        have APM : Hid (Aby Q B w (wr.setCell ⟨g, i, none⟩ (.int .u8 (mry k i))) (.slice (some ⟨gr, 0, none⟩) K cr) K v n (fun j => if j = k then i + 1 else if j < k then n j else if j = k then i else 0)) := apm
        rw [HNK.out] at hcp
        have hme : (37 * (k : Int) + (i : Int)) % 256 = mry k i := rfl
        clear ap apm hi' e
        generalize mry k i = mk at *
        go_wp2
        go_roundg (gk - 1)
        case measure => have := HI.out; omega
        case rel => exact ⟨i + 1, by have := HI.out; omega, by go_num, APM.out.weaken (fun j _ => by
          by_cases e1 : j = k
          · subst e1; simp
          · simp [e1])⟩
      · have e : nk = i := by omega
        subst e
        clear hi' hil
        obtain ⟨_, _, er, -, hcell⟩ := row_aty ap.row hlt
        cases er
        obtain ⟨ax, cx, e⟩ := (ap.pm k hlt).slice
        rw [e, HNK.out] at hcell
        have AP2 : Hid (Aby Q B w wr (.slice (some ⟨gr, 0, none⟩) K cr) K v n (fun j => if j < k then n j else if j = k then nk else 0)) := ap
        clear ap e
        go_wp2
        go_roundg (K - k - 1)
        case measure => have := HK.out; omega
        case rel => exact ⟨k + 1, by have := HK.out; omega, by go_num, AP2.out.weaken (fun j _ => by
            by_cases e1 : j = k
            · subst e1; simp [HNK.out]
            · by_cases e2 : j < k
              · simp [e2, show j < k + 1 by omega]
              · simp [show ¬ j < k + 1 by omega])⟩
  have e : K = k := by omega
  subst e
  clear hk hlt HK A0
  have ap3 := ap.weaken (c' := n) (fun j hj => by simp [hj])
  have sB : B ≤ wr.heap.size := Nat.le_trans hB ap.bel.size
  have G0 : Hid (Gby Q B wr.heap.size w wr (.slice ar K cr) K v n (.slice none 0 0) 0 0 (fun _ => .slice none 0 0) (fun j => n j + 64)) :=
    ⟨ap3, World.ownsRow_nil _ _ _ _, fun j hj => by omega, fun j hj => by omega, Nat.le_refl _, sB, fun j hj b e => ((ap3.pm j hj).lt b e).2, fun b e => (World.ownsRow.lt ap3.row b e).2, HAP.out, Nat.zero_le _, ap.bel.size⟩
  clear ap ap3
  generalize wr = w3 at *
  go_wp2
  go_loopg [5, 6] K (fun g gsv kv wr => ∃ (k : Nat) (u : Nat → Value) (ag : Option Addr) (cg : Nat), k + g = K ∧ gsv = .slice ag k cg ∧ kv = .int .i64 k ∧ Gby Q B w3.heap.size w wr (.slice ar K cr) K v n (.slice ag k cg) k k u (fun j => n j + 64))
  case atStart => exact ⟨0, _, none, 0, by omega, rfl, rfl, G0.out⟩
  case round =>
  obtain ⟨k, u, ag, cg, hk, rfl, rfl, gs⟩ := hrel
  have HK : Hid (k + gk = K) := hk
  by_cases hlt : k < K
  · obtain ⟨gr, cap, er, hcap, hcell⟩ := row_aty gs.ap.row hlt
    simp only [Value.slice.injEq, true_and] at er
    obtain ⟨rfl, rfl⟩ := er
    have hnk := HN.out k hlt
    obtain ⟨nk, hnk'⟩ : ∃ nk, n k = nk := ⟨_, rfl⟩
    rw [hnk'] at hnk
    have HNK : Hid (n k = nk) := hnk'
    obtain ⟨Y0, ho0, hl0, hm0⟩ := gs.ap.pm k hlt
    rw [hnk'] at hl0 hm0
    obtain ⟨a0, c0, e0⟩ := own_sliceY ho0
    rw [hl0] at e0
    have HE0 : Hid (v k = .slice a0 nk c0) := e0
    rw [e0] at hcell ho0
    have HO0 : Hid (Oby B wr (.slice a0 nk c0) Y0) := ho0
    have HL0 : Hid (Y0.length = nk) := hl0
    have HM0 : Hid (∀ t, t < nk → Y0.getD t 0 = mry k t) := hm0
    have GS : Hid (Gby Q B w3.heap.size w wr (.slice (some ⟨gr, 0, none⟩) K cr) K v n (.slice ag k cg) k k u (fun j => n j + 64)) := gs
    have HUK : Hid (∀ j, j < k → ∀ b, (u j).ownBlock = some b → b < wr.heap.size) := fun j hj b e => ((gs.gp j hj).lt b e).2
    have hS3 : w3.heap.size ≤ wr.heap.size := gs.sz
    clear gs hk hnk' e0 ho0 hl0 hm0
    generalize wr = w4 at *
    go_wp2
    clear hcell
    go_loopg [7, 8] 64 (fun g x iv wq => ∃ (i : Nat) (Y : List Int) (ax : Option Addr) (cx : Nat), i + g = 64 ∧ x = .slice ax (nk + i) cx ∧ iv = .int .i64 i ∧ Oby B wq (.slice ax (nk + i) cx) Y ∧ Y.length = nk + i ∧ (∀ t, t < nk + i → Y.getD t 0 = mry k t) ∧
      ((Value.slice ax (nk + i) cx).ownBlock = (v k).ownBlock ∨ ∃ b, (Value.slice ax (nk + i) cx).ownBlock = some b ∧ w4.heap.size ≤ b) ∧ Gby Q B w3.heap.size w wq (.slice (some ⟨gr, 0, none⟩) K cr) K v n (.slice ag k cg) k k u (fun j => n j + 64) ∧ w4.heap.size ≤ wq.heap.size)
    case atStart => exact ⟨0, Y0, a0, c0, by omega, rfl, rfl, HO0.out, HL0.out, HM0.out, .inl (by rw [HE0.out]; rfl), GS.out, Nat.le_refl _⟩
    case round =>
      obtain ⟨i, Y, ax, cx, hi', rfl, rfl, ho, hl, hm, hxb, gs, hsz⟩ := hrel
      have HI : Hid (i + gk = 64) := hi'
      by_cases hil : i < 64
      · obtain ⟨_, _, er, -, hcell⟩ := row_aty gs.ap.row hlt
        cases er
        rw [HE0.out] at hcell
        have hme : (37 * (k : Int) + (nk : Int) + (i : Int)) % 256 = mry k (nk + i) := by unfold mry; rw [Int.natCast_add, Int.add_assoc]
        have HO : Hid (Oby B wr (.slice ax (nk + i) cx) Y) := ho
        have HL : Hid (Y.length = nk + i) := hl
        have HMM : Hid (∀ t, t < nk + i → Y.getD t 0 = mry k t) := hm
        have HXB : Hid ((Value.slice ax (nk + i) cx).ownBlock = (v k).ownBlock ∨ ∃ b, (Value.slice ax (nk + i) cx).ownBlock = some b ∧ w4.heap.size ≤ b) := hxb
        have GS2 : Hid (Gby Q B w3.heap.size w wr (.slice (some ⟨gr, 0, none⟩) K cr) K v n (.slice ag k cg) k k u (fun j => n j + 64)) := gs
        have sBr : B ≤ wr.heap.size := Nat.le_trans gs.hB gs.sz
        clear ho hl hm hxb gs hi'
        obtain ⟨mk, hmk⟩ : ∃ mk, mry k (nk + i) = mk := ⟨_, rfl⟩
        have HMK : Hid (mry k (nk + i) = mk) := hmk
        rw [hmk] at hme
        clear hmk
        go_wp2_with (at_builtin; refine wpList_append_twoY _ rfl _ _ 44 rfl B 5 i0 (.int .u8 0) 1 Tryd.underlying44 hi hz0 hz1 hz2 rfl (by decide) _ Y.length (Y.map (Value.int .u8)) rfl (Ory.alloc HO.out _) ⟨wr.heap.size, 0, none⟩ 1 1 [.int .u8 mk] rfl rfl (cell_one_new _ _ _) (by simp [Value.oneCell']) (by omega) (by rw [HL.out]; unfold maxLen; omega) (by rw [HL.out]; omega) (by simp; omega) ?_; intro x' w' own' h2)
        obtain ⟨gs', ho', hxb'⟩ := GS2.out.app (nz := [mk]) hlt hS3 hsz HUK.out HO.out (by rw [HNK.out, HL.out]; omega) HXB.out (World.grownBy_alloc _ _ none) (by simp) own' h2
        obtain ⟨ax', cx', e'⟩ := own_sliceY ho'
        have hl' : (Y ++ [mk]).length = nk + (i + 1) := by rw [List.length_append, HL.out]; rfl
        rw [hl'] at e'
        subst e'
        have hm' : ∀ t, t < nk + (i + 1) → (Y ++ [mk]).getD t 0 = mry k t := fun t ht => by
          by_cases e : t < nk + i
          · rw [← HMM.out t e, List.getD_eq_getElem?_getD, List.getD_eq_getElem?_getD, List.getElem?_append_left (by rw [HL.out]; exact e)]
          · obtain rfl : t = nk + i := by omega
            rw [HMK.out, List.getD_eq_getElem?_getD, ← HL.out, List.getElem?_concat_length]
            rfl
        have hsz' : w4.heap.size ≤ w'.heap.size := by
          have h0 : wr.heap.size ≤ (wr.alloc (.cells #[.int .u8 mk] 5)).heap.size := Nat.le_of_lt (szY _ _)
          rcases h2 with ⟨_, _, _, _, h3⟩ | ⟨_, h3⟩ <;> exact Nat.le_trans hsz (Nat.le_trans h0 h3.size)
        go_roundg (gk - 1)
        case measure => have := HI.out; omega
        case rel => exact ⟨i + 1, Y ++ [mk], ax', cx', by have := HI.out; omega, rfl, by go_num, ho', hl', hm', hxb', gs', hsz'⟩
      · obtain rfl : i = 64 := by omega
        clear hi' hil
        have PX : Hid (Pby B wr (.slice ax (nk + 64) cx) k (n k + 64) (n k + 64)) := ⟨Y, ho, by rw [HNK.out]; exact hl, by rw [HNK.out]; exact hm⟩
        have HXB : Hid ((Value.slice ax (nk + 64) cx).ownBlock = (v k).ownBlock ∨ ∃ b, (Value.slice ax (nk + 64) cx).ownBlock = some b ∧ w3.heap.size ≤ b) := by
          rcases hxb with q | ⟨b, q, hb⟩
          · exact .inl q
          · exact .inr ⟨b, q, Nat.le_trans hS3 hb⟩
        have GS2 : Hid (Gby Q B w3.heap.size w wr (.slice (some ⟨gr, 0, none⟩) K cr) K v n (.slice ag k cg) k k u (fun j => n j + 64)) := gs
        have sS : w3.heap.size ≤ wr.heap.size := gs.sz
        clear ho hl hm hxb gs
        go_wp2_with (at_builtin; refine wpList_append_own _ rfl _ _ 56 rfl w3.heap.size 44 iL (.slice none 0 0) 1 24 Tryd.underlying56 hiL hL0 hL1 hL2 rfl (by decide) _ k ((List.range k).map u) rfl (World.ownsRow.alloc GS2.out.grow _) ⟨wr.heap.size, 0, none⟩ 1 1 [.slice ax (nk + 64) cx] rfl rfl (cell_one_new _ _ _) (by simp [Value.oneCell']) (by unfold maxLen; omega) (by omega) (by simp; omega) ?_; intro gr' w' own' gr2 hn')
        have gs' := GS2.out.push hlt (World.grownBy_alloc _ _ none) own' gr2 PX.out HXB.out
        obtain ⟨ag', cg', e'⟩ := row_sliceY own'
        subst e'
        go_roundg (K - k - 1)
        case measure => have := HK.out; omega
        case rel => exact ⟨k + 1, _, ag', cg', by have := HK.out; omega, rfl, by go_num, gs'⟩
  have e : K = k := by omega
  subst e
  clear hk hlt HK G0
  have G5 : Hid (Gby Q B w3.heap.size w wr (.slice ar K cr) K v n (.slice ag K cg) K K u (fun j => n j + 64)) := gs
  clear gs
  generalize wr = w5 at *
  go_wp2
  go_loopg [9] K (fun g kv wr => ∃ k : Nat, k + g = K ∧ kv = .int .i64 k ∧ Gby Q B w3.heap.size w wr (.slice ar K cr) K v n (.slice ag K cg) K K u (fun j => n j + 64))
  case atStart => exact ⟨0, by omega, rfl, G5.out⟩
  case round =>
  obtain ⟨k, hk, rfl, gs⟩ := hrel
  have HK : Hid (k + gk = K) := hk
  by_cases hlt : k < K
  · obtain ⟨gr, cap, er, hcap, -⟩ := row_aty gs.ap.row hlt
    simp only [Value.slice.injEq, true_and] at er
    obtain ⟨rfl, rfl⟩ := er
    obtain ⟨gg, cap', er, hcap', -⟩ := row_aty gs.grow hlt
    simp only [Value.slice.injEq, true_and] at er
    obtain ⟨rfl, rfl⟩ := er
    have hnk := HN.out k hlt
    obtain ⟨nk, hnk'⟩ : ∃ nk, n k = nk := ⟨_, rfl⟩
    rw [hnk'] at hnk
    have HNK : Hid (n k = nk) := hnk'
    obtain ⟨av, cv, ev⟩ := (gs.ap.pm k hlt).slice
    obtain ⟨au, cu, eu⟩ := (gs.gp k hlt).slice
    rw [hnk'] at ev eu
    have HEV : Hid (v k = .slice av nk cv) := ev
    have HEU : Hid (u k = .slice au (nk + 64) cu) := eu
    have GS : Hid (Gby Q B w3.heap.size w wr (.slice (some ⟨gr, 0, none⟩) K cr) K v n (.slice (some ⟨gg, 0, none⟩) K cg) K K u (fun j => n j + 64)) := gs
    clear gs hk hnk' ev eu
    go_wp2
    go_loopg [10] (nk + 64) (fun g iv wq => ∃ i : Nat, i + g = nk + 64 ∧ iv = .int .i64 i ∧ Gby Q B w3.heap.size w wq (.slice (some ⟨gr, 0, none⟩) K cr) K v n (.slice (some ⟨gg, 0, none⟩) K cg) K K u (fun j => n j + 64))
    case atStart => exact ⟨0, by omega, rfl, GS.out⟩
    case round =>
      obtain ⟨i, hi', rfl, gs⟩ := hrel
      have HI : Hid (i + gk = nk + 64) := hi'
      obtain ⟨_, _, er, -, hcv⟩ := row_aty gs.ap.row hlt
      cases er
      obtain ⟨_, _, er, -, hcu⟩ := row_aty gs.grow hlt
      cases er
      rw [HEV.out] at hcv
      rw [HEU.out] at hcu
      have GS2 : Hid (Gby Q B w3.heap.size w wr (.slice (some ⟨gr, 0, none⟩) K cr) K v n (.slice (some ⟨gg, 0, none⟩) K cg) K K u (fun j => n j + 64)) := gs
      by_cases hil : i < nk + 64
      · obtain ⟨ug, uc, e1, hc1, hx1⟩ := (gs.gp k hlt).cell (i := i) (by rw [HNK.out]; exact hil) (by show i < n k + 64; rw [HNK.out]; exact hil)
        rw [HEU.out, HNK.out] at e1
        cases e1
        rw [HNK.out] at hc1
        have hme : (37 * (k : Int) + (i : Int)) % 256 = mry k i := rfl
        by_cases hiv : i < nk
        · obtain ⟨vg, vc, e2, hc2, hx2⟩ := (gs.ap.pm k hlt).cell (i := i) (by rw [HNK.out]; exact hiv) (by rw [HNK.out]; exact hiv)
          rw [HEV.out, HNK.out] at e2
          cases e2
          rw [HNK.out] at hc2
          clear gs hi'
          generalize mry k i = mk at *
          go_wp2
          go_roundg (gk - 1)
          case measure => have := HI.out; omega
          case rel => exact ⟨i + 1, by have := HI.out; omega, by go_num, GS2.out⟩
        · have hdv : decide (i < nk) = false := decide_eq_false hiv
          have hdv' : decide ((i : Int) < (nk : Int)) = false := decide_eq_false (by omega)
          clear gs hi'
          generalize mry k i = mk at *
          go_wp2
          go_roundg (gk - 1)
          case measure => have := HI.out; omega
          case rel => exact ⟨i + 1, by have := HI.out; omega, by go_num, GS2.out⟩
      · obtain rfl : i = nk + 64 := by omega
        clear gs hi' hil
        go_wp2
        go_roundg (K - k - 1)
        case measure => have := HK.out; omega
        case rel => exact ⟨k + 1, by have := HK.out; omega, by go_num, GS2.out⟩
  have e : K = k := by omega
  subst e
  clear hk hlt HK G5
  have G7 : Hid (Gby Q B w3.heap.size w wr (.slice ar K cr) K v n (.slice ag K cg) K 0 u n) := ⟨gs.ap, gs.grow, fun j hj => by omega, fun j hj => by omega, gs.sz, gs.hB, gs.vb, gs.rb, gs.hap, Nat.zero_le _, gs.sw⟩
  clear gs
  generalize wr = w6 at *
  go_wp2
  go_loopg [11] K (fun g kv wr => ∃ (k : Nat) (u : Nat → Value), k + g = K ∧ kv = .int .i64 k ∧ Gby Q B w3.heap.size w wr (.slice ar K cr) K v n (.slice ag K cg) K k u n)
  case atStart => exact ⟨0, u, by omega, rfl, G7.out⟩
  case round =>
  clear G7
  obtain ⟨k, u, hk, rfl, gs⟩ := hrel
  have HK : Hid (k + gk = K) := hk
  by_cases hlt : k < K
  · obtain ⟨gr, cap, er, hcap, -⟩ := row_aty gs.ap.row hlt
    simp only [Value.slice.injEq, true_and] at er
    obtain ⟨rfl, rfl⟩ := er
    obtain ⟨gg, cap', er, hcap', -⟩ := row_aty gs.grow hlt
    simp only [Value.slice.injEq, true_and] at er
    obtain ⟨rfl, rfl⟩ := er
    have hnk := HN.out k hlt
    obtain ⟨nk, hnk'⟩ : ∃ nk, n k = nk := ⟨_, rfl⟩
    rw [hnk'] at hnk
    have HNK : Hid (n k = nk) := hnk'
    have GS : Hid (Gby Q B w3.heap.size w wr (.slice (some ⟨gr, 0, none⟩) K cr) K v n (.slice (some ⟨gg, 0, none⟩) K cg) K k u n) := gs
    have HUK : Hid (∀ j, j < k → ∀ b, (u j).ownBlock = some b → b < wr.heap.size) := fun j hj b e => ((gs.gp j hj).lt b e).2
    have hS3 : w3.heap.size ≤ wr.heap.size := gs.sz
    clear gs hk hnk'
    generalize wr = w7 at *
    go_wp2
    go_loopg [12, 13] 64 (fun g mv iv wq => ∃ (i : Nat) (am : Option Addr) (cm : Nat), i + g = 64 ∧ mv = .slice am i cm ∧ iv = .int .i64 i ∧ Onb w7.heap.size wq (.slice am i cm) ((List.range i).map (fun t => mry (k + K) t)) ∧
      Gby Q B w3.heap.size w wq (.slice (some ⟨gr, 0, none⟩) K cr) K v n (.slice (some ⟨gg, 0, none⟩) K cg) K k u n ∧ w7.heap.size ≤ wq.heap.size)
    case atStart => exact ⟨0, none, 0, by omega, rfl, rfl, World.ownsRow_nil _ _ _ _, GS.out, Nat.le_refl _⟩
    case round =>
      obtain ⟨i, am, cm, hi', rfl, rfl, ho, gs, hsz⟩ := hrel
      have HI : Hid (i + gk = 64) := hi'
      have HO : Hid (Onb w7.heap.size wr (.slice am i cm) ((List.range i).map (fun t => mry (k + K) t))) := ho
      have GS2 : Hid (Gby Q B w3.heap.size w wr (.slice (some ⟨gr, 0, none⟩) K cr) K v n (.slice (some ⟨gg, 0, none⟩) K cg) K k u n) := gs
      by_cases hil : i < 64
      · have hme : (37 * ((k : Int) + (K : Int)) + (i : Int)) % 256 = mry (k + K) i := by unfold mry; rw [Int.natCast_add]
        clear ho gs hi'
        obtain ⟨mk, hmk⟩ : ∃ mk, mry (k + K) i = mk := ⟨_, rfl⟩
        have HMK : Hid (mry (k + K) i = mk) := hmk
        rw [hmk] at hme
        clear hmk
        obtain ⟨ms, hms⟩ : ∃ ms, (List.range i).map (fun t => mry (k + K) t) = ms := ⟨_, rfl⟩
        have HMS : Hid ((List.range i).map (fun t => mry (k + K) t) = ms) := hms
        have HML : Hid (ms.length = i) := by show _ = _; rw [← hms]; simp
        rw [hms] at HO
        clear hms
        go_wp2_with (at_builtin; refine wpList_append_own _ rfl _ _ 44 rfl w7.heap.size 5 i0 (.int .u8 0) 1 1 Tryd.underlying44 hi hz0 hz1 hz2 rfl (by decide) _ ms.length (ms.map (Value.int .u8)) rfl (World.ownsRow.alloc HO.out _) ⟨wr.heap.size, 0, none⟩ 1 1 [.int .u8 mk] rfl rfl (cell_one_new _ _ _) (by simp [Value.oneCell']) (by rw [HML.out]; unfold maxLen; omega) (by rw [HML.out]; omega) (by simp; omega) ?_; intro x' w' own' gr2 hn')
        have gs' := GS2.out.side hS3 HUK.out (World.grownBy_alloc _ _ none) (World.ownsRow.alloc HO.out _) gr2
        have hsz' : w7.heap.size ≤ w'.heap.size := Nat.le_trans (Nat.le_trans hsz (Nat.le_of_lt (szY _ _))) gr2.size
        have ho' : Onb w7.heap.size w' x' ((List.range (i + 1)).map (fun t => mry (k + K) t)) := by
          rw [List.range_succ, List.map_append, HMS.out, List.map_cons, List.map_nil, HMK.out]
          unfold Onb
          rw [List.length_append, List.map_append]
          exact own'
        obtain ⟨am', cm', e'⟩ := row_sliceY ho'
        have hl' : ((List.range (i + 1)).map (fun t => mry (k + K) t)).length = i + 1 := by simp
        rw [hl'] at e'
        subst e'
        go_roundg (gk - 1)
        case measure => have := HI.out; omega
        case rel => exact ⟨i + 1, am', cm', by have := HI.out; omega, rfl, by go_num, ho', gs', hsz'⟩
      · obtain rfl : i = 64 := by omega
        clear hi' hil HI
        obtain ⟨_, _, er, -, hcv⟩ := row_aty gs.ap.row hlt
        cases er
        obtain ⟨Y, hoY, hlY, hmY⟩ := gs.ap.pm k hlt
        obtain ⟨av, cv, ev⟩ := own_sliceY hoY
        rw [hlY, HNK.out] at ev
        have HEV : Hid (v k = .slice av nk cv) := ev
        rw [ev] at hcv hoY
        have HOY : Hid (Oby B wr (.slice av nk cv) Y) := hoY
        have HLY : Hid (Y.length = nk) := by show _ = _; rw [hlY]; exact HNK.out
        have HMY : Hid (∀ t, t < n k → Y.getD t 0 = mry k t) := hmY
        obtain ⟨ms, hms⟩ : ∃ ms, (List.range 64).map (fun t => mry (k + K) t) = ms := ⟨_, rfl⟩
        have HML : Hid (ms.length = 64) := by show _ = _; rw [← hms]; simp
        rw [hms] at HO ho
        obtain ⟨gm, cm', em⟩ : ∃ gm cm', Value.slice am 64 cm = .slice (some ⟨gm, 0, none⟩) 64 cm' := by
          rcases ho.2 with ⟨_, h0⟩ | ⟨g, cap, cur, e, _⟩
          · rw [HML.out] at h0; cases h0
          · rw [HML.out] at e; exact ⟨g, cap, e⟩
        cases em
        have HNW : Hid (∀ j u, (ms.map (Value.int .u8))[j]? = some u → wr.cell? ((⟨gm, 0, none⟩ : Addr).add j) = some u) := World.ownsRow.cells ho rfl
        have sBr : B ≤ wr.heap.size := Nat.le_trans gs.hB gs.sz
        clear ho gs hoY hlY hmY hms ev
        go_wp2_with (at_builtin; refine wpList_append_twoY _ rfl _ _ 44 rfl B 5 i0 (.int .u8 0) 1 Tryd.underlying44 hi hz0 hz1 hz2 rfl (by decide) _ Y.length (Y.map (Value.int .u8)) rfl HOY.out ⟨gm, 0, none⟩ 64 cm (ms.map (Value.int .u8)) rfl (by rw [List.length_map]; exact HML.out) HNW.out (bytes_oneCell ms) (by omega) (by rw [HLY.out]; unfold maxLen; omega) (by rw [HLY.out]; omega) sBr ?_; intro x' w' own' h2; have own2 : Ory w' B x' (Y.length + ms.length) (Y.map (Value.int .u8) ++ ms.map (Value.int .u8)) := (by rw [HML.out]; exact own'); obtain ⟨gs', ho', hxb'⟩ := GS2.out.app (nz := ms) (wa := wr) (Sk := w7.heap.size) hlt hS3 hsz HUK.out HOY.out (Nat.le_of_eq (by rw [HNK.out, HLY.out])) (.inl (congrArg Value.ownBlock HEV.out.symm)) ⟨rfl, rfl, rfl, Nat.le_refl _, fun _ _ _ => rfl⟩ (by rw [HML.out]; omega) own2 (by rw [HML.out]; exact h2); obtain ⟨ax', cx', e'⟩ := own_sliceY ho'; rw [List.length_append, HLY.out, HML.out] at e'; subst e'; obtain ⟨_, _, er, -, hcu⟩ := row_aty gs'.grow hlt; cases er; have hfu := gs'.grow.frozenAt k; have GS3 : Hid (Gby Q B w3.heap.size w w' (.slice (some ⟨gr, 0, none⟩) K cr) K v n (.slice (some ⟨gg, 0, none⟩) K cg) K k u n) := gs'; clear gs' own' own2 h2)
        have PX : Pby B w' (.slice ax' (nk + 64) cx') k (n k + 64) (n k) := ⟨Y ++ ms, ho', by rw [List.length_append, HLY.out, HML.out, HNK.out], fun t ht => by
          rw [← HMY.out t ht, List.getD_eq_getElem?_getD, List.getD_eq_getElem?_getD, List.getElem?_append_left (by rw [HLY.out, ← HNK.out]; exact ht)]⟩
        have gs4 := GS3.out.put hlt PX (by
          rcases hxb' with q | ⟨b, q, hb⟩
          · exact .inl q
          · exact .inr ⟨b, q, Nat.le_trans hS3 hb⟩)
        go_roundg (K - k - 1)
        case measure => have := HK.out; omega
        case rel => exact ⟨k + 1, _, by have := HK.out; omega, by go_num, gs4⟩
  have e : K = k := by omega
  subst e
  clear hk hlt HK
  have G9 : Hid (Gby Q B w3.heap.size w wr (.slice ar K cr) K v n (.slice ag K cg) K K u n) := gs
  clear gs
  generalize wr = w8 at *
  go_wp2
  go_loopg [14] K (fun g kv wr => ∃ k : Nat, k + g = K ∧ kv = .int .i64 k ∧ Gby Q B w3.heap.size w wr (.slice ar K cr) K v n (.slice ag K cg) K K u n)
  case atStart => exact ⟨0, by omega, rfl, G9.out⟩
  case round =>
  obtain ⟨k, hk, rfl, gs⟩ := hrel
  have HK : Hid (k + gk = K) := hk
  by_cases hlt : k < K
  · obtain ⟨gr, cap, er, hcap, -⟩ := row_aty gs.ap.row hlt
    simp only [Value.slice.injEq, true_and] at er
    obtain ⟨rfl, rfl⟩ := er
    obtain ⟨gg, cap', er, hcap', -⟩ := row_aty gs.grow hlt
    simp only [Value.slice.injEq, true_and] at er
    obtain ⟨rfl, rfl⟩ := er
    have hnk := HN.out k hlt
    obtain ⟨nk, hnk'⟩ : ∃ nk, n k = nk := ⟨_, rfl⟩
    rw [hnk'] at hnk
    have HNK : Hid (n k = nk) := hnk'
    obtain ⟨av, cv, ev⟩ := (gs.ap.pm k hlt).slice
    obtain ⟨au, cu, eu⟩ := (gs.gp k hlt).slice
    rw [hnk'] at ev eu
    have HEV : Hid (v k = .slice av nk cv) := ev
    have HEU : Hid (u k = .slice au (nk + 64) cu) := eu
    have GS : Hid (Gby Q B w3.heap.size w wr (.slice (some ⟨gr, 0, none⟩) K cr) K v n (.slice (some ⟨gg, 0, none⟩) K cg) K K u n) := gs
    clear gs hk hnk' ev eu
    go_wp2
    go_loopg [15] nk (fun g iv wq => ∃ i : Nat, i + g = nk ∧ iv = .int .i64 i ∧ Gby Q B w3.heap.size w wq (.slice (some ⟨gr, 0, none⟩) K cr) K v n (.slice (some ⟨gg, 0, none⟩) K cg) K K u n)
    case atStart => exact ⟨0, by omega, rfl, GS.out⟩
    case round =>
      obtain ⟨i, hi', rfl, gs⟩ := hrel
      have HI : Hid (i + gk = nk) := hi'
      obtain ⟨_, _, er, -, hcv⟩ := row_aty gs.ap.row hlt
      cases er
      obtain ⟨_, _, er, -, hcu⟩ := row_aty gs.grow hlt
      cases er
      rw [HEV.out] at hcv
      rw [HEU.out] at hcu
      have GS2 : Hid (Gby Q B w3.heap.size w wr (.slice (some ⟨gr, 0, none⟩) K cr) K v n (.slice (some ⟨gg, 0, none⟩) K cg) K K u n) := gs
      by_cases hil : i < nk
      · obtain ⟨ug, uc, e1, hc1, hx1⟩ := (gs.gp k hlt).cell (i := i) (by rw [HNK.out]; omega) (by rw [HNK.out]; exact hil)
        rw [HEU.out, HNK.out] at e1
        cases e1
        rw [HNK.out] at hc1
        have hme : (37 * (k : Int) + (i : Int)) % 256 = mry k i := rfl
        obtain ⟨vg, vc, e2, hc2, hx2⟩ := (gs.ap.pm k hlt).cell (i := i) (by rw [HNK.out]; exact hil) (by rw [HNK.out]; exact hil)
        rw [HEV.out, HNK.out] at e2
        cases e2
        rw [HNK.out] at hc2
        clear gs hi'
        generalize mry k i = mk at *
        go_wp2
        go_roundg (gk - 1)
        case measure => have := HI.out; omega
        case rel => exact ⟨i + 1, by have := HI.out; omega, by go_num, GS2.out⟩
      · have e : nk = i := by omega
        subst e
        clear gs hi' hil
        go_wp2
        go_roundg (K - k - 1)
        case measure => have := HK.out; omega
        case rel => exact ⟨k + 1, by have := HK.out; omega, by go_num, GS2.out⟩
  have e : K = k := by omega
  subst e
  clear hk hlt HK
  have BE : Hid (Below B w wr ∧ ∀ k, Q k → wr.heap[k]? = w.heap[k]?) := ⟨gs.ap.bel, gs.ap.kp⟩
  clear gs
  go_wp2
  go_ret
  exact ⟨rfl, BE.out⟩

end Go.Proofs.YtilcokpaeapmeaaDoor
