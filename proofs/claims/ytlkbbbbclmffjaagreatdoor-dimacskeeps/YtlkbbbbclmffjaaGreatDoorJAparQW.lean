/-
  joined: AparQW AparR AparRB AparRW AparCl KpK AparClq Trn Trd KpL
-/
import Derived.Test.YtlkbbbbclmffjaaGreatDoorJAparQ
import Derived.Test.YtlkbbbbclmffjaaGreatDoorKSmall
import Derived.Test.YtlkbbbbclmffjaaGreatDoorJAppK
import Derived.Test.YtlkbbbbclmffjaaGreatDoorKCopy
import Derived.Deep.RegionHeld
set_option linter.unusedSimpArgs false
set_option linter.unusedVariables false
namespace Go.Proofs.YtlkbbbbclmffjaaGreatDoor
open Go Go.RowKit Go.Shelf

attribute [local go_sem] Oper.semAt_some

theorem szA (w : World) (o : Obj) : w.heap.size < (w.alloc o).heap.size := by simp
theorem infoL : (Tryz.prog.info? 43).map (fun i => (i.zero, i.size, i.bytes)) = some (some (.slice none 0 0), 1, 24) := by kernel_rfl
theorem Gq.drew {Q : Nat → Prop} {B S : Nat} {w wr : World} {rv : Value} {K : Nat} {v : Nat → Value} {n : Nat → Nat} {gr : Value} {kr k : Nat} {u : Nat → Value} {m : Nat → Nat} (h : Gq Q B S w wr rv K v n gr kr k u m) : Gq Q B S w wr.drew rv K v n gr kr k u m :=
  ⟨h.ap.drew, h.grow, h.gp, h.gb, h.sz, h.hB, h.vb, h.rb, h.hap, h.hk, h.sw⟩
theorem Gq.drewN {Q : Nat → Prop} {B S : Nat} {w wr : World} {rv : Value} {K : Nat} {v : Nat → Value} {n : Nat → Nat} {gr : Value} {kr k : Nat} {u : Nat → Value} {m : Nat → Nat} (h : Gq Q B S w wr rv K v n gr kr k u m) (q : Nat) : Gq Q B S w (wr.drewN q) rv K v n gr kr k u m := by
  refine h.new ?_
  exact grown_of_below (below_drewN _ _)
theorem own_slice {B : Nat} {w : World} {x : Value} {Y : List Int} (h : Own B w x Y) : ∃ a c, x = .slice a Y.length c := by
  rcases h.2 with ⟨hv, hn⟩ | ⟨g, cap, cur, hv, _⟩
  · exact ⟨none, 0, by rw [hv, hn]⟩
  · exact ⟨_, _, hv⟩
theorem row_slice {B K : Nat} {e : TypeId} {w : World} {x : Value} {xs : List Value} (h : w.ownsRow B e 1 x K xs) : ∃ a c, x = .slice a K c := by
  rcases h.2 with ⟨hv, hn⟩ | ⟨g, cap, cur, hv, _⟩
  · exact ⟨none, 0, by rw [hv, hn]⟩
  · exact ⟨_, _, hv⟩
theorem Gq.side {Q : Nat → Prop} {B S Sk N : Nat} {w wr wa w' : World} {rv : Value} {K : Nat} {v : Nat → Value} {n : Nat → Nat} {gr mv : Value} {kr k : Nat} {u : Nat → Value} {m : Nat → Nat} {xs : List Value} (h : Gq Q B S w wr rv K v n gr kr k u m) (hSk : S ≤ Sk)
    (huk : ∀ j, j < k → ∀ b, (u j).ownBlock = some b → b < Sk) (hga : wr.grownBy wa none) (hm : wa.ownsRow Sk 3 1 mv N xs) (hg : wa.grownBy w' mv.ownBlock) : Gq Q B S w w' rv K v n gr kr k u m := by
  have ha := h.new hga
  cases e : mv.ownBlock with
  | none => rw [e] at hg; exact ha.new hg
  | some g =>
    have hS : Sk ≤ g := (World.ownsRow.lt hm g e).1
    rw [e] at hg
    refine ha.step hg (fun b e' => by cases e'; have := h.hB; omega) (fun b e' hq => by cases e'; have h7 := h.ap.qs _ hq; have h8 := h.sw; omega) (fun j o e' hj => row_cells hm j o (by rw [e]; exact e') hj) (fun j hj => (ha.ap.pm j hj).kept hg (.inr fun e' => ?_)) (.inr (block_apart (by decide) ha.ap.row hm e)) (.inr (block_apart (by decide) ha.grow hm e)) (fun j hj => .inr fun e' => ?_)
    · have := h.vb j hj _ e'
      omega
    · have := huk j hj _ e'
      omega

set_option maxRecDepth 100000 in
set_option maxHeartbeats 8000000 in
theorem apart_q (Q : Nat → Prop) (B : Nat) (rv : Value) (K : Nat) (v : Nat → Value) (n : Nat → Nat) (w : World) (hB : B ≤ w.heap.size)
    (hrow : w.ownsRow B 43 1 rv K ((List.range K).map v)) (hown : ∀ j, j < K → ∃ Y, Own B w (v j) Y ∧ Y.length = n j)
    (hap : ∀ i j, i < K → j < K → i ≠ j → (v i).ownBlock = none ∨ (v i).ownBlock ≠ (v j).ownBlock) (hK : K * 24 ≤ 140737488351232) (hn : ∀ j, j < K → n j * 8 ≤ 140737488353280) (hqv : ∀ j, j < K → ∀ b, (v j).ownBlock = some b → ¬ Q b) (hqs : ∀ k, Q k → k < w.heap.size) :
    Calls Tryz.prog 65 #[rv] w fun e w' => e = .returned (.bool true) ∧ Below B w w' ∧ ∀ k, Q k → w'.heap[k]? = w.heap[k]? := by
  obtain ⟨i0, hi, hz0, hz1, hz2⟩ := info_parts Tryz.info3
  obtain ⟨iL, hiL, hL0, hL1, hL2⟩ := info_parts infoL
  have A0 : Hid (Aq Q B w w rv K v n (fun _ => 0)) := ⟨hrow, fun j hj => by obtain ⟨Y, h1, h2⟩ := hown j hj; exact ⟨Y, h1, h2, fun t ht => by omega⟩, Below.refl _ _, KeepsOthers.refl _, fun _ _ => rfl, hqv, hqs⟩
  obtain ⟨ar, cr, rfl⟩ : ∃ ar cr, rv = .slice ar K cr := row_slice hrow
  have HAP : Hid (∀ i j, i < K → j < K → i ≠ j → (v i).ownBlock = none ∨ (v i).ownBlock ≠ (v j).ownBlock) := hap
  have HN : Hid (∀ j, j < K → n j * 8 ≤ 140737488353280) := hn
  clear hap hn hrow hown
  go_enter Tryz.func65, Tryz.ntmps65
  go_wp2
  go_loopg [3] K (fun g i wr => ∃ k : Nat, k + g = K ∧ i = .int .i64 k ∧ Aq Q B w wr (.slice ar K cr) K v n (fun j => if j < k then n j else 0))
  case atStart => exact ⟨0, by omega, rfl, A0.out.weaken (fun j _ => by simp)⟩
  case round =>
  obtain ⟨k, hk, rfl, ap⟩ := hrel
  have HK : Hid (k + gk = K) := hk
  by_cases hlt : k < K
  · have AP : Hid (Aq Q B w wr (.slice ar K cr) K v n (fun j => if j < k then n j else 0)) := ap
    obtain ⟨gr, cap, er, hcap, hcell⟩ := row_at ap.row hlt
    simp only [Value.slice.injEq, true_and] at er
    obtain ⟨rfl, rfl⟩ := er
    have hnk := HN.out k hlt
    clear ap hk
    obtain ⟨nk, hnk'⟩ : ∃ nk, n k = nk := ⟨_, rfl⟩
    rw [hnk'] at hnk
    have HNK : Hid (n k = nk) := hnk'
    clear hnk' hcell
    go_wp2
    go_loopg [4] nk (fun g i wq => ∃ i' : Nat, i' + g = nk ∧ i = .int .i64 i' ∧ Aq Q B w wq (.slice (some ⟨gr, 0, none⟩) K cr) K v n (fun j => if j < k then n j else if j = k then i' else 0))
    case atStart => exact ⟨0, by omega, rfl, AP.out.weaken (fun j _ => by simp)⟩
    case round =>
      obtain ⟨i, hi', rfl, ap⟩ := hrel
      have HI : Hid (i + gk = nk) := hi'
      by_cases hil : i < nk
      · obtain ⟨_, _, er, -, hcell⟩ := row_at ap.row hlt
        cases er
        obtain ⟨g, cap, y, e, hcp, q1, q2, apm⟩ := ap.mark HAP.out hlt (i := i) (by simp) (by rw [HNK.out]; exact hil)
        rw [e, HNK.out] at hcell
        have APM : Hid (Aq Q B w (wr.setCell ⟨g, i, none⟩ (.int .i64 (mrk k i))) (.slice (some ⟨gr, 0, none⟩) K cr) K v n (fun j => if j = k then i + 1 else if j < k then n j else if j = k then i else 0)) := apm
        rw [HNK.out] at hcp
        have HM : Hid (∀ W, Calls Tryz.prog 18 #[.int .i64 k, .int .i64 i] W fun e w' => e = .returned (.int .i64 (mrk k i)) ∧ w' = W) := fun W => mark_any k i W (by omega) (by omega)
        clear ap apm hi' e
        generalize mrk k i = mk at *
        go_wp2
        go_region_with (go_at_call 18; refine (HM.out _).mono ?_; rintro e wv ⟨rfl, rfl⟩)
        all_goals
          go_wp2
          go_roundg (gk - 1)
          case measure => have := HI.out; omega
          case rel => exact ⟨i + 1, by have := HI.out; omega, by go_num, APM.out.drew.weaken (fun j _ => by
            by_cases e1 : j = k
            · subst e1; simp
            · simp [e1])⟩
      · have e : nk = i := by omega
        subst e
        clear hi' hil
        obtain ⟨_, _, er, -, hcell⟩ := row_at ap.row hlt
        cases er
        obtain ⟨ax, cx, e⟩ := (ap.pm k hlt).slice
        rw [e, HNK.out] at hcell
        have AP2 : Hid (Aq Q B w wr (.slice (some ⟨gr, 0, none⟩) K cr) K v n (fun j => if j < k then n j else if j = k then nk else 0)) := ap
        clear ap e
        go_wp2
        go_roundg (K - k - 1)
        case measure => have := HK.out; omega
        case rel => exact ⟨k + 1, by have := HK.out; omega, by go_num, AP2.out.weaken (fun j _ => by
            by_cases e1 : j = k
            · subst e1; simp [HNK.out]
            · by_cases e2 : j < k
              · simp [e2, show j < k + 1 by omega]
              · simp [show ¬ j < k + 1 by omega])⟩
  have e : K = k := by omega
  subst e
  clear hk hlt HK A0
  have ap3 := ap.weaken (c' := n) (fun j hj => by simp [hj])
  have sB : B ≤ wr.heap.size := Nat.le_trans hB ap.bel.size
  have G0 : Hid (Gq Q B wr.heap.size w wr (.slice ar K cr) K v n (.slice none 0 0) 0 0 (fun _ => .slice none 0 0) (fun j => n j + 64)) :=
    ⟨ap3, World.ownsRow_nil _ _ _ _, fun j hj => by omega, fun j hj => by omega, Nat.le_refl _, sB, fun j hj b e => ((ap3.pm j hj).lt b e).2, fun b e => (World.ownsRow.lt ap3.row b e).2, HAP.out, Nat.zero_le _, ap.bel.size⟩
  clear ap ap3
  generalize wr = w3 at *
  go_wp2
  go_loopg [5, 6] K (fun g gsv kv wr => ∃ (k : Nat) (u : Nat → Value) (ag : Option Addr) (cg : Nat), k + g = K ∧ gsv = .slice ag k cg ∧ kv = .int .i64 k ∧ Gq Q B w3.heap.size w wr (.slice ar K cr) K v n (.slice ag k cg) k k u (fun j => n j + 64))
  case atStart => exact ⟨0, _, none, 0, by omega, rfl, rfl, G0.out⟩
  case round =>
  obtain ⟨k, u, ag, cg, hk, rfl, rfl, gs⟩ := hrel
  have HK : Hid (k + gk = K) := hk
  by_cases hlt : k < K
  · obtain ⟨gr, cap, er, hcap, hcell⟩ := row_at gs.ap.row hlt
    simp only [Value.slice.injEq, true_and] at er
    obtain ⟨rfl, rfl⟩ := er
    have hnk := HN.out k hlt
    obtain ⟨nk, hnk'⟩ : ∃ nk, n k = nk := ⟨_, rfl⟩
    rw [hnk'] at hnk
    have HNK : Hid (n k = nk) := hnk'
    obtain ⟨Y0, ho0, hl0, hm0⟩ := gs.ap.pm k hlt
    rw [hnk'] at hl0 hm0
    obtain ⟨a0, c0, e0⟩ := own_slice ho0
    rw [hl0] at e0
    have HE0 : Hid (v k = .slice a0 nk c0) := e0
    rw [e0] at hcell ho0
    have HO0 : Hid (Own B wr (.slice a0 nk c0) Y0) := ho0
    have HL0 : Hid (Y0.length = nk) := hl0
    have HM0 : Hid (∀ t, t < nk → Y0.getD t 0 = mrk k t) := hm0
    have GS : Hid (Gq Q B w3.heap.size w wr (.slice (some ⟨gr, 0, none⟩) K cr) K v n (.slice ag k cg) k k u (fun j => n j + 64)) := gs
    have HUK : Hid (∀ j, j < k → ∀ b, (u j).ownBlock = some b → b < wr.heap.size) := fun j hj b e => ((gs.gp j hj).lt b e).2
    have hS3 : w3.heap.size ≤ wr.heap.size := gs.sz
    clear gs hk hnk' e0 ho0 hl0 hm0
    generalize wr = w4 at *
    go_wp2
    clear hcell
    go_loopg [7, 8] 64 (fun g x iv wq => ∃ (i : Nat) (Y : List Int) (ax : Option Addr) (cx : Nat), i + g = 64 ∧ x = .slice ax (nk + i) cx ∧ iv = .int .i64 i ∧ Own B wq (.slice ax (nk + i) cx) Y ∧ Y.length = nk + i ∧ (∀ t, t < nk + i → Y.getD t 0 = mrk k t) ∧
      ((Value.slice ax (nk + i) cx).ownBlock = (v k).ownBlock ∨ ∃ b, (Value.slice ax (nk + i) cx).ownBlock = some b ∧ w4.heap.size ≤ b) ∧ Gq Q B w3.heap.size w wq (.slice (some ⟨gr, 0, none⟩) K cr) K v n (.slice ag k cg) k k u (fun j => n j + 64) ∧ w4.heap.size ≤ wq.heap.size)
    case atStart => exact ⟨0, Y0, a0, c0, by omega, rfl, rfl, HO0.out, HL0.out, HM0.out, .inl (by rw [HE0.out]; rfl), GS.out, Nat.le_refl _⟩
    case round =>
      obtain ⟨i, Y, ax, cx, hi', rfl, rfl, ho, hl, hm, hxb, gs, hsz⟩ := hrel
      have HI : Hid (i + gk = 64) := hi'
      by_cases hil : i < 64
      · obtain ⟨_, _, er, -, hcell⟩ := row_at gs.ap.row hlt
        cases er
        rw [HE0.out] at hcell
        have HM : Hid (∀ W, Calls Tryz.prog 18 #[.int .i64 k, .int .i64 ((nk : Int) + (i : Int))] W fun e w' => e = .returned (.int .i64 (mrk k (nk + i))) ∧ w' = W) := fun W => by
          have := mark_any k (nk + i) W (by omega) (by omega)
          rwa [Int.natCast_add] at this
        have HO : Hid (Own B wr (.slice ax (nk + i) cx) Y) := ho
        have HL : Hid (Y.length = nk + i) := hl
        have HMM : Hid (∀ t, t < nk + i → Y.getD t 0 = mrk k t) := hm
        have HXB : Hid ((Value.slice ax (nk + i) cx).ownBlock = (v k).ownBlock ∨ ∃ b, (Value.slice ax (nk + i) cx).ownBlock = some b ∧ w4.heap.size ≤ b) := hxb
        have GS2 : Hid (Gq Q B w3.heap.size w wr (.slice (some ⟨gr, 0, none⟩) K cr) K v n (.slice ag k cg) k k u (fun j => n j + 64)) := gs
        have sBr : B ≤ wr.heap.size := Nat.le_trans gs.hB gs.sz
        clear ho hl hm hxb gs hi'
        obtain ⟨mk, hmk⟩ : ∃ mk, mrk k (nk + i) = mk := ⟨_, rfl⟩
        have HMK : Hid (mrk k (nk + i) = mk) := hmk
        rw [hmk] at HM
        clear hmk
        go_wp2_with fail
        refine (HM.out _).mono ?_
        rintro e wv ⟨rfl, hwv⟩
        rw [hwv]
        clear hwv wv
        go_wp2_with (at_builtin; refine wpList_append_two _ rfl _ _ 43 rfl B 3 i0 (.int .i64 0) 8 Tryz.underlying43 hi hz0 hz1 hz2 rfl _ Y.length (Y.map (Value.int .i64)) rfl (World.ownsRow.alloc HO.out _) ⟨wr.heap.size, 0, none⟩ 1 1 [.int .i64 mk] rfl rfl (cell_one_new _ _ _) (by simp [Value.oneCell']) (by omega) (by rw [HL.out]; unfold maxLen; omega) (by rw [HL.out]; omega) (by simp; omega) ?_; intro x' w' own' h2)
        obtain ⟨gs', ho', hxb'⟩ := GS2.out.app (nz := [mk]) hlt hS3 hsz HUK.out HO.out (by rw [HNK.out, HL.out]; omega) HXB.out (World.grownBy_alloc _ _ none) (by simp) own' h2
        obtain ⟨ax', cx', e'⟩ := own_slice ho'
        have hl' : (Y ++ [mk]).length = nk + (i + 1) := by rw [List.length_append, HL.out]; rfl
        rw [hl'] at e'
        subst e'
        have hm' : ∀ t, t < nk + (i + 1) → (Y ++ [mk]).getD t 0 = mrk k t := fun t ht => by
          by_cases e : t < nk + i
          · rw [← HMM.out t e, List.getD_eq_getElem?_getD, List.getD_eq_getElem?_getD, List.getElem?_append_left (by rw [HL.out]; exact e)]
          · obtain rfl : t = nk + i := by omega
            rw [HMK.out, List.getD_eq_getElem?_getD, ← HL.out, List.getElem?_concat_length]
            rfl
        have hsz' : w4.heap.size ≤ w'.heap.size := by
          have h0 : wr.heap.size ≤ (wr.alloc (.cells #[.int .i64 mk] 3)).heap.size := Nat.le_of_lt (szA _ _)
          rcases h2 with ⟨_, _, _, _, h3⟩ | ⟨_, h3⟩ <;> exact Nat.le_trans hsz (Nat.le_trans h0 h3.size)
        go_roundg (gk - 1)
        case measure => have := HI.out; omega
        case rel => exact ⟨i + 1, Y ++ [mk], ax', cx', by have := HI.out; omega, rfl, by go_num, ho', hl', hm', hxb', gs', hsz'⟩
      · obtain rfl : i = 64 := by omega
        clear hi' hil
        have PX : Hid (Pm B wr (.slice ax (nk + 64) cx) k (n k + 64) (n k + 64)) := ⟨Y, ho, by rw [HNK.out]; exact hl, by rw [HNK.out]; exact hm⟩
        have HXB : Hid ((Value.slice ax (nk + 64) cx).ownBlock = (v k).ownBlock ∨ ∃ b, (Value.slice ax (nk + 64) cx).ownBlock = some b ∧ w3.heap.size ≤ b) := by
          rcases hxb with q | ⟨b, q, hb⟩
          · exact .inl q
          · exact .inr ⟨b, q, Nat.le_trans hS3 hb⟩
        have GS2 : Hid (Gq Q B w3.heap.size w wr (.slice (some ⟨gr, 0, none⟩) K cr) K v n (.slice ag k cg) k k u (fun j => n j + 64)) := gs
        have sS : w3.heap.size ≤ wr.heap.size := gs.sz
        clear ho hl hm hxb gs
        go_wp2_with (at_builtin; refine wpList_append_own _ rfl _ _ 22 rfl w3.heap.size 43 iL (.slice none 0 0) 1 24 Tryz.underlying22 hiL hL0 hL1 hL2 rfl (by decide) _ k ((List.range k).map u) rfl (World.ownsRow.alloc GS2.out.grow _) ⟨wr.heap.size, 0, none⟩ 1 1 [.slice ax (nk + 64) cx] rfl rfl (cell_one_new _ _ _) (by simp [Value.oneCell']) (by unfold maxLen; omega) (by omega) (by simp; omega) ?_; intro gr' w' own' gr2 hn')
        have gs' := GS2.out.push hlt (World.grownBy_alloc _ _ none) own' gr2 PX.out HXB.out
        obtain ⟨ag', cg', e'⟩ := row_slice own'
        subst e'
        go_roundg (K - k - 1)
        case measure => have := HK.out; omega
        case rel => exact ⟨k + 1, _, ag', cg', by have := HK.out; omega, rfl, by go_num, gs'⟩
  have e : K = k := by omega
  subst e
  clear hk hlt HK G0
  have G5 : Hid (Gq Q B w3.heap.size w wr (.slice ar K cr) K v n (.slice ag K cg) K K u (fun j => n j + 64)) := gs
  clear gs
  generalize wr = w5 at *
  go_wp2
  go_loopg [9] K (fun g kv wr => ∃ k : Nat, k + g = K ∧ kv = .int .i64 k ∧ Gq Q B w3.heap.size w wr (.slice ar K cr) K v n (.slice ag K cg) K K u (fun j => n j + 64))
  case atStart => exact ⟨0, by omega, rfl, G5.out⟩
  case round =>
  obtain ⟨k, hk, rfl, gs⟩ := hrel
  have HK : Hid (k + gk = K) := hk
  by_cases hlt : k < K
  · obtain ⟨gr, cap, er, hcap, -⟩ := row_at gs.ap.row hlt
    simp only [Value.slice.injEq, true_and] at er
    obtain ⟨rfl, rfl⟩ := er
    obtain ⟨gg, cap', er, hcap', -⟩ := row_at gs.grow hlt
    simp only [Value.slice.injEq, true_and] at er
    obtain ⟨rfl, rfl⟩ := er
    have hnk := HN.out k hlt
    obtain ⟨nk, hnk'⟩ : ∃ nk, n k = nk := ⟨_, rfl⟩
    rw [hnk'] at hnk
    have HNK : Hid (n k = nk) := hnk'
    obtain ⟨av, cv, ev⟩ := (gs.ap.pm k hlt).slice
    obtain ⟨au, cu, eu⟩ := (gs.gp k hlt).slice
    rw [hnk'] at ev eu
    have HEV : Hid (v k = .slice av nk cv) := ev
    have HEU : Hid (u k = .slice au (nk + 64) cu) := eu
    have GS : Hid (Gq Q B w3.heap.size w wr (.slice (some ⟨gr, 0, none⟩) K cr) K v n (.slice (some ⟨gg, 0, none⟩) K cg) K K u (fun j => n j + 64)) := gs
    clear gs hk hnk' ev eu
    go_wp2
    go_loopg [10] (nk + 64) (fun g iv wq => ∃ i : Nat, i + g = nk + 64 ∧ iv = .int .i64 i ∧ Gq Q B w3.heap.size w wq (.slice (some ⟨gr, 0, none⟩) K cr) K v n (.slice (some ⟨gg, 0, none⟩) K cg) K K u (fun j => n j + 64))
    case atStart => exact ⟨0, by omega, rfl, GS.out⟩
    case round =>
      obtain ⟨i, hi', rfl, gs⟩ := hrel
      have HI : Hid (i + gk = nk + 64) := hi'
      obtain ⟨_, _, er, -, hcv⟩ := row_at gs.ap.row hlt
      cases er
      obtain ⟨_, _, er, -, hcu⟩ := row_at gs.grow hlt
      cases er
      rw [HEV.out] at hcv
      rw [HEU.out] at hcu
      have GS2 : Hid (Gq Q B w3.heap.size w wr (.slice (some ⟨gr, 0, none⟩) K cr) K v n (.slice (some ⟨gg, 0, none⟩) K cg) K K u (fun j => n j + 64)) := gs
      by_cases hil : i < nk + 64
      · obtain ⟨ug, uc, e1, hc1, hx1⟩ := (gs.gp k hlt).cell (i := i) (by rw [HNK.out]; exact hil) (by show i < n k + 64; rw [HNK.out]; exact hil)
        rw [HEU.out, HNK.out] at e1
        cases e1
        rw [HNK.out] at hc1
        have HM : Hid (∀ W, Calls Tryz.prog 18 #[.int .i64 k, .int .i64 i] W fun e w' => e = .returned (.int .i64 (mrk k i)) ∧ w' = W) := fun W => mark_any k i W (by omega) (by omega)
        by_cases hiv : i < nk
        · obtain ⟨vg, vc, e2, hc2, hx2⟩ := (gs.ap.pm k hlt).cell (i := i) (by rw [HNK.out]; exact hiv) (by rw [HNK.out]; exact hiv)
          rw [HEV.out, HNK.out] at e2
          cases e2
          rw [HNK.out] at hc2
          clear gs hi'
          generalize mrk k i = mk at *
          go_wp2
          go_quiet ((go_at_call 18; exact Calls.quiet_of_same (HM.out _)))
          go_wp2
          go_roundg (gk - 1)
          case measure => have := HI.out; omega
          case rel => exact ⟨i + 1, by have := HI.out; omega, by go_num, GS2.out.drewN _⟩
        · have hdv : decide (i < nk) = false := decide_eq_false hiv
          have hdv' : decide ((i : Int) < (nk : Int)) = false := decide_eq_false (by omega)
          clear gs hi'
          generalize mrk k i = mk at *
          go_wp2
          go_quiet ((go_at_call 18; exact Calls.quiet_of_same (HM.out _)))
          go_wp2
          go_roundg (gk - 1)
          case measure => have := HI.out; omega
          case rel => exact ⟨i + 1, by have := HI.out; omega, by go_num, GS2.out.drewN _⟩
      · obtain rfl : i = nk + 64 := by omega
        clear gs hi' hil
        go_wp2
        go_roundg (K - k - 1)
        case measure => have := HK.out; omega
        case rel => exact ⟨k + 1, by have := HK.out; omega, by go_num, GS2.out⟩
  have e : K = k := by omega
  subst e
  clear hk hlt HK G5
  have G7 : Hid (Gq Q B w3.heap.size w wr (.slice ar K cr) K v n (.slice ag K cg) K 0 u n) := ⟨gs.ap, gs.grow, fun j hj => by omega, fun j hj => by omega, gs.sz, gs.hB, gs.vb, gs.rb, gs.hap, Nat.zero_le _, gs.sw⟩
  clear gs
  generalize wr = w6 at *
  go_wp2
  go_loopg [11] K (fun g kv wr => ∃ (k : Nat) (u : Nat → Value), k + g = K ∧ kv = .int .i64 k ∧ Gq Q B w3.heap.size w wr (.slice ar K cr) K v n (.slice ag K cg) K k u n)
  case atStart => exact ⟨0, u, by omega, rfl, G7.out⟩
  case round =>
  clear G7
  obtain ⟨k, u, hk, rfl, gs⟩ := hrel
  have HK : Hid (k + gk = K) := hk
  by_cases hlt : k < K
  · obtain ⟨gr, cap, er, hcap, -⟩ := row_at gs.ap.row hlt
    simp only [Value.slice.injEq, true_and] at er
    obtain ⟨rfl, rfl⟩ := er
    obtain ⟨gg, cap', er, hcap', -⟩ := row_at gs.grow hlt
    simp only [Value.slice.injEq, true_and] at er
    obtain ⟨rfl, rfl⟩ := er
    have hnk := HN.out k hlt
    obtain ⟨nk, hnk'⟩ : ∃ nk, n k = nk := ⟨_, rfl⟩
    rw [hnk'] at hnk
    have HNK : Hid (n k = nk) := hnk'
    have GS : Hid (Gq Q B w3.heap.size w wr (.slice (some ⟨gr, 0, none⟩) K cr) K v n (.slice (some ⟨gg, 0, none⟩) K cg) K k u n) := gs
    have HUK : Hid (∀ j, j < k → ∀ b, (u j).ownBlock = some b → b < wr.heap.size) := fun j hj b e => ((gs.gp j hj).lt b e).2
    have hS3 : w3.heap.size ≤ wr.heap.size := gs.sz
    clear gs hk hnk'
    generalize wr = w7 at *
    go_wp2
    go_loopg [12, 13] 64 (fun g mv iv wq => ∃ (i : Nat) (am : Option Addr) (cm : Nat), i + g = 64 ∧ mv = .slice am i cm ∧ iv = .int .i64 i ∧ Own w7.heap.size wq (.slice am i cm) ((List.range i).map (fun t => mrk (k + K) t)) ∧
      Gq Q B w3.heap.size w wq (.slice (some ⟨gr, 0, none⟩) K cr) K v n (.slice (some ⟨gg, 0, none⟩) K cg) K k u n ∧ w7.heap.size ≤ wq.heap.size)
    case atStart => exact ⟨0, none, 0, by omega, rfl, rfl, World.ownsRow_nil _ _ _ _, GS.out, Nat.le_refl _⟩
    case round =>
      obtain ⟨i, am, cm, hi', rfl, rfl, ho, gs, hsz⟩ := hrel
      have HI : Hid (i + gk = 64) := hi'
      have HO : Hid (Own w7.heap.size wr (.slice am i cm) ((List.range i).map (fun t => mrk (k + K) t))) := ho
      have GS2 : Hid (Gq Q B w3.heap.size w wr (.slice (some ⟨gr, 0, none⟩) K cr) K v n (.slice (some ⟨gg, 0, none⟩) K cg) K k u n) := gs
      by_cases hil : i < 64
      · have HM : Hid (∀ W, Calls Tryz.prog 18 #[.int .i64 ((k : Int) + (K : Int)), .int .i64 i] W fun e w' => e = .returned (.int .i64 (mrk (k + K) i)) ∧ w' = W) := fun W => by
          have := mark_any (k + K) i W (by omega) (by omega)
          rwa [Int.natCast_add] at this
        clear ho gs hi'
        obtain ⟨mk, hmk⟩ : ∃ mk, mrk (k + K) i = mk := ⟨_, rfl⟩
        have HMK : Hid (mrk (k + K) i = mk) := hmk
        rw [hmk] at HM
        clear hmk
        obtain ⟨ms, hms⟩ : ∃ ms, (List.range i).map (fun t => mrk (k + K) t) = ms := ⟨_, rfl⟩
        have HMS : Hid ((List.range i).map (fun t => mrk (k + K) t) = ms) := hms
        have HML : Hid (ms.length = i) := by show _ = _; rw [← hms]; simp
        rw [hms] at HO
        clear hms
        go_wp2_with fail
        refine (HM.out _).mono ?_
        rintro e wv ⟨rfl, hwv⟩
        rw [hwv]
        clear hwv wv
        go_wp2_with (at_builtin; refine wpList_append_own _ rfl _ _ 43 rfl w7.heap.size 3 i0 (.int .i64 0) 1 8 Tryz.underlying43 hi hz0 hz1 hz2 rfl (by decide) _ ms.length (ms.map (Value.int .i64)) rfl (World.ownsRow.alloc HO.out _) ⟨wr.heap.size, 0, none⟩ 1 1 [.int .i64 mk] rfl rfl (cell_one_new _ _ _) (by simp [Value.oneCell']) (by rw [HML.out]; unfold maxLen; omega) (by rw [HML.out]; omega) (by simp; omega) ?_; intro x' w' own' gr2 hn')
        have gs' := GS2.out.side hS3 HUK.out (World.grownBy_alloc _ _ none) (World.ownsRow.alloc HO.out _) gr2
        have hsz' : w7.heap.size ≤ w'.heap.size := Nat.le_trans (Nat.le_trans hsz (Nat.le_of_lt (szA _ _))) gr2.size
        have ho' : Own w7.heap.size w' x' ((List.range (i + 1)).map (fun t => mrk (k + K) t)) := by
          rw [List.range_succ, List.map_append, HMS.out, List.map_cons, List.map_nil, HMK.out]
          unfold Own
          rw [List.length_append, List.map_append]
          exact own'
        obtain ⟨am', cm', e'⟩ := own_slice ho'
        have hl' : ((List.range (i + 1)).map (fun t => mrk (k + K) t)).length = i + 1 := by simp
        rw [hl'] at e'
        subst e'
        go_roundg (gk - 1)
        case measure => have := HI.out; omega
        case rel => exact ⟨i + 1, am', cm', by have := HI.out; omega, rfl, by go_num, ho', gs', hsz'⟩
      · obtain rfl : i = 64 := by omega
        clear hi' hil HI
        obtain ⟨_, _, er, -, hcv⟩ := row_at gs.ap.row hlt
        cases er
        obtain ⟨Y, hoY, hlY, hmY⟩ := gs.ap.pm k hlt
        obtain ⟨av, cv, ev⟩ := own_slice hoY
        rw [hlY, HNK.out] at ev
        have HEV : Hid (v k = .slice av nk cv) := ev
        rw [ev] at hcv hoY
        have HOY : Hid (Own B wr (.slice av nk cv) Y) := hoY
        have HLY : Hid (Y.length = nk) := by show _ = _; rw [hlY]; exact HNK.out
        have HMY : Hid (∀ t, t < n k → Y.getD t 0 = mrk k t) := hmY
        obtain ⟨ms, hms⟩ : ∃ ms, (List.range 64).map (fun t => mrk (k + K) t) = ms := ⟨_, rfl⟩
        have HML : Hid (ms.length = 64) := by show _ = _; rw [← hms]; simp
        rw [hms] at HO ho
        obtain ⟨gm, cm', em, -, hgm, hbm, hcm, -⟩ := trown_holds ho (by intro h; have := HML.out; rw [h] at this; cases this)
        rw [HML.out] at em
        cases em
        have HNW : Hid (∀ j u, (ms.map (Value.int .i64))[j]? = some u → wr.cell? ((⟨gm, 0, none⟩ : Addr).add j) = some u) := World.ownsRow.cells ho rfl
        have sBr : B ≤ wr.heap.size := Nat.le_trans gs.hB gs.sz
        clear ho gs hoY hlY hmY hms ev
        go_wp2_with (at_builtin; refine wpList_append_two _ rfl _ _ 43 rfl B 3 i0 (.int .i64 0) 8 Tryz.underlying43 hi hz0 hz1 hz2 rfl _ Y.length (Y.map (Value.int .i64)) rfl HOY.out ⟨gm, 0, none⟩ 64 cm (ms.map (Value.int .i64)) rfl (by rw [List.length_map]; exact HML.out) HNW.out (ints_oneCell' ms) (by omega) (by rw [HLY.out]; unfold maxLen; omega) (by rw [HLY.out]; omega) sBr ?_; intro x' w' own' h2; have own2 : w'.ownsRow B 3 1 x' (Y.length + ms.length) (Y.map (Value.int .i64) ++ ms.map (Value.int .i64)) := (by rw [HML.out]; exact own'); obtain ⟨gs', ho', hxb'⟩ := GS2.out.app (nz := ms) (wa := wr) (Sk := w7.heap.size) hlt hS3 hsz HUK.out HOY.out (Nat.le_of_eq (by rw [HNK.out, HLY.out])) (.inl (congrArg Value.ownBlock HEV.out.symm)) ⟨rfl, rfl, rfl, Nat.le_refl _, fun _ _ _ => rfl⟩ (by rw [HML.out]; omega) own2 (by rw [HML.out]; exact h2); obtain ⟨ax', cx', e'⟩ := own_slice ho'; rw [List.length_append, HLY.out, HML.out] at e'; subst e'; obtain ⟨_, _, er, -, hcu⟩ := row_at gs'.grow hlt; cases er; have hfu := gs'.grow.frozenAt k; have GS3 : Hid (Gq Q B w3.heap.size w w' (.slice (some ⟨gr, 0, none⟩) K cr) K v n (.slice (some ⟨gg, 0, none⟩) K cg) K k u n) := gs'; clear gs' own' own2 h2)
        have PX : Pm B w' (.slice ax' (nk + 64) cx') k (n k + 64) (n k) := ⟨Y ++ ms, ho', by rw [List.length_append, HLY.out, HML.out, HNK.out], fun t ht => by
          rw [← HMY.out t ht, List.getD_eq_getElem?_getD, List.getD_eq_getElem?_getD, List.getElem?_append_left (by rw [HLY.out, ← HNK.out]; exact ht)]⟩
        have gs4 := GS3.out.put hlt PX (by
          rcases hxb' with q | ⟨b, q, hb⟩
          · exact .inl q
          · exact .inr ⟨b, q, Nat.le_trans hS3 hb⟩)
        go_roundg (K - k - 1)
        case measure => have := HK.out; omega
        case rel => exact ⟨k + 1, _, by have := HK.out; omega, by go_num, gs4⟩
  have e : K = k := by omega
  subst e
  clear hk hlt HK
  have G9 : Hid (Gq Q B w3.heap.size w wr (.slice ar K cr) K v n (.slice ag K cg) K K u n) := gs
  clear gs
  generalize wr = w8 at *
  go_wp2
  go_loopg [14] K (fun g kv wr => ∃ k : Nat, k + g = K ∧ kv = .int .i64 k ∧ Gq Q B w3.heap.size w wr (.slice ar K cr) K v n (.slice ag K cg) K K u n)
  case atStart => exact ⟨0, by omega, rfl, G9.out⟩
  case round =>
  obtain ⟨k, hk, rfl, gs⟩ := hrel
  have HK : Hid (k + gk = K) := hk
  by_cases hlt : k < K
  · obtain ⟨gr, cap, er, hcap, -⟩ := row_at gs.ap.row hlt
    simp only [Value.slice.injEq, true_and] at er
    obtain ⟨rfl, rfl⟩ := er
    obtain ⟨gg, cap', er, hcap', -⟩ := row_at gs.grow hlt
    simp only [Value.slice.injEq, true_and] at er
    obtain ⟨rfl, rfl⟩ := er
    have hnk := HN.out k hlt
    obtain ⟨nk, hnk'⟩ : ∃ nk, n k = nk := ⟨_, rfl⟩
    rw [hnk'] at hnk
    have HNK : Hid (n k = nk) := hnk'
    obtain ⟨av, cv, ev⟩ := (gs.ap.pm k hlt).slice
    obtain ⟨au, cu, eu⟩ := (gs.gp k hlt).slice
    rw [hnk'] at ev eu
    have HEV : Hid (v k = .slice av nk cv) := ev
    have HEU : Hid (u k = .slice au (nk + 64) cu) := eu
    have GS : Hid (Gq Q B w3.heap.size w wr (.slice (some ⟨gr, 0, none⟩) K cr) K v n (.slice (some ⟨gg, 0, none⟩) K cg) K K u n) := gs
    clear gs hk hnk' ev eu
    go_wp2
    go_loopg [15] nk (fun g iv wq => ∃ i : Nat, i + g = nk ∧ iv = .int .i64 i ∧ Gq Q B w3.heap.size w wq (.slice (some ⟨gr, 0, none⟩) K cr) K v n (.slice (some ⟨gg, 0, none⟩) K cg) K K u n)
    case atStart => exact ⟨0, by omega, rfl, GS.out⟩
    case round =>
      obtain ⟨i, hi', rfl, gs⟩ := hrel
      have HI : Hid (i + gk = nk) := hi'
      obtain ⟨_, _, er, -, hcv⟩ := row_at gs.ap.row hlt
      cases er
      obtain ⟨_, _, er, -, hcu⟩ := row_at gs.grow hlt
      cases er
      rw [HEV.out] at hcv
      rw [HEU.out] at hcu
      have GS2 : Hid (Gq Q B w3.heap.size w wr (.slice (some ⟨gr, 0, none⟩) K cr) K v n (.slice (some ⟨gg, 0, none⟩) K cg) K K u n) := gs
      by_cases hil : i < nk
      · obtain ⟨ug, uc, e1, hc1, hx1⟩ := (gs.gp k hlt).cell (i := i) (by rw [HNK.out]; omega) (by rw [HNK.out]; exact hil)
        rw [HEU.out, HNK.out] at e1
        cases e1
        rw [HNK.out] at hc1
        have HM : Hid (∀ W, Calls Tryz.prog 18 #[.int .i64 k, .int .i64 i] W fun e w' => e = .returned (.int .i64 (mrk k i)) ∧ w' = W) := fun W => mark_any k i W (by omega) (by omega)
        obtain ⟨vg, vc, e2, hc2, hx2⟩ := (gs.ap.pm k hlt).cell (i := i) (by rw [HNK.out]; exact hil) (by rw [HNK.out]; exact hil)
        rw [HEV.out, HNK.out] at e2
        cases e2
        rw [HNK.out] at hc2
        clear gs hi'
        generalize mrk k i = mk at *
        go_wp2
        go_quiet ((go_at_call 18; exact Calls.quiet_of_same (HM.out _)))
        go_wp2
        go_roundg (gk - 1)
        case measure => have := HI.out; omega
        case rel => exact ⟨i + 1, by have := HI.out; omega, by go_num, GS2.out.drewN _⟩
      · have e : nk = i := by omega
        subst e
        clear gs hi' hil
        go_wp2
        go_roundg (K - k - 1)
        case measure => have := HK.out; omega
        case rel => exact ⟨k + 1, by have := HK.out; omega, by go_num, GS2.out⟩
  have e : K = k := by omega
  subst e
  clear hk hlt HK
  have BE : Hid (Below B w wr ∧ ∀ k, Q k → wr.heap[k]? = w.heap[k]?) := ⟨gs.ap.bel, gs.ap.kp⟩
  clear gs
  go_wp2
  go_ret
  exact ⟨rfl, BE.out⟩

end Go.Proofs.YtlkbbbbclmffjaaGreatDoor
set_option linter.unusedSimpArgs false
set_option linter.unusedVariables false
namespace Go.Proofs.YtlkbbbbclmffjaaGreatDoor
open Go Go.RowKit Go.Shelf

attribute [local go_sem] Oper.semAt_some

/-- no block of numbers -/
def NI (w : World) (g : Nat) : Prop := ∀ c f, w.heap[g]? ≠ some (.cells c 3 f)
theorem row_ni {B n : Nat} {e : TypeId} {w : World} {v : Value} {xs : List Value} (h : w.ownsRow B e 1 v n xs) (hne : e ≠ 3) : ∀ g, v.ownBlock = some g → NI w g := fun g hg c f hc => by
  rcases h.2 with ⟨rfl, _⟩ | ⟨g', cap, cur, rfl, _, hh, _⟩
  · cases hg
  · cases hg
    rw [hh] at hc
    injection hc with hc
    injection hc with _ h2
    exact hne h2
theorem own_keptN {B : Nat} {w w' : World} {u : Value} {Z : List Int} {row : Option Nat} (h : Own B w u Z) (hg : w.grownBy w' row) (hn : ∀ g, row = some g → NI w g) : Own B w' u Z := by
  refine World.ownsRow.kept h hg ?_
  cases e : u.ownBlock with
  | none => exact .inl rfl
  | some b =>
    refine .inr fun e' => ?_
    rcases h.2 with ⟨rfl, _⟩ | ⟨g', cap, cur, rfl, _, hh, _⟩
    · cases e
    · cases e
      exact hn _ e'.symm _ _ hh
def OwnV (B : Nat) (w : World) (v : Value) (Y : List Value) : Prop := w.ownsRow B 43 1 v Y.length Y
theorem ownv_slice {B : Nat} {w : World} {x : Value} {Y : List Value} (h : OwnV B w x Y) : ∃ a c, x = .slice a Y.length c := row_slice h
/-- the first c bear their marks -/
def Mks (B : Nat) (w : World) (Y : List Value) (k c : Nat) : Prop := ∀ t, t < c → ∃ u, Y[t]? = some u ∧ Own B w u [mrk k t]
theorem Mks.kept {B k c : Nat} {w w' : World} {Y : List Value} {row : Option Nat} (h : Mks B w Y k c) (hg : w.grownBy w' row) (hn : ∀ g, row = some g → NI w g) : Mks B w' Y k c := fun t ht => by
  obtain ⟨u, h1, h2⟩ := h t ht
  exact ⟨u, h1, own_keptN h2 hg hn⟩
theorem Mks.snoc {B k c : Nat} {w : World} {Y : List Value} {u : Value} (h : Mks B w Y k c) (hY : Y.length = c) (hu : Own B w u [mrk k c]) : Mks B w (Y ++ [u]) k (c + 1) := fun t ht => by
  by_cases e : t < c
  · obtain ⟨x, h1, h2⟩ := h t e
    exact ⟨x, by rw [List.getElem?_append_left (by omega)]; exact h1, h2⟩
  · obtain rfl : t = c := by omega
    exact ⟨u, by rw [← hY, List.getElem?_concat_length], hu⟩
def Pmr (B : Nat) (w : World) (v : Value) (k n c : Nat) : Prop := ∃ Y : List Value, OwnV B w v Y ∧ Y.length = n ∧ Mks B w Y k c
section
variable {B : Nat} {w w' : World} {v : Value} {k n c : Nat}
theorem Pmr.slice (h : Pmr B w v k n c) : ∃ a cap, v = .slice a n cap := by
  obtain ⟨Y, ho, rfl, -⟩ := h
  exact ownv_slice ho
theorem Pmr.place {i : Nat} (h : Pmr B w v k n c) (hi : i < n) : ∃ g cap y, v = .slice (some ⟨g, 0, none⟩) n cap ∧ B ≤ g ∧ n ≤ cap ∧ w.cell? ⟨g, i, none⟩ = some y ∧ w.frozen? ⟨g, i, none⟩ = false := by
  obtain ⟨Y, ho, rfl, -⟩ := h
  obtain ⟨g, cap, e, h1, h2, h3⟩ := row_some ho (by omega)
  subst e
  exact ⟨g, cap, Y[i], rfl, (World.ownsRow.lt ho g rfl).1, h1, row_cell ho (List.getElem?_eq_getElem hi), row_fz ho _⟩
theorem Pmr.cell {i : Nat} (h : Pmr B w v k n c) (hi : i < n) (hc : i < c) : ∃ g cap gu cu, v = .slice (some ⟨g, 0, none⟩) n cap ∧ n ≤ cap ∧ w.cell? ⟨g, i, none⟩ = some (.slice (some ⟨gu, 0, none⟩) 1 cu) ∧ 1 ≤ cu ∧ w.cell? ⟨gu, 0, none⟩ = some (.int .i64 (mrk k i)) := by
  obtain ⟨Y, ho, rfl, hm⟩ := h
  obtain ⟨g, cap, e, h1, h2, h3⟩ := row_some ho (by omega)
  subst e
  obtain ⟨u, h4, h5⟩ := hm i hc
  obtain ⟨gu, cu, e, h6, -, -⟩ := row_some h5 (by simp)
  have e' : u = .slice (some ⟨gu, 0, none⟩) 1 cu := e
  subst e'
  exact ⟨g, cap, gu, cu, rfl, h1, row_cell ho h4, h6, row_cell h5 (j := 0) rfl⟩
theorem Pmr.store {g cap i : Nat} {u : Value} (h : Pmr B w (.slice (some ⟨g, 0, none⟩) n cap) k n i) (hi : i < n) (hu : Own B w u [mrk k i]) : Pmr B (w.setCell ⟨g, i, none⟩ u) (.slice (some ⟨g, 0, none⟩) n cap) k n (i + 1) := by
  obtain ⟨Y, ho, rfl, hm⟩ := h
  have hni := row_ni ho (by decide) g rfl
  have hg := grown_set w ⟨g, i, none⟩ u
  have hk : ∀ {x : Value} {Z : List Int}, Own B w x Z → Own B (w.setCell ⟨g, i, none⟩ u) x Z := fun h => own_keptN h hg (fun g' e => by simp at e; subst e; exact hni)
  refine ⟨Y.set i u, ?_, by rw [List.length_set], fun t ht => ?_⟩
  · unfold OwnV
    rw [List.length_set]
    exact own_cell (k := i) ho (by omega) u
  · by_cases e : i = t
    · subst e
      exact ⟨u, List.getElem?_set_self hi, hk hu⟩
    · obtain ⟨x, h1, h2⟩ := hm t (by omega)
      exact ⟨x, by rw [List.getElem?_set_ne e]; exact h1, hk h2⟩
theorem Pmr.setOther {g i : Nat} (h : Pmr B w v k n c) (hne : v.ownBlock ≠ some g) (hni : NI w g) (x : Value) : Pmr B (w.setCell ⟨g, i, none⟩ x) v k n c := by
  obtain ⟨Y, ho, hY, hm⟩ := h
  exact ⟨Y, ownsRow_setCell_other ho (a := ⟨g, i, none⟩) hne x, hY, hm.kept (grown_set w ⟨g, i, none⟩ x) (fun g' e => by simp at e; subst e; exact hni)⟩
theorem Pmr.kept {row : Option Nat} (h : Pmr B w v k n c) (hg : w.grownBy w' row) (hne : v.ownBlock = none ∨ v.ownBlock ≠ row) (hni : ∀ g, row = some g → NI w g) : Pmr B w' v k n c := by
  obtain ⟨Y, ho, hY, hm⟩ := h
  exact ⟨Y, World.ownsRow.kept ho hg hne, hY, hm.kept hg hni⟩
theorem Pmr.less {c' : Nat} (h : Pmr B w v k n c) (hc : c' ≤ c) : Pmr B w v k n c' := by
  obtain ⟨Y, ho, hY, hm⟩ := h
  exact ⟨Y, ho, hY, fun t ht => hm t (by omega)⟩
theorem Pmr.lt (h : Pmr B w v k n c) : ∀ b, v.ownBlock = some b → B ≤ b ∧ b < w.heap.size := by
  obtain ⟨Y, ho, hY, hm⟩ := h
  exact World.ownsRow.lt ho
end
theorem cell_one_newr {w : World} (o : Obj) (x : Value) (t : TypeId) : ∀ j y, [x][j]? = some y → ((w.alloc o).alloc (.cells #[x] t)).cell? ((⟨w.heap.size + 1, 0, none⟩ : Addr).add j) = some y := fun j y hy => by
  rw [Addr.add_lit]
  have hh := World.alloc_heap_new (w.alloc o) (.cells #[x] t)
  rw [World.size_alloc] at hh
  show (match ((w.alloc o).alloc (.cells #[x] t)).heap[w.heap.size + 1]? with | some (Obj.cells c elem frozen) => c[0 + j]? | x => none) = _
  rw [hh]
  simpa using hy
theorem no_row {w : World} : ∀ g, (none : Option Nat) = some g → NI w g := fun g e => by cases e
end Go.Proofs.YtlkbbbbclmffjaaGreatDoor
set_option linter.unusedSimpArgs false
set_option linter.unusedVariables false
namespace Go.Proofs.YtlkbbbbclmffjaaGreatDoor
open Go Go.RowKit Go.Shelf

/-- a row of lists that lie apart, the first places of each marked -/
structure Aqr (Q : Nat → Prop) (B : Nat) (w wr : World) (rv : Value) (K : Nat) (v : Nat → Value) (n c : Nat → Nat) : Prop where
  row : wr.ownsRow B 22 1 rv K ((List.range K).map v)
  pm : ∀ j, j < K → Pmr B wr (v j) j (n j) (c j)
  bel : Below B w wr
  ko : KeepsOthers w wr
  kp : ∀ k, Q k → wr.heap[k]? = w.heap[k]?
  qv : ∀ j, j < K → ∀ b, (v j).ownBlock = some b → ¬ Q b
  qs : ∀ k, Q k → k < w.heap.size
theorem Aqr.weaken {Q : Nat → Prop} {B : Nat} {w wr : World} {rv : Value} {K : Nat} {v : Nat → Value} {n c c' : Nat → Nat} (h : Aqr Q B w wr rv K v n c) (hc : ∀ j, j < K → c' j ≤ c j) : Aqr Q B w wr rv K v n c' :=
  ⟨h.row, fun j hj => (h.pm j hj).less (hc j hj), h.bel, h.ko, h.kp, h.qv, h.qs⟩
theorem Aqr.drew {Q : Nat → Prop} {B : Nat} {w wr : World} {rv : Value} {K : Nat} {v : Nat → Value} {n c : Nat → Nat} (h : Aqr Q B w wr rv K v n c) : Aqr Q B w wr.drew rv K v n c := ⟨h.row, h.pm, h.bel.drew, ⟨h.ko.size, h.ko.same⟩, h.kp, h.qv, h.qs⟩
theorem row_atr {B K k : Nat} {wr : World} {rv : Value} {v : Nat → Value} (h : wr.ownsRow B 22 1 rv K ((List.range K).map v)) (hk : k < K) :
    ∃ g cap, rv = .slice (some ⟨g, 0, none⟩) K cap ∧ K ≤ cap ∧ wr.cell? ⟨g, k, none⟩ = some (v k) := by
  rcases h.2 with ⟨_, hn⟩ | ⟨g, cap, cur, hv, hb, hh, hnc, hcm, hcs, ht⟩
  · omega
  · subst hv
    refine ⟨g, cap, rfl, hnc, (h.cellAt k (by omega)).trans ?_⟩
    simp [hk]
theorem Aqr.new {Q : Nat → Prop} {B : Nat} {w wr w' : World} {rv : Value} {K : Nat} {v : Nat → Value} {n c : Nat → Nat} (h : Aqr Q B w wr rv K v n c) (hB : B ≤ wr.heap.size) (hg : wr.grownBy w' none) : Aqr Q B w w' rv K v n c :=
  ⟨World.ownsRow.kept h.row hg (none_or _), fun j hj => (h.pm j hj).kept hg (none_or _) no_row, h.bel.grown hg hB (fun b e => by cases e), h.ko.trans (KeepsOthers.of_grownBy hg (fun j o e => by cases e)), fun q hq => (hg.block q (Nat.lt_of_lt_of_le (h.qs q hq) h.bel.size) (by simp)).trans (h.kp q hq), h.qv, h.qs⟩
theorem Aqr.mark {Q : Nat → Prop} {B : Nat} {w wr : World} {rv : Value} {K : Nat} {v : Nat → Value} {n c : Nat → Nat} (h : Aqr Q B w wr rv K v n c)
    (hap : ∀ i j, i < K → j < K → i ≠ j → (v i).ownBlock = none ∨ (v i).ownBlock ≠ (v j).ownBlock) {k i : Nat} (hk : k < K) (hc : c k = i) (hi : i < n k) {x : Value} (hx : Own B wr x [mrk k i]) :
    ∃ g cap y, v k = .slice (some ⟨g, 0, none⟩) (n k) cap ∧ n k ≤ cap ∧ wr.cell? ⟨g, i, none⟩ = some y ∧ wr.frozen? ⟨g, i, none⟩ = false ∧
      Aqr Q B w (wr.setCell ⟨g, i, none⟩ x) rv K v n (fun j => if j = k then i + 1 else c j) := by
  have hp := h.pm k hk
  obtain ⟨g, cap, y, e, hg, hcap, h1, h2⟩ := hp.place hi
  have hni : NI wr g := by obtain ⟨Y, ho, -, -⟩ := hp; exact row_ni ho (by decide) g (by rw [e]; rfl)
  refine ⟨g, cap, y, e, hcap, h1, h2, ?_, fun j hj => ?_, h.bel.setCell (p := ⟨g, i, none⟩) hg _, h.ko.trans (KeepsOthers.setCell _ _ _), fun q hq => (heap_other (W := wr) ⟨g, i, none⟩ _ (fun e9 => h.qv k hk g (by rw [e]; rfl) (by rw [show g = q from e9]; exact hq))).trans (h.kp q hq), h.qv, h.qs⟩
  · obtain ⟨Y, ho, -, -⟩ := hp
    exact ownsRow_setCell_other h.row (a := ⟨g, i, none⟩) (block_apart (by decide) h.row ho (by rw [e]; rfl)) _
  · by_cases ej : j = k
    · subst ej
      rw [if_pos rfl, e]
      rw [e, hc] at hp
      exact hp.store hi hx
    · rw [if_neg ej]
      refine (h.pm j hj).setOther (fun e' => ?_) hni _
      rcases hap j k hj hk ej with q | q
      · rw [q] at e'; cases e'
      · rw [e', e] at q; exact q rfl

theorem Pmr.prefix {B : Nat} {w w' : World} {v0 : Value} {k n0 c g cap m : Nat} {Y : List Value} {news : List Value} (h0 : Pmr B w v0 k n0 c) (hb : v0.ownBlock = some g) (hv : OwnV B w (.slice (some ⟨g, 0, none⟩) Y.length cap) Y) (hn : n0 ≤ Y.length)
    (hv' : w'.ownsRow B 43 1 (.slice (some ⟨g, 0, none⟩) (Y.length + m) cap) (Y.length + m) (Y ++ news)) (hg : w.grownBy w' (some g)) : Pmr B w' v0 k n0 c := by
  obtain ⟨Y0, ho, hl, hm⟩ := h0
  exact ⟨Y0, own_prefix (n0 := Y0.length) ho hb hv (by omega) hv', hl, hm.kept hg (fun g' e => by cases e; exact row_ni hv (by decide) g rfl)⟩

/-- beside them a row of grown ones -/
structure Gqr (Q : Nat → Prop) (B S : Nat) (w wr : World) (rv : Value) (K : Nat) (v : Nat → Value) (n : Nat → Nat) (gr : Value) (kr k : Nat) (u : Nat → Value) (m : Nat → Nat) : Prop where
  ap : Aqr Q B w wr rv K v n n
  grow : wr.ownsRow S 22 1 gr kr ((List.range kr).map u)
  gp : ∀ j, j < k → Pmr B wr (u j) j (n j + 64) (m j)
  gb : ∀ j, j < k → (u j).ownBlock = (v j).ownBlock ∨ ∃ b, (u j).ownBlock = some b ∧ S ≤ b
  sz : S ≤ wr.heap.size
  hB : B ≤ S
  vb : ∀ j, j < K → ∀ b, (v j).ownBlock = some b → b < S
  rb : ∀ b, rv.ownBlock = some b → b < S
  hap : ∀ i j, i < K → j < K → i ≠ j → (v i).ownBlock = none ∨ (v i).ownBlock ≠ (v j).ownBlock
  hk : k ≤ K
  sw : w.heap.size ≤ S

theorem Gqr.step {Q : Nat → Prop} {B S : Nat} {w wr w' : World} {rv : Value} {K : Nat} {v : Nat → Value} {n : Nat → Nat} {gr : Value} {kr k : Nat} {u : Nat → Value} {m : Nat → Nat} {row : Option Nat} (h : Gqr Q B S w wr rv K v n gr kr k u m) (hg : wr.grownBy w' row)
    (hni : ∀ b, row = some b → NI wr b) (hrow : ∀ b, row = some b → B ≤ b) (hqq : ∀ b, row = some b → ¬ Q b) (hce : ∀ (j : Nat) (o : Obj), row = some j → wr.heap[j]? = some o → o.isCells = true) (hv : ∀ j, j < K → Pmr B w' (v j) j (n j) (n j)) (hr : rv.ownBlock = none ∨ rv.ownBlock ≠ row) (hgr : gr.ownBlock = none ∨ gr.ownBlock ≠ row) (hu : ∀ j, j < k → (u j).ownBlock = none ∨ (u j).ownBlock ≠ row) :
    Gqr Q B S w w' rv K v n gr kr k u m :=
  ⟨⟨World.ownsRow.kept h.ap.row hg hr, hv, h.ap.bel.grown hg (Nat.le_trans h.hB h.sz) hrow, h.ap.ko.trans (KeepsOthers.of_grownBy hg hce), fun q hq => (hg.block q (Nat.lt_of_lt_of_le (h.ap.qs q hq) h.ap.bel.size) (fun e => hqq q e.symm hq)).trans (h.ap.kp q hq), h.ap.qv, h.ap.qs⟩, World.ownsRow.kept h.grow hg hgr, fun j hj => (h.gp j hj).kept hg (hu j hj) hni, h.gb, Nat.le_trans h.sz hg.size, h.hB, h.vb, h.rb, h.hap, h.hk, h.sw⟩
theorem Gqr.new {Q : Nat → Prop} {B S : Nat} {w wr w' : World} {rv : Value} {K : Nat} {v : Nat → Value} {n : Nat → Nat} {gr : Value} {kr k : Nat} {u : Nat → Value} {m : Nat → Nat} (h : Gqr Q B S w wr rv K v n gr kr k u m) (hg : wr.grownBy w' none) : Gqr Q B S w w' rv K v n gr kr k u m :=
  h.step hg no_row (fun b e => by cases e) (fun b e => by cases e) (fun j o e => by cases e) (fun j hj => (h.ap.pm j hj).kept hg (none_or _) no_row) (none_or _) (none_or _) (fun j hj => none_or _)

theorem Gqr.app {Q : Nat → Prop} {B S : Nat} {w wr wa w' : World} {rv : Value} {K : Nat} {v : Nat → Value} {n : Nat → Nat} {gr : Value} {kr k : Nat} {u : Nat → Value} {m : Nat → Nat} (h : Gqr Q B S w wr rv K v n gr kr k u m) (hk : k < K) {x x' : Value} {Sk : Nat} (hSk : S ≤ Sk) (hSw : Sk ≤ wr.heap.size)
    (huk : ∀ j, j < k → ∀ b, (u j).ownBlock = some b → b < Sk) {Y nz : List Value} (ho : OwnV B wr x Y) (hN : n k ≤ Y.length) (hxb : x.ownBlock = (v k).ownBlock ∨ ∃ b, x.ownBlock = some b ∧ Sk ≤ b) (hga : wr.grownBy wa none) (hnz : 0 < nz.length)
    (h1 : w'.ownsRow B 43 1 x' (Y.length + nz.length) (Y ++ nz))
    (h2 : (∃ g cap, x = .slice (some ⟨g, 0, none⟩) Y.length cap ∧ x' = .slice (some ⟨g, 0, none⟩) (Y.length + nz.length) cap ∧ wa.grownBy w' (some g)) ∨ (w'.ownsRow wa.heap.size 43 1 x' (Y.length + nz.length) (Y ++ nz) ∧ wa.grownBy w' none)) :
    Gqr Q B S w w' rv K v n gr kr k u m ∧ OwnV B w' x' (Y ++ nz) ∧ (∀ y Z, Own B wr y Z → Own B w' y Z) ∧ (x'.ownBlock = (v k).ownBlock ∨ ∃ b, x'.ownBlock = some b ∧ Sk ≤ b) := by
  have ha := h.new hga
  have hoa : OwnV B wa x Y := World.ownsRow.kept ho hga (none_or _)
  have o1 : OwnV B w' x' (Y ++ nz) := by
    unfold OwnV
    rw [List.length_append]
    exact h1
  rcases h2 with ⟨g, cap, rfl, rfl, hg⟩ | ⟨h3, hg⟩
  · have ex : (Value.slice (some ⟨g, 0, none⟩) Y.length cap).ownBlock = some g := rfl
    have ex' : (Value.slice (some ⟨g, 0, none⟩) (Y.length + nz.length) cap).ownBlock = some g := rfl
    have hBg : B ≤ g := (World.ownsRow.lt hoa g ex).1
    have hni : ∀ b, (some g : Option Nat) = some b → NI wa b := fun b e => by cases e; exact row_ni hoa (by decide) g ex
    rw [ex] at hxb
    have nr : rv.ownBlock ≠ some g := block_apart (by decide) ha.ap.row hoa ex
    have ngr : gr.ownBlock ≠ some g := block_apart (by decide) ha.grow hoa ex
    refine ⟨?_, o1, fun y Z hy => own_keptN (own_keptN hy hga no_row) hg hni, by rw [ex']; exact hxb⟩
    rcases hxb with q | ⟨b, q, hb⟩
    · refine ha.step hg hni (fun b e => by cases e; exact hBg) (fun b e => by cases e; exact h.ap.qv k hk _ q.symm) (fun j o e h => row_cells hoa j o (by rw [ex]; exact e) h) (fun j hj => ?_) (.inr nr) (.inr ngr) (fun j hj => ?_)
      · by_cases e : j = k
        · subst e
          exact (ha.ap.pm j hj).prefix q.symm hoa hN h1 hg
        · refine (ha.ap.pm j hj).kept hg ?_ hni
          have := h.hap j k hj hk e
          rwa [← q] at this
      · rcases h.gb j hj with q' | ⟨b, q', hb⟩
        · rw [q']
          have := h.hap j k (by omega) hk (by omega)
          rwa [← q] at this
        · refine .inr (fun e => ?_)
          rw [q'] at e
          cases e
          have := h.vb k hk _ q.symm
          omega
    · cases q
      refine ha.step hg hni (fun b e => by cases e; exact hBg) (fun b e hq => by cases e; have h7 := h.ap.qs _ hq; have h8 := h.sw; omega) (fun j o e h => row_cells hoa j o (by rw [ex]; exact e) h) (fun j hj => (ha.ap.pm j hj).kept hg (.inr fun e => ?_) hni) (.inr nr) (.inr ngr) (fun j hj => .inr fun e => ?_)
      · have := h.vb j hj _ e
        omega
      · have := huk j hj _ e
        omega
  · refine ⟨ha.new hg, o1, fun y Z hy => own_keptN (own_keptN hy hga no_row) hg no_row, .inr ?_⟩
    rcases h3.2 with ⟨_, hn⟩ | ⟨g, cap, cur, rfl, hb, _⟩
    · omega
    · have := hga.size
      exact ⟨g, rfl, by omega⟩

theorem Gqr.push {Q : Nat → Prop} {B S : Nat} {w wr wa w' : World} {rv : Value} {K : Nat} {v : Nat → Value} {n : Nat → Nat} {gr gr' : Value} {k : Nat} {u : Nat → Value} {m : Nat → Nat} (h : Gqr Q B S w wr rv K v n gr k k u m) (hk : k < K) {x : Value} (hga : wr.grownBy wa none)
    (own' : w'.ownsRow S 22 1 gr' (k + 1) ((List.range k).map u ++ [x])) (hg : wa.grownBy w' gr.ownBlock) (hx : Pmr B wr x k (n k + 64) (m k)) (hxb : x.ownBlock = (v k).ownBlock ∨ ∃ b, x.ownBlock = some b ∧ S ≤ b) :
    Gqr Q B S w w' rv K v n gr' (k + 1) (k + 1) (fun j => if j < k then u j else x) m := by
  have ha := h.new hga
  have hxa := hx.kept hga (none_or _) no_row
  have keep : ∀ {y : Value} {a b c : Nat}, Pmr B wa y a b c → Pmr B w' y a b c := fun hp => by
    obtain ⟨Y, ho, hl, hm⟩ := hp
    exact ⟨Y, ownsRow_apart (by decide) ho ha.grow hg, hl, hm.kept hg (row_ni ha.grow (by decide))⟩
  have hgB : ∀ b, gr.ownBlock = some b → S ≤ b := fun b e => (World.ownsRow.lt ha.grow b e).1
  have hr : rv.ownBlock = none ∨ rv.ownBlock ≠ gr.ownBlock := by
    cases e : rv.ownBlock with
    | none => exact .inl rfl
    | some b => exact .inr fun e' => by have h1 := h.rb b e; have h2 := hgB b e'.symm; omega
  refine ⟨⟨World.ownsRow.kept ha.ap.row hg hr, fun j hj => keep (ha.ap.pm j hj), ha.ap.bel.grown hg (Nat.le_trans ha.hB ha.sz) (fun b e => Nat.le_trans h.hB (hgB b e)), ha.ap.ko.trans (KeepsOthers.of_grownBy hg (row_cells ha.grow)), fun q hq => (hg.block q (Nat.lt_of_lt_of_le (ha.ap.qs q hq) ha.ap.bel.size) (fun e => by have h7 := hgB q e.symm; have h8 := ha.ap.qs q hq; have h9 := h.sw; omega)).trans (ha.ap.kp q hq), h.ap.qv, h.ap.qs⟩, ?_, fun j hj => ?_, fun j hj => ?_, Nat.le_trans ha.sz hg.size, h.hB, h.vb, h.rb, h.hap, hk, h.sw⟩
  · have : (List.range (k + 1)).map (fun j => if j < k then u j else x) = (List.range k).map u ++ [x] := by
      rw [List.range_succ, List.map_append]
      simp only [List.map_cons, List.map_nil, Nat.lt_irrefl, if_false]
      congr 1
      exact List.map_congr_left fun j hj => by rw [if_pos (List.mem_range.1 hj)]
    rw [this]
    exact own'
  · by_cases e : j < k
    · rw [if_pos e]; exact keep (ha.gp j e)
    · obtain rfl : j = k := by omega
      rw [if_neg e]; exact keep hxa
  · by_cases e : j < k
    · rw [if_pos e]; exact h.gb j e
    · obtain rfl : j = k := by omega
      rw [if_neg e]; exact hxb

theorem Gqr.put {Q : Nat → Prop} {B S : Nat} {w wr : World} {rv : Value} {K : Nat} {v : Nat → Value} {n : Nat → Nat} {gg cap : Nat} {k : Nat} {u : Nat → Value} {m : Nat → Nat} (h : Gqr Q B S w wr rv K v n (.slice (some ⟨gg, 0, none⟩) K cap) K k u m) (hk : k < K) {x : Value}
    (hx : Pmr B wr x k (n k + 64) (m k)) (hxb : x.ownBlock = (v k).ownBlock ∨ ∃ b, x.ownBlock = some b ∧ S ≤ b) :
    Gqr Q B S w (wr.setCell ⟨gg, k, none⟩ x) rv K v n (.slice (some ⟨gg, 0, none⟩) K cap) K (k + 1) (fun j => if j = k then x else u j) m := by
  obtain ⟨s1, s2⟩ := World.ownsRow.stored h.grow k x
  have hgS : S ≤ gg := (World.ownsRow.lt h.grow gg rfl).1
  have keep : ∀ {y : Value} {a b c : Nat}, Pmr B wr y a b c → Pmr B (wr.setCell ⟨gg, k, none⟩ x) y a b c := fun hp => by
    obtain ⟨Y, ho, hl, hm⟩ := hp
    exact ⟨Y, ownsRow_apart (by decide) ho h.grow s2, hl, hm.kept s2 (fun g e => by cases e; exact row_ni h.grow (by decide) gg rfl)⟩
  have hr : rv.ownBlock = none ∨ rv.ownBlock ≠ some gg := .inr fun e => by have := h.rb gg e; omega
  refine ⟨⟨World.ownsRow.kept h.ap.row s2 hr, fun j hj => keep (h.ap.pm j hj), h.ap.bel.setCell (p := ⟨gg, k, none⟩) (Nat.le_trans h.hB hgS) _, h.ap.ko.trans (KeepsOthers.setCell _ _ _), fun q hq => (heap_other (W := wr) ⟨gg, k, none⟩ _ (fun e9 => by have h7 : gg = q := e9; have h8 := h.ap.qs q hq; have h9 := h.sw; omega)).trans (h.ap.kp q hq), h.ap.qv, h.ap.qs⟩, ?_, fun j hj => ?_, fun j hj => ?_, Nat.le_trans h.sz s2.size, h.hB, h.vb, h.rb, h.hap, hk, h.sw⟩
  · have : ((List.range K).map u).set k x = (List.range K).map (fun j => if j = k then x else u j) := by
      apply List.ext_getElem?
      intro j
      rw [List.getElem?_set, List.getElem?_map, List.getElem?_map]
      by_cases e : k = j
      · subst e
        simp [hk]
      · have e' : ¬ j = k := fun h => e h.symm
        by_cases hj : j < K <;> simp [e, e', hj]
    rw [← this]
    exact s1
  · by_cases e : j = k
    · subst e; rw [if_pos rfl]; exact keep hx
    · rw [if_neg e]; exact keep (h.gp j (by omega))
  · by_cases e : j = k
    · subst e; rw [if_pos rfl]; exact hxb
    · rw [if_neg e]; exact h.gb j (by omega)

end Go.Proofs.YtlkbbbbclmffjaaGreatDoor
set_option linter.unusedSimpArgs false
set_option linter.unusedVariables false
namespace Go.Proofs.YtlkbbbbclmffjaaGreatDoor
open Go Go.RowKit Go.Shelf

attribute [local go_sem] Oper.semAt_some

theorem infoLr3 : (Tryz.prog.info? 22).map (fun i => (i.zero, i.size, i.bytes)) = some (some (.slice none 0 0), 1, 24) := by kernel_rfl
theorem Gqr.drew {Q : Nat → Prop} {B S : Nat} {w wr : World} {rv : Value} {K : Nat} {v : Nat → Value} {n : Nat → Nat} {gr : Value} {kr k : Nat} {u : Nat → Value} {m : Nat → Nat} (h : Gqr Q B S w wr rv K v n gr kr k u m) : Gqr Q B S w wr.drew rv K v n gr kr k u m :=
  ⟨h.ap.drew, h.grow, h.gp, h.gb, h.sz, h.hB, h.vb, h.rb, h.hap, h.hk, h.sw⟩
theorem Gqr.drewN {Q : Nat → Prop} {B S : Nat} {w wr : World} {rv : Value} {K : Nat} {v : Nat → Value} {n : Nat → Nat} {gr : Value} {kr k : Nat} {u : Nat → Value} {m : Nat → Nat} (h : Gqr Q B S w wr rv K v n gr kr k u m) (q : Nat) : Gqr Q B S w (wr.drewN q) rv K v n gr kr k u m := by
  refine h.new ?_
  exact grown_of_below (below_drewN _ _)
theorem Gqr.side {Q : Nat → Prop} {B S Sk N : Nat} {w wr wa w' : World} {rv : Value} {K : Nat} {v : Nat → Value} {n : Nat → Nat} {gr mv : Value} {kr k : Nat} {u : Nat → Value} {m : Nat → Nat} {xs : List Value} (h : Gqr Q B S w wr rv K v n gr kr k u m) (hSk : S ≤ Sk)
    (huk : ∀ j, j < k → ∀ b, (u j).ownBlock = some b → b < Sk) (hga : wr.grownBy wa none) (hm : wa.ownsRow Sk 43 1 mv N xs) (hg : wa.grownBy w' mv.ownBlock) : Gqr Q B S w w' rv K v n gr kr k u m := by
  have ha := h.new hga
  cases e : mv.ownBlock with
  | none => rw [e] at hg; exact ha.new hg
  | some g =>
    have hS : Sk ≤ g := (World.ownsRow.lt hm g e).1
    rw [e] at hg
    refine ha.step hg (fun b e' => by cases e'; exact row_ni hm (by decide) g e) (fun b e' => by cases e'; have := h.hB; omega) (fun b e' hq => by cases e'; have h7 := h.ap.qs _ hq; have h8 := h.sw; omega) (fun j o e' hj => row_cells hm j o (by rw [e]; exact e') hj) (fun j hj => (ha.ap.pm j hj).kept hg (.inr fun e' => ?_) (fun b e' => by cases e'; exact row_ni hm (by decide) g e)) (.inr (block_apart (by decide) ha.ap.row hm e)) (.inr (block_apart (by decide) ha.grow hm e)) (fun j hj => .inr fun e' => ?_)
    · have := h.vb j hj _ e'
      omega
    · have := huk j hj _ e'
      omega

set_option maxRecDepth 100000 in
set_option maxHeartbeats 8000000 in
theorem apart_r (Q : Nat → Prop) (B : Nat) (rv : Value) (K : Nat) (v : Nat → Value) (n : Nat → Nat) (w : World) (hB : B ≤ w.heap.size)
    (hrow : w.ownsRow B 22 1 rv K ((List.range K).map v)) (hown : ∀ j, j < K → ∃ Y, OwnV B w (v j) Y ∧ Y.length = n j)
    (hap : ∀ i j, i < K → j < K → i ≠ j → (v i).ownBlock = none ∨ (v i).ownBlock ≠ (v j).ownBlock) (hK : K * 24 ≤ 140737488351232) (hn : ∀ j, j < K → n j * 24 ≤ 140737488353280) (hqv : ∀ j, j < K → ∀ b, (v j).ownBlock = some b → ¬ Q b) (hqs : ∀ k, Q k → k < w.heap.size) :
    Calls Tryz.prog 66 #[rv] w fun e w' => e = .returned (.bool true) ∧ Below B w w' ∧ ∀ k, Q k → w'.heap[k]? = w.heap[k]? := by
  obtain ⟨i0, hi, hz0, hz1, hz2⟩ := info_parts infoL
  obtain ⟨iL, hiL, hL0, hL1, hL2⟩ := info_parts infoLr3
  have A0 : Hid (Aqr Q B w w rv K v n (fun _ => 0)) := ⟨hrow, fun j hj => by obtain ⟨Y, h1, h2⟩ := hown j hj; exact ⟨Y, h1, h2, fun t ht => absurd ht (Nat.not_lt_zero _)⟩, Below.refl _ _, KeepsOthers.refl _, fun _ _ => rfl, hqv, hqs⟩
  obtain ⟨ar, cr, rfl⟩ : ∃ ar cr, rv = .slice ar K cr := row_slice hrow
  have HAP : Hid (∀ i j, i < K → j < K → i ≠ j → (v i).ownBlock = none ∨ (v i).ownBlock ≠ (v j).ownBlock) := hap
  have HN : Hid (∀ j, j < K → n j * 24 ≤ 140737488353280) := hn
  clear hap hn hrow hown
  go_enter Tryz.func66, Tryz.ntmps66
  go_wp2
  go_loopg [3] K (fun g i wr => ∃ k : Nat, k + g = K ∧ i = .int .i64 k ∧ Aqr Q B w wr (.slice ar K cr) K v n (fun j => if j < k then n j else 0))
  case atStart => exact ⟨0, by omega, rfl, A0.out.weaken (fun j _ => by simp)⟩
  case round =>
  obtain ⟨k, hk, rfl, ap⟩ := hrel
  have HK : Hid (k + gk = K) := hk
  by_cases hlt : k < K
  · have AP : Hid (Aqr Q B w wr (.slice ar K cr) K v n (fun j => if j < k then n j else 0)) := ap
    obtain ⟨gr, cap, er, hcap, hcell⟩ := row_atr ap.row hlt
    simp only [Value.slice.injEq, true_and] at er
    obtain ⟨rfl, rfl⟩ := er
    have hnk := HN.out k hlt
    clear ap hk
    obtain ⟨nk, hnk'⟩ : ∃ nk, n k = nk := ⟨_, rfl⟩
    rw [hnk'] at hnk
    have HNK : Hid (n k = nk) := hnk'
    clear hnk' hcell
    go_wp2
    go_loopg [4] nk (fun g i wq => ∃ i' : Nat, i' + g = nk ∧ i = .int .i64 i' ∧ Aqr Q B w wq (.slice (some ⟨gr, 0, none⟩) K cr) K v n (fun j => if j < k then n j else if j = k then i' else 0))
    case atStart => exact ⟨0, by omega, rfl, AP.out.weaken (fun j _ => by simp)⟩
    case round =>
      obtain ⟨i, hi', rfl, ap⟩ := hrel
      have HI : Hid (i + gk = nk) := hi'
      by_cases hil : i < nk
      · obtain ⟨_, _, er, -, hcell⟩ := row_atr ap.row hlt
        cases er
        have hwB : B ≤ wr.heap.size := Nat.le_trans hB ap.bel.size
        have apa := ap.new hwB (World.grownBy_alloc wr (.cells #[.int .i64 (mrk k i)] 3) none)
        obtain ⟨g, cap, y, e, hcp, q1, q2, apm⟩ := apa.mark HAP.out hlt (i := i) (by simp) (by rw [HNK.out]; exact hil) ((ownOne wr (mrk k i)).mono hwB)
        obtain ⟨_, _, er, -, hcell2⟩ := row_atr apa.row hlt
        cases er
        rw [e, HNK.out] at hcell hcell2
        have APM : Hid (Aqr Q B w ((wr.alloc (.cells #[.int .i64 (mrk k i)] 3)).setCell ⟨g, i, none⟩ (.slice (some ⟨wr.heap.size, 0, none⟩) 1 1)) (.slice (some ⟨gr, 0, none⟩) K cr) K v n (fun j => if j = k then i + 1 else if j < k then n j else if j = k then i else 0)) := apm
        rw [HNK.out] at hcp
        have HM : Hid (∀ W, Calls Tryz.prog 18 #[.int .i64 k, .int .i64 i] W fun e w' => e = .returned (.int .i64 (mrk k i)) ∧ w' = W) := fun W => mark_any k i W (by omega) (by omega)
        clear ap apm apa hi' e
        generalize mrk k i = mk at *
        go_wp2
        go_region_with (go_at_call 18; refine (HM.out _).mono ?_; rintro e wv ⟨rfl, rfl⟩)
        all_goals
          go_wp2
          go_roundg (gk - 1)
          case measure => have := HI.out; omega
          case rel => exact ⟨i + 1, by have := HI.out; omega, by go_num, APM.out.drew.weaken (fun j _ => by
            by_cases e1 : j = k
            · subst e1; simp
            · simp [e1])⟩
      · have e : nk = i := by omega
        subst e
        clear hi' hil
        obtain ⟨_, _, er, -, hcell⟩ := row_atr ap.row hlt
        cases er
        obtain ⟨ax, cx, e⟩ := (ap.pm k hlt).slice
        rw [e, HNK.out] at hcell
        have AP2 : Hid (Aqr Q B w wr (.slice (some ⟨gr, 0, none⟩) K cr) K v n (fun j => if j < k then n j else if j = k then nk else 0)) := ap
        clear ap e
        go_wp2
        go_roundg (K - k - 1)
        case measure => have := HK.out; omega
        case rel => exact ⟨k + 1, by have := HK.out; omega, by go_num, AP2.out.weaken (fun j _ => by
            by_cases e1 : j = k
            · subst e1; simp [HNK.out]
            · by_cases e2 : j < k
              · simp [e2, show j < k + 1 by omega]
              · simp [show ¬ j < k + 1 by omega])⟩
  have e : K = k := by omega
  subst e
  clear hk hlt HK A0
  have ap3 := ap.weaken (c' := n) (fun j hj => by simp [hj])
  have sB : B ≤ wr.heap.size := Nat.le_trans hB ap.bel.size
  have G0 : Hid (Gqr Q B wr.heap.size w wr (.slice ar K cr) K v n (.slice none 0 0) 0 0 (fun _ => .slice none 0 0) (fun j => n j + 64)) :=
    ⟨ap3, World.ownsRow_nil _ _ _ _, fun j hj => by omega, fun j hj => by omega, Nat.le_refl _, sB, fun j hj b e => ((ap3.pm j hj).lt b e).2, fun b e => (World.ownsRow.lt ap3.row b e).2, HAP.out, Nat.zero_le _, ap.bel.size⟩
  clear ap ap3
  generalize wr = w3 at *
  go_wp2
  go_loopg [5, 6] K (fun g gsv kv wr => ∃ (k : Nat) (u : Nat → Value) (ag : Option Addr) (cg : Nat), k + g = K ∧ gsv = .slice ag k cg ∧ kv = .int .i64 k ∧ Gqr Q B w3.heap.size w wr (.slice ar K cr) K v n (.slice ag k cg) k k u (fun j => n j + 64))
  case atStart => exact ⟨0, _, none, 0, by omega, rfl, rfl, G0.out⟩
  case round =>
  obtain ⟨k, u, ag, cg, hk, rfl, rfl, gs⟩ := hrel
  have HK : Hid (k + gk = K) := hk
  by_cases hlt : k < K
  · obtain ⟨gr, cap, er, hcap, hcell⟩ := row_atr gs.ap.row hlt
    simp only [Value.slice.injEq, true_and] at er
    obtain ⟨rfl, rfl⟩ := er
    have hnk := HN.out k hlt
    obtain ⟨nk, hnk'⟩ : ∃ nk, n k = nk := ⟨_, rfl⟩
    rw [hnk'] at hnk
    have HNK : Hid (n k = nk) := hnk'
    obtain ⟨Y0, ho0, hl0, hm0⟩ := gs.ap.pm k hlt
    rw [hnk'] at hl0 hm0
    obtain ⟨a0, c0, e0⟩ := ownv_slice ho0
    rw [hl0] at e0
    have HE0 : Hid (v k = .slice a0 nk c0) := e0
    rw [e0] at hcell ho0
    have HO0 : Hid (OwnV B wr (.slice a0 nk c0) Y0) := ho0
    have HL0 : Hid (Y0.length = nk) := hl0
    have HM0 : Hid (Mks B wr Y0 k nk) := hm0
    have GS : Hid (Gqr Q B w3.heap.size w wr (.slice (some ⟨gr, 0, none⟩) K cr) K v n (.slice ag k cg) k k u (fun j => n j + 64)) := gs
    have HUK : Hid (∀ j, j < k → ∀ b, (u j).ownBlock = some b → b < wr.heap.size) := fun j hj b e => ((gs.gp j hj).lt b e).2
    have hS3 : w3.heap.size ≤ wr.heap.size := gs.sz
    clear gs hk hnk' e0 ho0 hl0 hm0
    generalize wr = w4 at *
    go_wp2
    clear hcell
    go_loopg [7, 8] 64 (fun g x iv wq => ∃ (i : Nat) (Y : List Value) (ax : Option Addr) (cx : Nat), i + g = 64 ∧ x = .slice ax (nk + i) cx ∧ iv = .int .i64 i ∧ OwnV B wq (.slice ax (nk + i) cx) Y ∧ Y.length = nk + i ∧ Mks B wq Y k (nk + i) ∧
      ((Value.slice ax (nk + i) cx).ownBlock = (v k).ownBlock ∨ ∃ b, (Value.slice ax (nk + i) cx).ownBlock = some b ∧ w4.heap.size ≤ b) ∧ Gqr Q B w3.heap.size w wq (.slice (some ⟨gr, 0, none⟩) K cr) K v n (.slice ag k cg) k k u (fun j => n j + 64) ∧ w4.heap.size ≤ wq.heap.size)
    case atStart => exact ⟨0, Y0, a0, c0, by omega, rfl, rfl, HO0.out, HL0.out, HM0.out, .inl (by rw [HE0.out]; rfl), GS.out, Nat.le_refl _⟩
    case round =>
      obtain ⟨i, Y, ax, cx, hi', rfl, rfl, ho, hl, hm, hxb, gs, hsz⟩ := hrel
      have HI : Hid (i + gk = 64) := hi'
      by_cases hil : i < 64
      · obtain ⟨_, _, er, -, hcell⟩ := row_atr gs.ap.row hlt
        cases er
        rw [HE0.out] at hcell
        have HM : Hid (∀ W, Calls Tryz.prog 18 #[.int .i64 k, .int .i64 ((nk : Int) + (i : Int))] W fun e w' => e = .returned (.int .i64 (mrk k (nk + i))) ∧ w' = W) := fun W => by
          have := mark_any k (nk + i) W (by omega) (by omega)
          rwa [Int.natCast_add] at this
        have HO : Hid (OwnV B wr (.slice ax (nk + i) cx) Y) := ho
        have HL : Hid (Y.length = nk + i) := hl
        have HMM : Hid (Mks B wr Y k (nk + i)) := hm
        have HXB : Hid ((Value.slice ax (nk + i) cx).ownBlock = (v k).ownBlock ∨ ∃ b, (Value.slice ax (nk + i) cx).ownBlock = some b ∧ w4.heap.size ≤ b) := hxb
        have GS2 : Hid (Gqr Q B w3.heap.size w wr (.slice (some ⟨gr, 0, none⟩) K cr) K v n (.slice ag k cg) k k u (fun j => n j + 64)) := gs
        have sBr : B ≤ wr.heap.size := Nat.le_trans gs.hB gs.sz
        clear ho hl hm hxb gs hi'
        obtain ⟨mk, hmk⟩ : ∃ mk, mrk k (nk + i) = mk := ⟨_, rfl⟩
        have HMK : Hid (mrk k (nk + i) = mk) := hmk
        rw [hmk] at HM
        clear hmk
        go_wp2_with fail
        refine (HM.out _).mono ?_
        rintro e wv ⟨rfl, hwv⟩
        rw [hwv]
        clear hwv wv
        go_wp2_with (at_builtin; refine wpList_append_two _ rfl _ _ 22 rfl B 43 i0 (.slice none 0 0) 24 Tryz.underlying22 hi hz0 hz1 hz2 rfl _ Y.length Y rfl (World.ownsRow.alloc (World.ownsRow.alloc HO.out (.cells #[.int .i64 mk] 3)) _) ⟨wr.heap.size + 1, 0, none⟩ 1 1 [.slice (some ⟨wr.heap.size, 0, none⟩) 1 1] rfl rfl (cell_one_newr _ _ _) (by simp [Value.oneCell']) (by omega) (by rw [HL.out]; unfold maxLen; omega) (by rw [HL.out]; omega) (by simp; omega) ?_; intro x' w' own' h2)
        have hgA : wr.grownBy ((wr.alloc (.cells #[.int .i64 mk] 3)).alloc (.cells #[.slice (some ⟨wr.heap.size, 0, none⟩) 1 1] 43)) none := grown_of_below (Below.step (below_box _ _) (below_box _ _))
        obtain ⟨gs', ho', hkp, hxb'⟩ := GS2.out.app (nz := [.slice (some ⟨wr.heap.size, 0, none⟩) 1 1]) hlt hS3 hsz HUK.out HO.out (by rw [HNK.out, HL.out]; omega) HXB.out hgA (by simp) own' h2
        obtain ⟨ax', cx', e'⟩ := ownv_slice ho'
        have hl' : (Y ++ [(.slice (some ⟨wr.heap.size, 0, none⟩) 1 1 : Value)]).length = nk + (i + 1) := by rw [List.length_append, HL.out]; rfl
        rw [hl'] at e'
        subst e'
        have hm' : Mks B w' (Y ++ [.slice (some ⟨wr.heap.size, 0, none⟩) 1 1]) k (nk + (i + 1)) := by
          have h9 : Mks B w' Y k (nk + i) := fun t ht => by
            obtain ⟨u, h5, h6⟩ := HMM.out t ht
            exact ⟨u, h5, hkp u _ h6⟩
          refine h9.snoc HL.out ?_
          rw [HMK.out]
          have h10 : Own B ((wr.alloc (.cells #[.int .i64 mk] 3)).alloc (.cells #[.slice (some ⟨wr.heap.size, 0, none⟩) 1 1] 43)) (.slice (some ⟨wr.heap.size, 0, none⟩) 1 1) [mk] := ((ownOne wr mk).mono sBr).below (below_box _ _)
          rcases h2 with ⟨g9, c9, e9, _, h3⟩ | ⟨_, h3⟩
          · refine own_keptN h10 h3 fun g' e10 => ?_
            cases e10
            have h11 : ((wr.alloc (.cells #[.int .i64 mk] 3)).alloc (.cells #[.slice (some ⟨wr.heap.size, 0, none⟩) 1 1] 43)).ownsRow B 43 1 (.slice ax (nk + i) cx) Y.length Y := World.ownsRow.alloc (World.ownsRow.alloc HO.out _) _
            exact row_ni h11 (by decide) g9 (congrArg Value.ownBlock (show Value.slice ax (nk + i) cx = .slice (some ⟨g9, 0, none⟩) Y.length c9 from e9))
          · exact own_keptN h10 h3 no_row
        have hsz' : w4.heap.size ≤ w'.heap.size := by
          have h0 := hgA.size
          rcases h2 with ⟨_, _, _, _, h3⟩ | ⟨_, h3⟩ <;> exact Nat.le_trans hsz (Nat.le_trans h0 h3.size)
        go_roundg (gk - 1)
        case measure => have := HI.out; omega
        case rel => exact ⟨i + 1, _, ax', cx', by have := HI.out; omega, rfl, by go_num, ho', hl', hm', hxb', gs', hsz'⟩
      · obtain rfl : i = 64 := by omega
        clear hi' hil
        have PX : Hid (Pmr B wr (.slice ax (nk + 64) cx) k (n k + 64) (n k + 64)) := ⟨Y, ho, by rw [HNK.out]; exact hl, by rw [HNK.out]; exact hm⟩
        have HXB : Hid ((Value.slice ax (nk + 64) cx).ownBlock = (v k).ownBlock ∨ ∃ b, (Value.slice ax (nk + 64) cx).ownBlock = some b ∧ w3.heap.size ≤ b) := by
          rcases hxb with q | ⟨b, q, hb⟩
          · exact .inl q
          · exact .inr ⟨b, q, Nat.le_trans hS3 hb⟩
        have GS2 : Hid (Gqr Q B w3.heap.size w wr (.slice (some ⟨gr, 0, none⟩) K cr) K v n (.slice ag k cg) k k u (fun j => n j + 64)) := gs
        have sS : w3.heap.size ≤ wr.heap.size := gs.sz
        clear ho hl hm hxb gs
        go_wp2_with (at_builtin; refine wpList_append_own _ rfl _ _ 81 rfl w3.heap.size 22 iL (.slice none 0 0) 1 24 Tryz.underlying81 hiL hL0 hL1 hL2 rfl (by decide) _ k ((List.range k).map u) rfl (World.ownsRow.alloc GS2.out.grow _) ⟨wr.heap.size, 0, none⟩ 1 1 [.slice ax (nk + 64) cx] rfl rfl (cell_one_new _ _ _) (by simp [Value.oneCell']) (by unfold maxLen; omega) (by omega) (by simp; omega) ?_; intro gr' w' own' gr2 hn')
        have gs' := GS2.out.push hlt (World.grownBy_alloc _ _ none) own' gr2 PX.out HXB.out
        obtain ⟨ag', cg', e'⟩ := row_slice own'
        subst e'
        go_roundg (K - k - 1)
        case measure => have := HK.out; omega
        case rel => exact ⟨k + 1, _, ag', cg', by have := HK.out; omega, rfl, by go_num, gs'⟩
  have e : K = k := by omega
  subst e
  clear hk hlt HK G0
  have G5 : Hid (Gqr Q B w3.heap.size w wr (.slice ar K cr) K v n (.slice ag K cg) K K u (fun j => n j + 64)) := gs
  clear gs
  generalize wr = w5 at *
  go_wp2
  go_loopg [9] K (fun g kv wr => ∃ k : Nat, k + g = K ∧ kv = .int .i64 k ∧ Gqr Q B w3.heap.size w wr (.slice ar K cr) K v n (.slice ag K cg) K K u (fun j => n j + 64))
  case atStart => exact ⟨0, by omega, rfl, G5.out⟩
  case round =>
  obtain ⟨k, hk, rfl, gs⟩ := hrel
  have HK : Hid (k + gk = K) := hk
  by_cases hlt : k < K
  · obtain ⟨gr, cap, er, hcap, -⟩ := row_atr gs.ap.row hlt
    simp only [Value.slice.injEq, true_and] at er
    obtain ⟨rfl, rfl⟩ := er
    obtain ⟨gg, cap', er, hcap', -⟩ := row_atr gs.grow hlt
    simp only [Value.slice.injEq, true_and] at er
    obtain ⟨rfl, rfl⟩ := er
    have hnk := HN.out k hlt
    obtain ⟨nk, hnk'⟩ : ∃ nk, n k = nk := ⟨_, rfl⟩
    rw [hnk'] at hnk
    have HNK : Hid (n k = nk) := hnk'
    obtain ⟨av, cv, ev⟩ := (gs.ap.pm k hlt).slice
    obtain ⟨au, cu, eu⟩ := (gs.gp k hlt).slice
    rw [hnk'] at ev eu
    have HEV : Hid (v k = .slice av nk cv) := ev
    have HEU : Hid (u k = .slice au (nk + 64) cu) := eu
    have GS : Hid (Gqr Q B w3.heap.size w wr (.slice (some ⟨gr, 0, none⟩) K cr) K v n (.slice (some ⟨gg, 0, none⟩) K cg) K K u (fun j => n j + 64)) := gs
    clear gs hk hnk' ev eu
    go_wp2
    go_loopg [10] (nk + 64) (fun g iv wq => ∃ i : Nat, i + g = nk + 64 ∧ iv = .int .i64 i ∧ Gqr Q B w3.heap.size w wq (.slice (some ⟨gr, 0, none⟩) K cr) K v n (.slice (some ⟨gg, 0, none⟩) K cg) K K u (fun j => n j + 64))
    case atStart => exact ⟨0, by omega, rfl, GS.out⟩
    case round =>
      obtain ⟨i, hi', rfl, gs⟩ := hrel
      have HI : Hid (i + gk = nk + 64) := hi'
      obtain ⟨_, _, er, -, hcv⟩ := row_atr gs.ap.row hlt
      cases er
      obtain ⟨_, _, er, -, hcu⟩ := row_atr gs.grow hlt
      cases er
      rw [HEV.out] at hcv
      rw [HEU.out] at hcu
      have GS2 : Hid (Gqr Q B w3.heap.size w wr (.slice (some ⟨gr, 0, none⟩) K cr) K v n (.slice (some ⟨gg, 0, none⟩) K cg) K K u (fun j => n j + 64)) := gs
      by_cases hil : i < nk + 64
      · obtain ⟨ug, uc, gu1, cu1, e1, hc1, hx1, hd1, hy1⟩ := (gs.gp k hlt).cell (i := i) (by rw [HNK.out]; exact hil) (by show i < n k + 64; rw [HNK.out]; exact hil)
        rw [HEU.out, HNK.out] at e1
        cases e1
        rw [HNK.out] at hc1
        have HM : Hid (∀ W, Calls Tryz.prog 18 #[.int .i64 k, .int .i64 i] W fun e w' => e = .returned (.int .i64 (mrk k i)) ∧ w' = W) := fun W => mark_any k i W (by omega) (by omega)
        by_cases hiv : i < nk
        · obtain ⟨vg, vc, gv1, cv1, e2, hc2, hx2, hd2, hy2⟩ := (gs.ap.pm k hlt).cell (i := i) (by rw [HNK.out]; exact hiv) (by rw [HNK.out]; exact hiv)
          rw [HEV.out, HNK.out] at e2
          cases e2
          rw [HNK.out] at hc2
          clear gs hi'
          generalize mrk k i = mk at *
          go_wp2
          go_quiet ((go_at_call 18; exact Calls.quiet_of_same (HM.out _)))
          go_wp2
          go_roundg (gk - 1)
          case measure => have := HI.out; omega
          case rel => exact ⟨i + 1, by have := HI.out; omega, by go_num, GS2.out.drewN _⟩
        · have hdv : decide (i < nk) = false := decide_eq_false hiv
          have hdv' : decide ((i : Int) < (nk : Int)) = false := decide_eq_false (by omega)
          clear gs hi'
          generalize mrk k i = mk at *
          go_wp2
          go_quiet ((go_at_call 18; exact Calls.quiet_of_same (HM.out _)))
          go_wp2
          go_roundg (gk - 1)
          case measure => have := HI.out; omega
          case rel => exact ⟨i + 1, by have := HI.out; omega, by go_num, GS2.out.drewN _⟩
      · obtain rfl : i = nk + 64 := by omega
        clear gs hi' hil
        go_wp2
        go_roundg (K - k - 1)
        case measure => have := HK.out; omega
        case rel => exact ⟨k + 1, by have := HK.out; omega, by go_num, GS2.out⟩
  have e : K = k := by omega
  subst e
  clear hk hlt HK G5
  have G7 : Hid (Gqr Q B w3.heap.size w wr (.slice ar K cr) K v n (.slice ag K cg) K 0 u n) := ⟨gs.ap, gs.grow, fun j hj => by omega, fun j hj => by omega, gs.sz, gs.hB, gs.vb, gs.rb, gs.hap, Nat.zero_le _, gs.sw⟩
  clear gs
  generalize wr = w6 at *
  go_wp2
  go_loopg [11] K (fun g kv wr => ∃ (k : Nat) (u : Nat → Value), k + g = K ∧ kv = .int .i64 k ∧ Gqr Q B w3.heap.size w wr (.slice ar K cr) K v n (.slice ag K cg) K k u n)
  case atStart => exact ⟨0, u, by omega, rfl, G7.out⟩
  case round =>
  clear G7
  obtain ⟨k, u, hk, rfl, gs⟩ := hrel
  have HK : Hid (k + gk = K) := hk
  by_cases hlt : k < K
  · obtain ⟨gr, cap, er, hcap, -⟩ := row_atr gs.ap.row hlt
    simp only [Value.slice.injEq, true_and] at er
    obtain ⟨rfl, rfl⟩ := er
    obtain ⟨gg, cap', er, hcap', -⟩ := row_atr gs.grow hlt
    simp only [Value.slice.injEq, true_and] at er
    obtain ⟨rfl, rfl⟩ := er
    have hnk := HN.out k hlt
    obtain ⟨nk, hnk'⟩ : ∃ nk, n k = nk := ⟨_, rfl⟩
    rw [hnk'] at hnk
    have HNK : Hid (n k = nk) := hnk'
    have GS : Hid (Gqr Q B w3.heap.size w wr (.slice (some ⟨gr, 0, none⟩) K cr) K v n (.slice (some ⟨gg, 0, none⟩) K cg) K k u n) := gs
    have HUK : Hid (∀ j, j < k → ∀ b, (u j).ownBlock = some b → b < wr.heap.size) := fun j hj b e => ((gs.gp j hj).lt b e).2
    have hS3 : w3.heap.size ≤ wr.heap.size := gs.sz
    clear gs hk hnk'
    generalize wr = w7 at *
    go_wp2
    go_loopg [12, 13] 64 (fun g mv iv wq => ∃ (i : Nat) (am : Option Addr) (cm : Nat) (Ms : List Value), i + g = 64 ∧ mv = .slice am i cm ∧ iv = .int .i64 i ∧ OwnV w7.heap.size wq (.slice am i cm) Ms ∧ Ms.length = i ∧ (∀ u ∈ Ms, u.oneCell' = true) ∧
      Gqr Q B w3.heap.size w wq (.slice (some ⟨gr, 0, none⟩) K cr) K v n (.slice (some ⟨gg, 0, none⟩) K cg) K k u n ∧ w7.heap.size ≤ wq.heap.size)
    case atStart => exact ⟨0, none, 0, [], by omega, rfl, rfl, World.ownsRow_nil _ _ _ _, rfl, (by simp), GS.out, Nat.le_refl _⟩
    case round =>
      obtain ⟨i, am, cm, ms, hi', rfl, rfl, ho, hml, hmc, gs, hsz⟩ := hrel
      have HML : Hid (ms.length = i) := hml
      have HMC : Hid (∀ u ∈ ms, u.oneCell' = true) := hmc
      have HI : Hid (i + gk = 64) := hi'
      have HO : Hid (OwnV w7.heap.size wr (.slice am i cm) ms) := ho
      clear hml hmc
      have GS2 : Hid (Gqr Q B w3.heap.size w wr (.slice (some ⟨gr, 0, none⟩) K cr) K v n (.slice (some ⟨gg, 0, none⟩) K cg) K k u n) := gs
      by_cases hil : i < 64
      · have HM : Hid (∀ W, Calls Tryz.prog 18 #[.int .i64 ((k : Int) + (K : Int)), .int .i64 i] W fun e w' => e = .returned (.int .i64 (mrk (k + K) i)) ∧ w' = W) := fun W => by
          have := mark_any (k + K) i W (by omega) (by omega)
          rwa [Int.natCast_add] at this
        clear ho gs hi'
        obtain ⟨mk, hmk⟩ : ∃ mk, mrk (k + K) i = mk := ⟨_, rfl⟩
        have HMK : Hid (mrk (k + K) i = mk) := hmk
        rw [hmk] at HM
        clear hmk
        go_wp2_with fail
        refine (HM.out _).mono ?_
        rintro e wv ⟨rfl, hwv⟩
        rw [hwv]
        clear hwv wv
        go_wp2_with (at_builtin; refine wpList_append_own _ rfl _ _ 22 rfl w7.heap.size 43 i0 (.slice none 0 0) 1 24 Tryz.underlying22 hi hz0 hz1 hz2 rfl (by decide) _ ms.length ms rfl (World.ownsRow.alloc (World.ownsRow.alloc HO.out (.cells #[.int .i64 mk] 3)) _) ⟨wr.heap.size + 1, 0, none⟩ 1 1 [.slice (some ⟨wr.heap.size, 0, none⟩) 1 1] rfl rfl (cell_one_newr _ _ _) (by simp [Value.oneCell']) (by rw [HML.out]; unfold maxLen; omega) (by rw [HML.out]; omega) (by simp; omega) ?_; intro x' w' own' gr2 hn')
        have hgA : wr.grownBy ((wr.alloc (.cells #[.int .i64 mk] 3)).alloc (.cells #[.slice (some ⟨wr.heap.size, 0, none⟩) 1 1] 43)) none := grown_of_below (Below.step (below_box _ _) (below_box _ _))
        have gs' := GS2.out.side hS3 HUK.out hgA (World.ownsRow.alloc (World.ownsRow.alloc HO.out _) _) gr2
        have hsz' : w7.heap.size ≤ w'.heap.size := Nat.le_trans (Nat.le_trans hsz hgA.size) gr2.size
        have ho' : OwnV w7.heap.size w' x' (ms ++ [.slice (some ⟨wr.heap.size, 0, none⟩) 1 1]) := by
          unfold OwnV
          rw [List.length_append]
          exact own'
        have hl' : (ms ++ [(.slice (some ⟨wr.heap.size, 0, none⟩) 1 1 : Value)]).length = i + 1 := by rw [List.length_append, HML.out]; rfl
        obtain ⟨am', cm', e'⟩ := ownv_slice ho'
        rw [hl'] at e'
        subst e'
        have hmc' : ∀ u ∈ ms ++ [(.slice (some ⟨wr.heap.size, 0, none⟩) 1 1 : Value)], u.oneCell' = true := fun u hu => by
          rcases List.mem_append.1 hu with h5 | h5
          · exact HMC.out u h5
          · rw [List.mem_singleton.1 h5]; rfl
        go_roundg (gk - 1)
        case measure => have := HI.out; omega
        case rel => exact ⟨i + 1, am', cm', _, by have := HI.out; omega, rfl, by go_num, ho', hl', hmc', gs', hsz'⟩
      · obtain rfl : i = 64 := by omega
        clear hi' hil HI
        obtain ⟨_, _, er, -, hcv⟩ := row_atr gs.ap.row hlt
        cases er
        obtain ⟨Y, hoY, hlY, hmY⟩ := gs.ap.pm k hlt
        obtain ⟨av, cv, ev⟩ := ownv_slice hoY
        rw [hlY, HNK.out] at ev
        have HEV : Hid (v k = .slice av nk cv) := ev
        rw [ev] at hcv hoY
        have HOY : Hid (OwnV B wr (.slice av nk cv) Y) := hoY
        have HLY : Hid (Y.length = nk) := by show _ = _; rw [hlY]; exact HNK.out
        have HMY : Hid (Mks B wr Y k (n k)) := hmY
        obtain ⟨gm, cm', em, hcm, -, -⟩ := row_some ho (by rw [HML.out]; decide)
        rw [HML.out] at em
        cases em
        have HNW : Hid (∀ j u, ms[j]? = some u → wr.cell? ((⟨gm, 0, none⟩ : Addr).add j) = some u) := World.ownsRow.cells ho rfl
        have sBr : B ≤ wr.heap.size := Nat.le_trans gs.hB gs.sz
        clear ho gs hoY hlY hmY ev
        go_wp2_with (at_builtin; refine wpList_append_two _ rfl _ _ 22 rfl B 43 i0 (.slice none 0 0) 24 Tryz.underlying22 hi hz0 hz1 hz2 rfl _ Y.length Y rfl HOY.out ⟨gm, 0, none⟩ 64 cm ms rfl HML.out HNW.out HMC.out (by omega) (by rw [HLY.out]; unfold maxLen; omega) (by rw [HLY.out]; omega) sBr ?_; intro x' w' own' h2; have own2 : w'.ownsRow B 43 1 x' (Y.length + ms.length) (Y ++ ms) := (by rw [HML.out]; exact own'); obtain ⟨gs', ho', hkp, hxb'⟩ := GS2.out.app (nz := ms) (wa := wr) (Sk := w7.heap.size) hlt hS3 hsz HUK.out HOY.out (Nat.le_of_eq (by rw [HNK.out, HLY.out])) (.inl (congrArg Value.ownBlock HEV.out.symm)) ⟨rfl, rfl, rfl, Nat.le_refl _, fun _ _ _ => rfl⟩ (by rw [HML.out]; omega) own2 (by rw [HML.out]; exact h2); obtain ⟨ax', cx', e'⟩ := ownv_slice ho'; rw [List.length_append, HLY.out, HML.out] at e'; subst e'; obtain ⟨_, _, er, -, hcu⟩ := row_atr gs'.grow hlt; cases er; have hfu := gs'.grow.frozenAt k; have GS3 : Hid (Gqr Q B w3.heap.size w w' (.slice (some ⟨gr, 0, none⟩) K cr) K v n (.slice (some ⟨gg, 0, none⟩) K cg) K k u n) := gs'; clear gs' own' own2 h2)
        have PX : Pmr B w' (.slice ax' (nk + 64) cx') k (n k + 64) (n k) := ⟨Y ++ ms, ho', by rw [List.length_append, HLY.out, HML.out, HNK.out], fun t ht => by
          obtain ⟨y, h5, h6⟩ := HMY.out t ht
          exact ⟨y, by rw [List.getElem?_append_left (by rw [HLY.out, ← HNK.out]; exact ht)]; exact h5, hkp y _ h6⟩⟩
        have gs4 := GS3.out.put hlt PX (by
          rcases hxb' with q | ⟨b, q, hb⟩
          · exact .inl q
          · exact .inr ⟨b, q, Nat.le_trans hS3 hb⟩)
        go_roundg (K - k - 1)
        case measure => have := HK.out; omega
        case rel => exact ⟨k + 1, _, by have := HK.out; omega, by go_num, gs4⟩
  have e : K = k := by omega
  subst e
  clear hk hlt HK
  have G9 : Hid (Gqr Q B w3.heap.size w wr (.slice ar K cr) K v n (.slice ag K cg) K K u n) := gs
  clear gs
  generalize wr = w8 at *
  go_wp2
  go_loopg [14] K (fun g kv wr => ∃ k : Nat, k + g = K ∧ kv = .int .i64 k ∧ Gqr Q B w3.heap.size w wr (.slice ar K cr) K v n (.slice ag K cg) K K u n)
  case atStart => exact ⟨0, by omega, rfl, G9.out⟩
  case round =>
  obtain ⟨k, hk, rfl, gs⟩ := hrel
  have HK : Hid (k + gk = K) := hk
  by_cases hlt : k < K
  · obtain ⟨gr, cap, er, hcap, -⟩ := row_atr gs.ap.row hlt
    simp only [Value.slice.injEq, true_and] at er
    obtain ⟨rfl, rfl⟩ := er
    obtain ⟨gg, cap', er, hcap', -⟩ := row_atr gs.grow hlt
    simp only [Value.slice.injEq, true_and] at er
    obtain ⟨rfl, rfl⟩ := er
    have hnk := HN.out k hlt
    obtain ⟨nk, hnk'⟩ : ∃ nk, n k = nk := ⟨_, rfl⟩
    rw [hnk'] at hnk
    have HNK : Hid (n k = nk) := hnk'
    obtain ⟨av, cv, ev⟩ := (gs.ap.pm k hlt).slice
    obtain ⟨au, cu, eu⟩ := (gs.gp k hlt).slice
    rw [hnk'] at ev eu
    have HEV : Hid (v k = .slice av nk cv) := ev
    have HEU : Hid (u k = .slice au (nk + 64) cu) := eu
    have GS : Hid (Gqr Q B w3.heap.size w wr (.slice (some ⟨gr, 0, none⟩) K cr) K v n (.slice (some ⟨gg, 0, none⟩) K cg) K K u n) := gs
    clear gs hk hnk' ev eu
    go_wp2
    go_loopg [15] nk (fun g iv wq => ∃ i : Nat, i + g = nk ∧ iv = .int .i64 i ∧ Gqr Q B w3.heap.size w wq (.slice (some ⟨gr, 0, none⟩) K cr) K v n (.slice (some ⟨gg, 0, none⟩) K cg) K K u n)
    case atStart => exact ⟨0, by omega, rfl, GS.out⟩
    case round =>
      obtain ⟨i, hi', rfl, gs⟩ := hrel
      have HI : Hid (i + gk = nk) := hi'
      obtain ⟨_, _, er, -, hcv⟩ := row_atr gs.ap.row hlt
      cases er
      obtain ⟨_, _, er, -, hcu⟩ := row_atr gs.grow hlt
      cases er
      rw [HEV.out] at hcv
      rw [HEU.out] at hcu
      have GS2 : Hid (Gqr Q B w3.heap.size w wr (.slice (some ⟨gr, 0, none⟩) K cr) K v n (.slice (some ⟨gg, 0, none⟩) K cg) K K u n) := gs
      by_cases hil : i < nk
      · obtain ⟨ug, uc, gu1, cu1, e1, hc1, hx1, hd1, hy1⟩ := (gs.gp k hlt).cell (i := i) (by rw [HNK.out]; omega) (by rw [HNK.out]; exact hil)
        rw [HEU.out, HNK.out] at e1
        cases e1
        rw [HNK.out] at hc1
        have HM : Hid (∀ W, Calls Tryz.prog 18 #[.int .i64 k, .int .i64 i] W fun e w' => e = .returned (.int .i64 (mrk k i)) ∧ w' = W) := fun W => mark_any k i W (by omega) (by omega)
        obtain ⟨vg, vc, gv1, cv1, e2, hc2, hx2, hd2, hy2⟩ := (gs.ap.pm k hlt).cell (i := i) (by rw [HNK.out]; exact hil) (by rw [HNK.out]; exact hil)
        rw [HEV.out, HNK.out] at e2
        cases e2
        rw [HNK.out] at hc2
        clear gs hi'
        generalize mrk k i = mk at *
        go_wp2
        go_quiet ((go_at_call 18; exact Calls.quiet_of_same (HM.out _)))
        go_wp2
        go_roundg (gk - 1)
        case measure => have := HI.out; omega
        case rel => exact ⟨i + 1, by have := HI.out; omega, by go_num, GS2.out.drewN _⟩
      · have e : nk = i := by omega
        subst e
        clear gs hi' hil
        go_wp2
        go_roundg (K - k - 1)
        case measure => have := HK.out; omega
        case rel => exact ⟨k + 1, by have := HK.out; omega, by go_num, GS2.out⟩
  have e : K = k := by omega
  subst e
  clear hk hlt HK
  have BE : Hid (Below B w wr ∧ ∀ k, Q k → wr.heap[k]? = w.heap[k]?) := ⟨gs.ap.bel, gs.ap.kp⟩
  clear gs
  go_wp2
  go_ret
  exact ⟨rfl, BE.out⟩

end Go.Proofs.YtlkbbbbclmffjaaGreatDoor
set_option linter.unusedSimpArgs false
set_option linter.unusedVariables false
namespace Go.Proofs.YtlkbbbbclmffjaaGreatDoor
open Go Go.RowKit Go.Shelf

/-- a row of one's own is put behind another -/
theorem run_append_rows {P : Program} (w : World) (base base' : Nat) (t ty e : TypeId) (i : TypeInfo) (z : Value) (bytes : Nat) (ht : P.underlying t = some (.slice e)) (hi : P.info? e = some i) (hz : i.zero = some z)
    (hsize : i.size = 1) (hby : i.bytes = bytes) (hzs : z.cells.size = 1)
    (v y : Value) (n m : Nat) (xs ys : List Value) (hown : w.ownsRow base e 1 v n xs) (hy : w.ownsRow base' e 1 y m ys) (h1 : ∀ u ∈ ys, u.oneCell' = true)
    (h63 : n + m ≤ maxLen) (hbytes : (n + m) * bytes ≤ 140737488355328) (hbase : base ≤ w.heap.size) :
    ∃ v' w', (Builtin.append_ #[t, t] ty #[v, y]).run P w = .ok v' w' ∧ w'.ownsRow base e 1 v' (n + m) (xs ++ ys) ∧ Ap w v w' v' := by
  rcases hy.2 with ⟨rfl, rfl⟩ | ⟨g, cap, cur, rfl, hbg, hg, hnc, hcm, hcs, htake⟩
  · have hx : ys = [] := List.eq_nil_of_length_eq_zero (by simpa using hy.1)
    subst hx
    refine ⟨v, w, run_append_owned_none (P := P) w base t ty e i 1 ht hi v n xs hown, by simpa using hown, ⟨rfl, rfl, rfl, Nat.le_refl _, fun _ _ _ => rfl⟩, .inl rfl, .inl rfl⟩
  · exact run_append_apk (P := P) w base t ty e i z 1 bytes ht hi hz hsize hby hzs (by decide) v n xs hown ⟨g, 0, none⟩ m cap ys hy.1 (hy.cells (g := g) rfl) h1 h63 hbytes hbase
theorem wpList_append_rows {P : Program} {w : World} {ops : Array Oper} {rest : List Oper} {o : Oper} {a : Act} {Q : Exit → Act → World → Prop} (hgd : o.guard = none) (s x : Operand) (t : TypeId)
    (hop : o.op = .call { callee := .builtin .append, args := #[s, x], argTypes := #[t, t] })
    (base base' : Nat) (e : TypeId) (i : TypeInfo) (z : Value) (bytes : Nat) (ht : P.underlying t = some (.slice e)) (hi : P.info? e = some i) (hz : i.zero = some z)
    (hsize : i.size = 1) (hby : i.bytes = bytes) (hzs : z.cells.size = 1)
    (v y : Value) (n m : Nat) (xs ys : List Value) (hs : a.eval s = v) (hx : a.eval x = y) (hown : w.ownsRow base e 1 v n xs) (hy : w.ownsRow base' e 1 y m ys) (h1 : ∀ u ∈ ys, u.oneCell' = true)
    (h63 : n + m ≤ maxLen) (hbytes : (n + m) * bytes ≤ 140737488355328) (hbase : base ≤ w.heap.size)
    (h : ∀ v' w', w'.ownsRow base e 1 v' (n + m) (xs ++ ys) → Ap w v w' v' → wpList P ops Q rest (a.put o.dst v') w') :
    wpList P ops Q (o :: rest) a w := by
  refine wpList_plain hgd fun K hK => ?_
  obtain ⟨v', w', hr, h2, h3⟩ := run_append_rows (P := P) w base base' t o.type e i z bytes ht hi hz hsize hby hzs v y n m xs ys hown hy h1 h63 hbytes hbase
  unfold Oper.wp execOp
  simp only [hop, resolve, invoke, builtin, Sem.run_bind, Sem.run_pure, Result.andThen_ok, List.map_toArray, List.map_cons, List.map_nil, hs, hx, hr]
  exact hK _ _ (h v' w' h2 h3)
theorem apart_sym {α : Type} {f : α → Option Nat} {L : List α} (h : L.Pairwise (fun x y => f x = none ∨ f x ≠ f y)) : ∀ (i j : Nat) (hi : i < L.length) (hj : j < L.length), i ≠ j → f L[i] = none ∨ f L[i] ≠ f L[j] := fun i j hi hj hne => by
  have hp := List.pairwise_iff_getElem.1 h
  rcases Nat.lt_or_gt_of_ne hne with h1 | h1
  · exact hp i j hi hj h1
  · rcases hp j i hj hi h1 with h2 | h2
    · cases e : f L[i] with
      | none => exact .inl rfl
      | some b => exact .inr (by rw [h2]; simp)
    · exact .inr (Ne.symm h2)
theorem range_getD {α : Type} (L : List α) (d : α) {β : Type} (f : α → β) : (List.range L.length).map (fun j => f (L.getD j d)) = L.map f := by
  apply List.ext_getElem?
  intro i
  by_cases h : i < L.length
  · rw [List.getElem?_map, List.getElem?_range h, List.getElem?_map, List.getElem?_eq_getElem h]
    simp [List.getD_eq_getElem?_getD, h]
  · rw [List.getElem?_eq_none (by simpa using h), List.getElem?_eq_none (by simpa using h)]
theorem flat_len {F : List (Value × List Cls)} {j : Nat} (hj : j < F.length) : (F[j]).2.length ≤ (F.flatMap Prod.snd).length := by
  have h7 : F.flatMap Prod.snd = (F.take j).flatMap Prod.snd ++ (F.drop j).flatMap Prod.snd := by rw [← List.flatMap_append, List.take_append_drop]
  rw [h7, List.drop_eq_getElem_cons hj, List.flatMap_cons, List.length_append, List.length_append]
  omega
theorem cls_one {B : Nat} {w : World} {s : Value} {L : List Cls} (h : OwnR B w s L) : ∀ u ∈ L.map Prod.fst, u.oneCell' = true := fun u hu => by
  obtain ⟨x, hx, rfl⟩ := List.mem_map.1 hu
  obtain ⟨a, c, e⟩ := own_slice (h.own x hx)
  rw [e]; rfl
set_option maxRecDepth 100000 in
set_option maxHeartbeats 6400000 in
theorem apartClauses_any (B : Nat) (rv : Value) (F : List (Value × List Cls)) (w : World) (hB : B ≤ w.heap.size) (hrow : w.ownsRow B 22 1 rv F.length (F.map Prod.fst)) (hown : ∀ x ∈ F, OwnR B w x.1 x.2)
    (hapR : F.Pairwise (fun x y => x.1.ownBlock = none ∨ x.1.ownBlock ≠ y.1.ownBlock)) (hapL : ApartC (F.flatMap Prod.snd)) (hF : F.length ≤ 65536) (hL : (F.flatMap Prod.snd).length ≤ 2147483648) (hl : ∀ x ∈ F.flatMap Prod.snd, x.2.length * 8 ≤ 140737488353280) :
    Calls Tryz.prog 48 #[rv] w fun e w' => e = .returned (.bool true) ∧ Below B w w' := by
  obtain ⟨iL, hiL, hL0, hL1, hL2⟩ := info_parts infoL
  have HIl : Hid (Tryz.prog.info? 43 = some iL ∧ iL.zero = some (.slice none 0 0) ∧ iL.size = 1 ∧ iL.bytes = 24) := ⟨hiL, hL0, hL1, hL2⟩
  have HF : Hid (∀ x ∈ F, OwnR B w x.1 x.2) := hown
  have HA : Hid (F.Pairwise (fun x y => x.1.ownBlock = none ∨ x.1.ownBlock ≠ y.1.ownBlock) ∧ ApartC (F.flatMap Prod.snd) ∧ (F.flatMap Prod.snd).length ≤ 2147483648 ∧ (∀ x ∈ F.flatMap Prod.snd, x.2.length * 8 ≤ 140737488353280)) := ⟨hapR, hapL, hL, hl⟩
  have HRow : Hid (w.ownsRow B 22 1 rv F.length (F.map Prod.fst)) := hrow
  obtain ⟨ar, cr, er⟩ : ∃ ar cr, rv = .slice ar F.length cr := row_slice hrow
  have HRv : Hid (rv = .slice ar F.length cr) := er
  subst er
  clear hrow hown hapR hapL hL hl hiL hL0 hL1 hL2
  go_enter Tryz.func48, Tryz.ntmps48
  go_wp2
  go_loopg [3, 4] F.length (fun q r' i' wr => ∃ (k : Nat) (av : Option Addr) (cv m : Nat), k + q = F.length ∧ r' = .slice av m cv ∧ i' = .int .i64 k ∧ m = ((F.take k).flatMap Prod.snd).length ∧ wr.ownsRow w.heap.size 43 1 (.slice av m cv) m (((F.take k).flatMap Prod.snd).map Prod.fst) ∧ Below w.heap.size w wr)
  case atStart => exact ⟨0, none, 0, 0, by omega, rfl, rfl, rfl, World.ownsRow_nil _ _ _ _, Below.refl _ _⟩
  case round =>
    obtain ⟨k, av, cv, m, hk, rfl, rfl, hm, ho, hb⟩ := hrel
    have HK : Hid (k + gk = F.length) := hk
    have HO : Hid (wr.ownsRow w.heap.size 43 1 (.slice av m cv) m (((F.take k).flatMap Prod.snd).map Prod.fst) ∧ Below w.heap.size w wr ∧ m = ((F.take k).flatMap Prod.snd).length) := ⟨ho, hb, hm⟩
    clear hk ho hm
    by_cases hlt : k < F.length
    · obtain ⟨gr, cr', er, r1, -, -⟩ := row_some (HRow.out) (by omega)
      injection er with er _ er3
      subst er; subst er3
      have hrw : wr.ownsRow B 22 1 (.slice (some ⟨gr, 0, none⟩) F.length cr) F.length (F.map Prod.fst) := row_kept HRow.out fun q e => hb.block q (HRow.out.lt q e.symm).2
      have kc := row_cell hrw (j := k) (x := (F[k]).1) (by rw [List.getElem?_map, List.getElem?_eq_getElem hlt]; rfl)
      have hfk := (HF.out _ (List.getElem_mem hlt)).below hb
      obtain ⟨ay, cy, ey⟩ := row_form hfk.row
      rw [ey] at kc
      have HFk : Hid (wr.ownsRow B 43 1 (.slice ay (F[k]).2.length cy) (F[k]).2.length ((F[k]).2.map Prod.fst) ∧ ∀ u ∈ (F[k]).2.map Prod.fst, u.oneCell' = true) := ⟨by rw [← ey]; exact hfk.row, cls_one hfk⟩
      have HTk : Hid ((F.take (k + 1)).flatMap Prod.snd = (F.take k).flatMap Prod.snd ++ (F[k]).2) := by show _ = _; rw [List.take_succ_eq_append_getElem hlt, List.flatMap_append]; simp
      have HLen : Hid (m + (F[k]).2.length ≤ 2147483648) := by
        have h5 := HA.out.2.2.1
        have h6 : ((F.take (k + 1)).flatMap Prod.snd).length ≤ (F.flatMap Prod.snd).length := by
          have h7 : F.flatMap Prod.snd = (F.take (k + 1)).flatMap Prod.snd ++ (F.drop (k + 1)).flatMap Prod.snd := by rw [← List.flatMap_append, List.take_append_drop]
          rw [h7, List.length_append]; omega
        rw [HTk.out, List.length_append, ← HO.out.2.2] at h6
        show _ ≤ _
        omega
      have HLT : Hid (k < F.length) := hlt
      have hl5 := HLen.out
      have hl63 : m + (F[k]).2.length ≤ maxLen := by unfold maxLen; omega
      have hl48 : (m + (F[k]).2.length) * 24 ≤ 140737488355328 := by omega
      clear hrw hfk ey hb
      generalize (F[k]).2 = Lk at *
      have HSw : Hid (w.heap.size ≤ wr.heap.size) := HO.out.2.1.size
      go_wp2_with (at_builtin; refine wpList_append_rows rfl _ _ 22 rfl w.heap.size B 43 iL (.slice none 0 0) 24 Tryz.underlying22 HIl.out.1 HIl.out.2.1 HIl.out.2.2.1 HIl.out.2.2.2 rfl (.slice av m cv) (.slice ay Lk.length cy) m Lk.length (((F.take k).flatMap Prod.snd).map Prod.fst) (Lk.map Prod.fst) rfl rfl HO.out.1 HFk.out.1 HFk.out.2 hl63 hl48 HSw.out ?_; intro v5 w5 own5 ap5; obtain ⟨a5, c5, hv5⟩ := row_form' own5; subst hv5; have F5 : Hid (w5.ownsRow w.heap.size 43 1 (.slice a5 (m + Lk.length) c5) (m + Lk.length) (((F.take k).flatMap Prod.snd).map Prod.fst ++ Lk.map Prod.fst) ∧ Below w.heap.size w w5) := ⟨own5, HO.out.2.1.grown ap5.grown HSw.out (fun q e => (HO.out.1.lt q e).1)⟩; clear own5 ap5)
      go_roundg (gk - 1)
      case measure => have := HK.out; have := HLT.out; omega
      case rel => exact ⟨k + 1, a5, c5, m + Lk.length, by have := HK.out; have := HLT.out; omega, rfl, by go_num, by rw [HTk.out, List.length_append, ← HO.out.2.2], by rw [HTk.out, List.map_append]; exact F5.out.1, F5.out.2⟩
    · have hke : k = F.length := by have := HK.out; omega
      rw [hke, List.take_length] at HO
      obtain ⟨E, hE⟩ : ∃ E, E = F.flatMap Prod.snd := ⟨_, rfl⟩
      rw [← hE] at HO HA
      have HMe : Hid (m = E.length) := HO.out.2.2
      have hBr : B ≤ wr.heap.size := Nat.le_trans hB hb.size
      have HFw : Hid (∀ x ∈ F, OwnR B wr x.1 x.2) := fun x hx => (HF.out x hx).below hb
      have HRw : Hid (wr.ownsRow B 22 1 (.slice ar F.length cr) F.length (F.map Prod.fst)) := row_kept HRow.out fun q e => hb.block q (HRow.out.lt q e.symm).2
      have hEo : ∀ (j : Nat) (hj : j < E.length), Own B wr (E[j]).1 (E[j]).2 := fun j hj => by
        have h5 : ∀ x ∈ E, x ∈ F.flatMap Prod.snd := fun x hx => by rw [← hE]; exact hx
        obtain ⟨x, hx, h6⟩ := List.mem_flatMap.1 (h5 _ (List.getElem_mem hj))
        have := (HFw.out x hx).own _ h6
        exact this
      have HQ : Hid (Calls Tryz.prog 65 #[.slice av m cv] wr fun e w' => e = .returned (.bool true) ∧ Below B wr w' ∧ ∀ q, ((some q = (Value.slice ar F.length cr).ownBlock ∨ ∃ x ∈ F, some q = x.1.ownBlock)) → w'.heap[q]? = wr.heap[q]?) := by
        have hgd : ∀ j (hj : j < E.length), E.getD j (.slice none 0 0, []) = E[j] := fun j hj => by rw [List.getD_eq_getElem?_getD, List.getElem?_eq_getElem hj]; rfl
        refine apart_q (fun q => some q = (Value.slice ar F.length cr).ownBlock ∨ ∃ x ∈ F, some q = x.1.ownBlock) B (.slice av m cv) m (fun j => (E.getD j (.slice none 0 0, [])).1) (fun j => (E.getD j (.slice none 0 0, [])).2.length) wr hBr ?_ (fun j hj => ?_) (fun i j hi hj hne => ?_) (by have := HMe.out; have := HA.out.2.2.1; omega) (fun j hj => ?_) (fun j hj b e hq => ?_) (fun q hq => ?_)
        · have h5 := range_getD E (.slice none 0 0, []) Prod.fst
          rw [← HMe.out] at h5
          rw [h5]
          exact row_mono HO.out.1 hB
        · have hj' : j < E.length := by have := HMe.out; omega
          exact ⟨(E[j]).2, by rw [hgd j hj']; exact hEo j hj', by rw [hgd j hj']⟩
        · have hi' : i < E.length := by have := HMe.out; omega
          have hj' : j < E.length := by have := HMe.out; omega
          show (E.getD i _).1.ownBlock = none ∨ (E.getD i _).1.ownBlock ≠ (E.getD j _).1.ownBlock
          rw [hgd i hi', hgd j hj']
          exact apart_sym (f := fun x : Cls => x.1.ownBlock) HA.out.2.1 i j hi' hj' hne
        · have hj' : j < E.length := by have := HMe.out; omega
          show (E.getD j _).2.length * 8 ≤ _
          rw [hgd j hj']
          exact HA.out.2.2.2 _ (List.getElem_mem hj')
        · have hj' : j < E.length := by have := HMe.out; omega
          rw [hgd j hj'] at e
          rcases hq with h5 | ⟨x, hx, h5⟩
          · exact block_apart (by decide) HRw.out (hEo j hj') e h5.symm
          · exact block_apart (by decide) (HFw.out x hx).row (hEo j hj') e h5.symm
        · rcases hq with h5 | ⟨x, hx, h5⟩
          · exact (HRw.out.lt q h5.symm).2
          · exact ((HFw.out x hx).row.lt q h5.symm).2
      have HBw : Hid (Below w.heap.size w wr) := hb
      clear hEo hb
      go_wp2_with fail
      refine Calls.mono HQ.out ?_
      rintro e w2 ⟨rfl, hb2, hq2⟩
      have HRr : Hid (Calls Tryz.prog 66 #[.slice ar F.length cr] w2 fun e w' => e = .returned (.bool true) ∧ Below B w2 w' ∧ ∀ q : Nat, False → w'.heap[q]? = w2.heap[q]?) := by
        have hgd : ∀ j (hj : j < F.length), F.getD j (.slice none 0 0, []) = F[j] := fun j hj => by rw [List.getD_eq_getElem?_getD, List.getElem?_eq_getElem hj]; rfl
        refine apart_r (fun _ => False) B (.slice ar F.length cr) F.length (fun j => (F.getD j (.slice none 0 0, [])).1) (fun j => (F.getD j (.slice none 0 0, [])).2.length) w2 (Nat.le_trans hBr hb2.size) ?_ (fun j hj => ?_) (fun i j hi hj hne => ?_) (by omega) (fun j hj => ?_) (fun j hj b e hq => hq) (fun q hq => hq.elim)
        · rw [range_getD F (.slice none 0 0, []) Prod.fst]
          exact row_kept HRw.out fun q e => hq2 q (.inl e)
        · refine ⟨(F[j]).2.map Prod.fst, ?_, by rw [hgd j hj, List.length_map]⟩
          rw [hgd j hj]
          unfold OwnV
          rw [List.length_map]
          exact row_kept (HFw.out _ (List.getElem_mem hj)).row fun q e => hq2 q (.inr ⟨F[j], List.getElem_mem hj, e⟩)
        · show (F.getD i _).1.ownBlock = none ∨ (F.getD i _).1.ownBlock ≠ (F.getD j _).1.ownBlock
          rw [hgd i hi, hgd j hj]
          exact apart_sym (f := fun x : Value × List Cls => x.1.ownBlock) HA.out.1 i j hi hj hne
        · show (F.getD j _).2.length * 24 ≤ _
          rw [hgd j hj]
          have h5 := HA.out.2.2.1
          have h6 : (F[j]).2.length ≤ E.length := by
            rw [hE]
            exact flat_len hj
          omega
      have HB2 : Hid (Below B w w2) := (HBw.out.mono hB).trans hb2
      clear hb2 hq2 HQ
      go_wp2_with fail
      refine Calls.mono HRr.out ?_
      rintro e w3 ⟨rfl, hb3, -⟩
      have HB3 : Hid (Below B w w3) := HB2.out.trans hb3
      clear hb3
      go_wp2
      go_ret
      exact ⟨rfl, HB3.out⟩
/-- formulas that lie in a row: each its number of variables and its clauses -/
def fcells (F : List (Int × Value × List Cls)) : List Value := F.flatMap fun x => [.int .i64 x.1, x.2.1]
theorem fcells_at : ∀ (F : List (Int × Value × List Cls)) (j : Nat) (hj : j < F.length), (fcells F)[j * 2 + 1]? = some (F[j]).2.1
  | x :: r, 0, _ => rfl
  | x :: r, j + 1, hj => by
    have := fcells_at r j (by simpa using hj)
    have e : fcells (x :: r) = [.int .i64 x.1, x.2.1] ++ fcells r := rfl
    rw [e, List.getElem?_append_right (by simp; omega)]
    simpa [show (j + 1) * 2 + 1 - 2 = j * 2 + 1 by omega] using this
set_option maxRecDepth 100000 in
set_option maxHeartbeats 6400000 in
theorem apartFormulas_any (B : Nat) (rv : Value) (F : List (Int × Value × List Cls)) (w : World) (hB : B ≤ w.heap.size) (hrow : w.ownsRow B 24 2 rv F.length (fcells F)) (hown : ∀ x ∈ F, OwnR B w x.2.1 x.2.2)
    (hapR : (F.map Prod.snd).Pairwise (fun x y => x.1.ownBlock = none ∨ x.1.ownBlock ≠ y.1.ownBlock)) (hapL : ApartC ((F.map Prod.snd).flatMap Prod.snd)) (hF : F.length ≤ 65536) (hL : ((F.map Prod.snd).flatMap Prod.snd).length ≤ 2147483648) (hl : ∀ x ∈ (F.map Prod.snd).flatMap Prod.snd, x.2.length * 8 ≤ 140737488353280) :
    Calls Tryz.prog 30 #[rv] w fun e w' => e = .returned (.bool true) ∧ Below B w w' := by
  obtain ⟨iL, hiL, hL0, hL1, hL2⟩ := info_parts infoLr3
  have HIl : Hid (Tryz.prog.info? 22 = some iL ∧ iL.zero = some (.slice none 0 0) ∧ iL.size = 1 ∧ iL.bytes = 24) := ⟨hiL, hL0, hL1, hL2⟩
  have HRow : Hid (w.ownsRow B 24 2 rv F.length (fcells F)) := hrow
  have HAll : Hid (∀ rv2 w2, Below w.heap.size w w2 → w2.ownsRow w.heap.size 22 1 rv2 F.length ((F.map Prod.snd).map Prod.fst) → Calls Tryz.prog 48 #[rv2] w2 fun e w' => e = .returned (.bool true) ∧ Below B w2 w') := fun rv2 w2 hb2 hr2 => apartClauses_any B rv2 (F.map Prod.snd) w2 (Nat.le_trans hB hb2.size) (by rw [List.length_map]; exact row_mono hr2 hB) (fun x hx => by
    obtain ⟨y, hy, rfl⟩ := List.mem_map.1 hx
    exact (hown y hy).below hb2) hapR hapL (by rw [List.length_map]; exact hF) hL hl
  have HOw : Hid (∀ x ∈ F, OwnR B w x.2.1 x.2.2) := hown
  obtain ⟨ar, cr, er⟩ := row_form' hrow
  subst er
  clear hrow hown hapR hapL hL hl hiL hL0 hL1 hL2
  go_enter Tryz.func30, Tryz.ntmps30
  go_wp2
  go_loopg [3, 4] F.length (fun q r' i' wr => ∃ (k : Nat) (av : Option Addr) (cv : Nat), k + q = F.length ∧ r' = .slice av k cv ∧ i' = .int .i64 k ∧ wr.ownsRow w.heap.size 22 1 (.slice av k cv) k (((F.take k).map Prod.snd).map Prod.fst) ∧ Below w.heap.size w wr)
  case atStart => exact ⟨0, none, 0, by omega, rfl, rfl, World.ownsRow_nil _ _ _ _, Below.refl _ _⟩
  case round =>
    obtain ⟨k, av, cv, hk, rfl, rfl, ho, hb⟩ := hrel
    have HK : Hid (k + gk = F.length) := hk
    have HO : Hid (wr.ownsRow w.heap.size 22 1 (.slice av k cv) k (((F.take k).map Prod.snd).map Prod.fst) ∧ Below w.heap.size w wr) := ⟨ho, hb⟩
    clear hk ho
    by_cases hlt : k < F.length
    · obtain ⟨gr, cr', er, r1, -, -⟩ := row_some HRow.out (by omega)
      injection er with er _ er3
      subst er; subst er3
      have kc0 := row_cell HRow.out (fcells_at F k hlt)
      have kc : wr.cell? ⟨gr, k * 2 + 1, none⟩ = some (F[k]).2.1 := (hb.cell (p := ⟨gr, k * 2 + 1, none⟩) (World.block_lt_of_cell? w _ kc0)).trans kc0
      obtain ⟨ay, cy, ey⟩ := row_form (HOw.out _ (List.getElem_mem hlt)).row
      rw [ey] at kc
      have HTk : Hid (((F.take (k + 1)).map Prod.snd).map Prod.fst = ((F.take k).map Prod.snd).map Prod.fst ++ [.slice ay (F[k]).2.2.length cy]) := by show _ = _; rw [List.take_succ_eq_append_getElem hlt, List.map_append, List.map_append, ← ey]; rfl
      have HLT : Hid (k < F.length) := hlt
      clear kc0 ey hb
      generalize (F[k]).2.2.length = ly at *
      have HOa : Hid ((wr.alloc (.cells #[.slice ay ly cy] 22)).ownsRow w.heap.size 22 1 (.slice av k cv) k (((F.take k).map Prod.snd).map Prod.fst)) := World.ownsRow.alloc HO.out.1 _
      have HNa : Hid (∀ j y, [Value.slice ay ly cy][j]? = some y → (wr.alloc (.cells #[.slice ay ly cy] 22)).cell? ((⟨wr.heap.size, 0, none⟩ : Addr).add j) = some y) := cell_one_new wr _ _
      have HSa : Hid (w.heap.size ≤ (wr.alloc (.cells #[.slice ay ly cy] 22)).heap.size) := Nat.le_trans HO.out.2.size (below_box _ _).size
      have hl63 : k + 1 ≤ maxLen := by unfold maxLen; omega
      have hl48 : (k + 1) * 24 ≤ 140737488355328 := by omega
      have HBa : Hid (∀ v5 w5, Ap (wr.alloc (.cells #[.slice ay ly cy] 22)) (.slice av k cv) w5 v5 → Below w.heap.size w w5) := fun v5 w5 ha => (Below.step HO.out.2 (below_box _ _)).grown ha.grown HSa.out (fun q e => (HOa.out.lt q e).1)
      go_wp2_with (at_builtin; refine wpList_append_apk rfl _ _ 81 rfl w.heap.size 22 iL (.slice none 0 0) 1 24 Tryz.underlying81 HIl.out.1 HIl.out.2.1 HIl.out.2.2.1 HIl.out.2.2.2 rfl (by decide) (.slice av k cv) k (((F.take k).map Prod.snd).map Prod.fst) rfl HOa.out ⟨wr.heap.size, 0, none⟩ 1 1 [.slice ay ly cy] rfl rfl HNa.out (by simp [Value.oneCell']) hl63 hl48 HSa.out ?_; intro v5 w5 own5 ap5; obtain ⟨a5, c5, hv5⟩ := row_form' own5; subst hv5; have F5 : Hid (w5.ownsRow w.heap.size 22 1 (.slice a5 (k + 1) c5) (k + 1) (((F.take k).map Prod.snd).map Prod.fst ++ [.slice ay ly cy]) ∧ Below w.heap.size w w5) := ⟨own5, HBa.out _ _ ap5⟩; clear own5 ap5)
      go_roundg (gk - 1)
      case measure => have := HK.out; have := HLT.out; omega
      case rel => exact ⟨k + 1, a5, c5, by have := HK.out; have := HLT.out; omega, rfl, by go_num, by rw [HTk.out]; exact F5.out.1, F5.out.2⟩
    · obtain rfl : k = F.length := by have := HK.out; omega
      have HC : Hid (Calls Tryz.prog 48 #[.slice av F.length cv] wr fun e w' => e = .returned (.bool true) ∧ Below B wr w') := HAll.out _ wr HO.out.2 (by have := HO.out.1; rw [List.take_length] at this; exact this)
      clear hb
      go_wp2_with fail
      refine Calls.mono HC.out ?_
      rintro e w3 ⟨rfl, hb3⟩
      have HB3 : Hid (Below B w w3) := (HO.out.2.mono hB).trans hb3
      clear hb3
      go_wp2
      go_ret
      exact ⟨rfl, HB3.out⟩
end Go.Proofs.YtlkbbbbclmffjaaGreatDoor
set_option linter.unusedSimpArgs false
set_option linter.unusedVariables false
namespace Go.Proofs.YtlkbbbbclmffjaaGreatDoor
open Go Go.RowKit Go.Shelf

theorem Fr.toBelow2 {Q : Nat → Prop} {B : Nat} {w W W' : World} (h : Below B w W) (hf : Fr Q W W') (hB : B ≤ W.heap.size) (hq : ∀ k, Q k → B ≤ k) : Below B w W' :=
  ⟨hf.os.trans h.os, hf.tape.trans h.tape, hf.output.trans h.output, Nat.le_trans h.size hf.size, fun k hk => (hf.block k (by omega) (fun e => by have := hq k e; omega)).trans (h.block k hk)⟩
/-- a head of a list of one's own is read -/
theorem own_hd {B : Nat} {W : World} {a : Option Addr} {c n : Nat} {z T : List Int} (h : Own B W (.slice a n c) (z ++ T)) (hn : z.length ≤ n) (hz : z.length * 8 ≤ 140737488351232) : Rd W (.slice a z.length c) z := by
  rcases h.2 with ⟨e1, h0⟩ | ⟨g, cap, cur, e, hb, hg, h1, h2, h3, h4⟩
  · injection e1 with e1 e2 e3
    subst e1; subst e3
    have hz0 : z = [] := by
      cases z with
      | nil => rfl
      | cons x r => simp at h0
    subst hz0
    exact Rd.nil _
  · injection e with e1 e2 e3
    subst e1; subst e3
    have hl : (z ++ T).length = z.length + T.length := List.length_append
    refine ⟨hz, some ⟨g, 0, none⟩, c, rfl, by omega, h2, (fun h => by cases h), fun _ => ⟨g, 0, rfl, (h.lt g rfl).2, fun j hj => ?_⟩⟩
    have hx : W.ownsRow B 3 1 (.slice (some ⟨g, 0, none⟩) (z ++ T).length c) (z ++ T).length ((z ++ T).map (Value.int .i64)) := by
      have h5 := h
      unfold Own at h5
      subst e2
      exact h5
    have := row_cell hx (j := j) (x := .int .i64 (z.getD j 0)) (by
      rw [List.getElem?_map, List.getElem?_append_left hj, List.getElem?_eq_getElem hj, List.getD_eq_getElem?_getD, List.getElem?_eq_getElem hj]; rfl)
    rw [Nat.zero_add]
    exact this
/-- boxes, answers that lie apart, and a rest, in a world that has grown -/
structure Kx (w0 : World) (S : Nat) (Wr W : World) (bs : List (Nat × Value × Value)) (fs : List (Int × Value × List Cls)) : Prop where
  bel : Below w0.heap.size w0 W
  lo : w0.heap.size ≤ S
  sz : S ≤ W.heap.size
  bx : ∀ b ∈ bs, Bx2 W b.1 24 b.2.1 b.2.2 ∧ S ≤ b.1
  own : ∀ x ∈ fs, OwnR S W x.2.1 x.2.2
  apR : (fs.map Prod.snd).Pairwise (fun x y => x.1.ownBlock = none ∨ x.1.ownBlock ≠ y.1.ownBlock)
  apL : ApartC ((fs.map Prod.snd).flatMap Prod.snd)
  ref : Below Wr.heap.size Wr W
section
variable {w0 Wr W W' : World} {S : Nat} {bs : List (Nat × Value × Value)} {fs : List (Int × Value × List Cls)}
theorem Kx.start (hb : Below w0.heap.size w0 W) (hl : w0.heap.size ≤ S) (hS : S ≤ W.heap.size) : Kx w0 S W W [] [] :=
  ⟨hb, hl, hS, fun b hb => (by cases hb), fun x hx => (by cases hx), List.Pairwise.nil, List.Pairwise.nil, Below.refl _ _⟩
theorem Kx.below (h : Kx w0 S Wr W bs fs) (hb : Below W.heap.size W W') : Kx w0 S Wr W' bs fs :=
  ⟨Below.step h.bel hb, h.lo, Nat.le_trans h.sz hb.size, fun b hb' => ⟨(h.bx b hb').1.below hb, (h.bx b hb').2⟩, fun x hx => (h.own x hx).below hb, h.apR, h.apL, Below.step h.ref hb⟩
theorem Kx.box (h : Kx w0 S Wr W bs fs) (x y : Value) : Kx w0 S Wr (W.alloc (.cells #[x, y] 24)) (bs ++ [(W.heap.size, x, y)]) fs := by
  have h1 := h.below (below_box W (.cells #[x, y] 24))
  refine ⟨h1.bel, h1.lo, h1.sz, fun b hb => ?_, h1.own, h1.apR, h1.apL, h1.ref⟩
  rcases List.mem_append.1 hb with h2 | h2
  · exact h1.bx b h2
  · rw [List.mem_singleton.1 h2]
    exact ⟨Bx2.new _ _ _ _, h.sz⟩
theorem Kx.call (h : Kx w0 S Wr W bs fs) (hb : Below W.heap.size W W') {s : Value} {css : List (List Int)} (ho : OwnF W.heap.size W' s css) (n : Int) : ∃ L, L.map Prod.snd = css ∧ Kx w0 S Wr W' bs (fs ++ [(n, s, L)]) := by
  obtain ⟨L, hL, e⟩ := ho
  have h1 := h.below hb
  refine ⟨L, e, h1.bel, h1.lo, h1.sz, h1.bx, fun x hx => ?_, ?_, ?_, h1.ref⟩
  · rcases List.mem_append.1 hx with h2 | h2
    · exact h1.own x h2
    · rw [List.mem_singleton.1 h2]
      exact hL.mono h.sz
  · rw [List.map_append, List.pairwise_append]
    refine ⟨h.apR, by simp, fun x hx y hy => ?_⟩
    obtain ⟨x', hx', rfl⟩ := List.mem_map.1 hx
    simp only [List.map_cons, List.map_nil, List.mem_singleton] at hy
    subst hy
    cases hv : x'.2.1.ownBlock with
    | none => exact .inl rfl
    | some g =>
      refine .inr fun e2 => ?_
      have h3 := ((h.own x' hx').row.lt g hv).2
      have h4 := (hL.row.lt g e2.symm).1
      omega
  · rw [List.map_append, List.flatMap_append]
    refine List.pairwise_append.2 ⟨h.apL, by show ApartC (([(n, s, L)].map Prod.snd).flatMap Prod.snd); rw [show ([(n, s, L)].map Prod.snd).flatMap Prod.snd = L by simp]; exact hL.ap, fun x hx y hy => ?_⟩
    obtain ⟨f, hf, hxf⟩ := List.mem_flatMap.1 hx
    obtain ⟨x', hx', rfl⟩ := List.mem_map.1 hf
    have hy' : y ∈ L := by simpa using hy
    cases hv : x.1.ownBlock with
    | none => exact .inl rfl
    | some g =>
      refine .inr fun e2 => ?_
      have h3 := (((h.own x' hx').own x hxf).lt g hv).2
      have h4 := ((hL.own y hy').lt g e2.symm).1
      omega
theorem Kx.tail {x : Int × Value × List Cls} (h : Kx w0 S Wr W bs (x :: fs)) : Kx w0 S Wr W bs fs :=
  ⟨h.bel, h.lo, h.sz, h.bx, fun y hy => h.own y (List.mem_cons_of_mem _ hy), (List.pairwise_cons.1 h.apR).2, (List.pairwise_append.1 (show ApartC (x.2.2 ++ (fs.map Prod.snd).flatMap Prod.snd) from h.apL)).2.1, h.ref⟩
theorem own_out {e s n : Nat} {B : Nat} {Q : Nat → Prop} {v : Value} {xs : List Value} (h : W.ownsRow B e s v n xs) (hf : Fr Q W W') (hq : ∀ k, Q k → k < B) : W'.ownsRow B e s v n xs := row_kept h fun k e => hf.block k (h.lt k e.symm).2 (fun hk => by have h1 := (h.lt k e.symm).1; have h2 := hq k hk; omega)
theorem ownr_out {B : Nat} {Q : Nat → Prop} {v : Value} {L : List Cls} (h : OwnR B W v L) (hf : Fr Q W W') (hq : ∀ k, Q k → k < B) : OwnR B W' v L := ⟨own_out h.row hf hq, fun x hx => own_out (h.own x hx) hf hq, h.ap⟩
theorem Kx.out {Q : Nat → Prop} (h : Kx w0 S Wr W bs fs) (hf : Fr Q W W') (hq : ∀ k, Q k → w0.heap.size ≤ k ∧ k < S) : Kx w0 S W' W' bs fs :=
  ⟨hf.toBelow2 h.bel h.bel.size (fun k hk => (hq k hk).1), h.lo, Nat.le_trans h.sz hf.size, fun b hb => ⟨(hf.block _ (h.bx b hb).1.lt (fun hk => by have h1 := (hq _ hk).2; have h2 := (h.bx b hb).2; omega)).trans (h.bx b hb).1, (h.bx b hb).2⟩, fun x hx => ownr_out (h.own x hx) hf (fun k hk => (hq k hk).2), h.apR, h.apL, Below.refl _ _⟩
/-- a box that is filled -/
theorem Kx.fill (h : Kx w0 S Wr W bs fs) {D : Nat} {x y : Value} (hD : Bx2 W D 24 x y) (h1 : S ≤ D) (h2 : Wr.heap.size ≤ D) (h3 : ∀ b ∈ bs, b.1 ≠ D) (x' y' : Value) : Kx w0 S Wr ((W.setCell ⟨D, 0, none⟩ x').setCell ⟨D, 1, none⟩ y') (bs ++ [(D, x', y')]) fs := by
  have hb := (hD.set0 x')
  refine ⟨below_set (below_set h.bel (Nat.le_trans h.lo h1) _ _) (Nat.le_trans h.lo h1) _ _, h.lo, ?_, fun b hb' => ?_, fun x hx => ((h.own x hx).set hD (by decide) (by decide) _ _).set hb (by decide) (by decide) _ _, h.apR, h.apL, below_set (below_set h.ref h2 _ _) h2 _ _⟩
  · exact Nat.le_trans h.sz (Nat.le_trans (grown_set W ⟨D, 0, none⟩ x').size (grown_set _ ⟨D, 1, none⟩ y').size)
  · rcases List.mem_append.1 hb' with e | e
    · have := h.bx b e
      have hne := h3 b e
      exact ⟨(this.1.kept (grown_set W ⟨D, 0, none⟩ x') (by simpa using hne)).kept (grown_set _ ⟨D, 1, none⟩ y') (by simpa using hne), this.2⟩
    · rw [List.mem_singleton.1 e]
      exact ⟨hb.set1 y', h1⟩
/-- an answer's box -/
theorem Kx.ans (h : Kx w0 S Wr W bs fs) (hb : Below W.heap.size W W') {s : Value} {css : List (List Int)} (ho : OwnF W.heap.size W' s css) (n : Int) : ∃ L, L.map Prod.snd = css ∧ Kx w0 S Wr (W'.alloc (.cells #[.int .i64 n, s] 24)) (bs ++ [(W'.heap.size, .int .i64 n, s)]) (fs ++ [(n, s, L)]) := by
  obtain ⟨L, e, h1⟩ := h.call hb ho n
  exact ⟨L, e, h1.box _ _⟩
/-- an answer's box that was made ahead of the call -/
theorem Kx.ans2 {x y : Value} (h : Kx w0 S Wr W bs fs) (hb : Below (W.alloc (.cells #[x, y] 24)).heap.size (W.alloc (.cells #[x, y] 24)) W') {s : Value} {css : List (List Int)} (ho : OwnF (W.alloc (.cells #[x, y] 24)).heap.size W' s css) (n : Int) : ∃ L, L.map Prod.snd = css ∧ Kx w0 S Wr ((W'.setCell ⟨W.heap.size, 0, none⟩ (.int .i64 n)).setCell ⟨W.heap.size, 1, none⟩ s) (bs ++ [(W.heap.size, .int .i64 n, s)]) (fs ++ [(n, s, L)]) := by
  obtain ⟨L, e, h1⟩ := (h.below (below_box W _)).call hb ho n
  exact ⟨L, e, h1.fill ((Bx2.new W _ x y).below hb) h.sz h.ref.size (fun b hb' e2 => by have := (h.bx b hb').1.lt; omega) _ _⟩
/-- the answer of a region that draws its order -/
def An (w0 : World) (S : Nat) (Wr : World) (bs : List (Nat × Value × Value)) (fs : List (Int × Value × List Cls)) (u : Int) (cs : List (List Int)) (p : Value) (W : World) : Prop :=
  ∃ D a c L, p = .pointer (some ⟨D, 0, none⟩) ∧ L.map Prod.snd = cs ∧ Kx w0 S Wr W (bs ++ [(D, .int .i64 u, .slice a cs.length c)]) (fs ++ [(u, .slice a cs.length c, L)])
theorem Kx.rds (h : Kx w0 S Wr W bs fs) {n : Int} {s : Value} {L : List Cls} {css : List (List Int)} (hm : (n, s, L) ∈ fs) (e : L.map Prod.snd = css) (h24 : css.length * 24 ≤ 140737488351232) (h8 : ∀ z ∈ css, z.length * 8 ≤ 140737488351232) : Rds W s css :=
  OwnF.rds ⟨L, h.own _ hm, e⟩ h24 h8
end
theorem fcells_len (F : List (Int × Value × List Cls)) : (fcells F).length = F.length * 2 := by
  induction F with
  | nil => rfl
  | cons x r ih =>
    have e : fcells (x :: r) = [.int .i64 x.1, x.2.1] ++ fcells r := rfl
    rw [e, List.length_append, ih]
    simp; omega
/-- all that a Kx holds lies apart -/
theorem Kx.apart {w0 Wr W : World} {S : Nat} {bs : List (Nat × Value × Value)} {fs : List (Int × Value × List Cls)} (h : Kx w0 S Wr W bs fs) (hn : fs.length ≤ 8) (hl : ∀ x ∈ fs, x.2.2.length ≤ 16777216) (hz : ∀ x ∈ fs, ∀ y ∈ x.2.2, y.2.length * 8 ≤ 140737488353280) :
    Calls Tryz.prog 30 #[.slice (some ⟨W.heap.size, 0, none⟩) fs.length fs.length] (W.alloc (.cells (fcells fs).toArray 24)) fun e w' => e = .returned (.bool true) ∧ Below w0.heap.size w0 w' := by
  have hb := below_box W (.cells (fcells fs).toArray 24)
  have h1 := h.below hb
  refine (apartFormulas_any S _ fs _ h1.sz ?_ h1.own h.apR h.apL (by omega) ?_ ?_).mono ?_
  · have := World.ownsRow_lit (base := S) (e := 24) (size := 2) W (fcells fs).toArray fs.length h.sz (by unfold maxLen; omega) (by simp [fcells_len])
    simpa using this
  · have : ∀ gs : List (Int × Value × List Cls), (∀ x ∈ gs, x.2.2.length ≤ 16777216) → ((gs.map Prod.snd).flatMap Prod.snd).length ≤ gs.length * 16777216 := by
      intro gs
      induction gs with
      | nil => intro _; simp
      | cons x r ih =>
        intro hg
        have h2 := ih (fun y hy => hg y (List.mem_cons_of_mem _ hy))
        have h3 := hg x (List.mem_cons_self ..)
        simp only [List.map_cons, List.flatMap_cons, List.length_append, List.length_cons] at h2 ⊢
        omega
    have := this fs hl
    omega
  · intro y hy
    obtain ⟨f, hf, hyf⟩ := List.mem_flatMap.1 hy
    obtain ⟨x, hx, rfl⟩ := List.mem_map.1 hf
    exact hz x hx y hyf
  · rintro e w' ⟨rfl, hbw⟩
    exact ⟨rfl, h1.bel.trans (hbw.mono h.lo)⟩
end Go.Proofs.YtlkbbbbclmffjaaGreatDoor
set_option linter.unusedSimpArgs false
set_option linter.unusedVariables false
namespace Go.Proofs.YtlkbbbbclmffjaaGreatDoor
open Go Go.RowKit Go.Shelf

set_option maxRecDepth 100000 in
set_option maxHeartbeats 6400000 in
theorem apartClauses_q (Q : Nat → Prop) (B : Nat) (rv : Value) (F : List (Value × List Cls)) (w : World) (hB : B ≤ w.heap.size) (hrow : w.ownsRow B 22 1 rv F.length (F.map Prod.fst)) (hown : ∀ x ∈ F, OwnR B w x.1 x.2)
    (hapR : F.Pairwise (fun x y => x.1.ownBlock = none ∨ x.1.ownBlock ≠ y.1.ownBlock)) (hapL : ApartC (F.flatMap Prod.snd)) (hF : F.length ≤ 65536) (hL : (F.flatMap Prod.snd).length ≤ 2147483648) (hl : ∀ x ∈ F.flatMap Prod.snd, x.2.length * 8 ≤ 140737488353280) (hQs : ∀ k, Q k → k < w.heap.size) (hQr : ∀ x ∈ F, ∀ b, x.1.ownBlock = some b → ¬ Q b) (hQl : ∀ x ∈ F.flatMap Prod.snd, ∀ b, x.1.ownBlock = some b → ¬ Q b) :
    Calls Tryz.prog 48 #[rv] w fun e w' => e = .returned (.bool true) ∧ Below B w w' ∧ ∀ k, Q k → w'.heap[k]? = w.heap[k]? := by
  have HQq : Hid ((∀ k, Q k → k < w.heap.size) ∧ (∀ x ∈ F, ∀ b, x.1.ownBlock = some b → ¬ Q b) ∧ (∀ x ∈ F.flatMap Prod.snd, ∀ b, x.1.ownBlock = some b → ¬ Q b)) := ⟨hQs, hQr, hQl⟩
  clear hQs hQr hQl
  obtain ⟨iL, hiL, hL0, hL1, hL2⟩ := info_parts infoL
  have HIl : Hid (Tryz.prog.info? 43 = some iL ∧ iL.zero = some (.slice none 0 0) ∧ iL.size = 1 ∧ iL.bytes = 24) := ⟨hiL, hL0, hL1, hL2⟩
  have HF : Hid (∀ x ∈ F, OwnR B w x.1 x.2) := hown
  have HA : Hid (F.Pairwise (fun x y => x.1.ownBlock = none ∨ x.1.ownBlock ≠ y.1.ownBlock) ∧ ApartC (F.flatMap Prod.snd) ∧ (F.flatMap Prod.snd).length ≤ 2147483648 ∧ (∀ x ∈ F.flatMap Prod.snd, x.2.length * 8 ≤ 140737488353280)) := ⟨hapR, hapL, hL, hl⟩
  have HRow : Hid (w.ownsRow B 22 1 rv F.length (F.map Prod.fst)) := hrow
  obtain ⟨ar, cr, er⟩ : ∃ ar cr, rv = .slice ar F.length cr := row_slice hrow
  have HRv : Hid (rv = .slice ar F.length cr) := er
  subst er
  clear hrow hown hapR hapL hL hl hiL hL0 hL1 hL2
  go_enter Tryz.func48, Tryz.ntmps48
  go_wp2
  go_loopg [3, 4] F.length (fun q r' i' wr => ∃ (k : Nat) (av : Option Addr) (cv m : Nat), k + q = F.length ∧ r' = .slice av m cv ∧ i' = .int .i64 k ∧ m = ((F.take k).flatMap Prod.snd).length ∧ wr.ownsRow w.heap.size 43 1 (.slice av m cv) m (((F.take k).flatMap Prod.snd).map Prod.fst) ∧ Below w.heap.size w wr)
  case atStart => exact ⟨0, none, 0, 0, by omega, rfl, rfl, rfl, World.ownsRow_nil _ _ _ _, Below.refl _ _⟩
  case round =>
    obtain ⟨k, av, cv, m, hk, rfl, rfl, hm, ho, hb⟩ := hrel
    have HK : Hid (k + gk = F.length) := hk
    have HO : Hid (wr.ownsRow w.heap.size 43 1 (.slice av m cv) m (((F.take k).flatMap Prod.snd).map Prod.fst) ∧ Below w.heap.size w wr ∧ m = ((F.take k).flatMap Prod.snd).length) := ⟨ho, hb, hm⟩
    clear hk ho hm
    by_cases hlt : k < F.length
    · obtain ⟨gr, cr', er, r1, -, -⟩ := row_some (HRow.out) (by omega)
      injection er with er _ er3
      subst er; subst er3
      have hrw : wr.ownsRow B 22 1 (.slice (some ⟨gr, 0, none⟩) F.length cr) F.length (F.map Prod.fst) := row_kept HRow.out fun q e => hb.block q (HRow.out.lt q e.symm).2
      have kc := row_cell hrw (j := k) (x := (F[k]).1) (by rw [List.getElem?_map, List.getElem?_eq_getElem hlt]; rfl)
      have hfk := (HF.out _ (List.getElem_mem hlt)).below hb
      obtain ⟨ay, cy, ey⟩ := row_form hfk.row
      rw [ey] at kc
      have HFk : Hid (wr.ownsRow B 43 1 (.slice ay (F[k]).2.length cy) (F[k]).2.length ((F[k]).2.map Prod.fst) ∧ ∀ u ∈ (F[k]).2.map Prod.fst, u.oneCell' = true) := ⟨by rw [← ey]; exact hfk.row, cls_one hfk⟩
      have HTk : Hid ((F.take (k + 1)).flatMap Prod.snd = (F.take k).flatMap Prod.snd ++ (F[k]).2) := by show _ = _; rw [List.take_succ_eq_append_getElem hlt, List.flatMap_append]; simp
      have HLen : Hid (m + (F[k]).2.length ≤ 2147483648) := by
        have h5 := HA.out.2.2.1
        have h6 : ((F.take (k + 1)).flatMap Prod.snd).length ≤ (F.flatMap Prod.snd).length := by
          have h7 : F.flatMap Prod.snd = (F.take (k + 1)).flatMap Prod.snd ++ (F.drop (k + 1)).flatMap Prod.snd := by rw [← List.flatMap_append, List.take_append_drop]
          rw [h7, List.length_append]; omega
        rw [HTk.out, List.length_append, ← HO.out.2.2] at h6
        show _ ≤ _
        omega
      have HLT : Hid (k < F.length) := hlt
      have hl5 := HLen.out
      have hl63 : m + (F[k]).2.length ≤ maxLen := by unfold maxLen; omega
      have hl48 : (m + (F[k]).2.length) * 24 ≤ 140737488355328 := by omega
      clear hrw hfk ey hb
      generalize (F[k]).2 = Lk at *
      have HSw : Hid (w.heap.size ≤ wr.heap.size) := HO.out.2.1.size
      go_wp2_with (at_builtin; refine wpList_append_rows rfl _ _ 22 rfl w.heap.size B 43 iL (.slice none 0 0) 24 Tryz.underlying22 HIl.out.1 HIl.out.2.1 HIl.out.2.2.1 HIl.out.2.2.2 rfl (.slice av m cv) (.slice ay Lk.length cy) m Lk.length (((F.take k).flatMap Prod.snd).map Prod.fst) (Lk.map Prod.fst) rfl rfl HO.out.1 HFk.out.1 HFk.out.2 hl63 hl48 HSw.out ?_; intro v5 w5 own5 ap5; obtain ⟨a5, c5, hv5⟩ := row_form' own5; subst hv5; have F5 : Hid (w5.ownsRow w.heap.size 43 1 (.slice a5 (m + Lk.length) c5) (m + Lk.length) (((F.take k).flatMap Prod.snd).map Prod.fst ++ Lk.map Prod.fst) ∧ Below w.heap.size w w5) := ⟨own5, HO.out.2.1.grown ap5.grown HSw.out (fun q e => (HO.out.1.lt q e).1)⟩; clear own5 ap5)
      go_roundg (gk - 1)
      case measure => have := HK.out; have := HLT.out; omega
      case rel => exact ⟨k + 1, a5, c5, m + Lk.length, by have := HK.out; have := HLT.out; omega, rfl, by go_num, by rw [HTk.out, List.length_append, ← HO.out.2.2], by rw [HTk.out, List.map_append]; exact F5.out.1, F5.out.2⟩
    · have hke : k = F.length := by have := HK.out; omega
      rw [hke, List.take_length] at HO
      obtain ⟨E, hE⟩ : ∃ E, E = F.flatMap Prod.snd := ⟨_, rfl⟩
      rw [← hE] at HO HA HQq
      have HMe : Hid (m = E.length) := HO.out.2.2
      have hBr : B ≤ wr.heap.size := Nat.le_trans hB hb.size
      have HFw : Hid (∀ x ∈ F, OwnR B wr x.1 x.2) := fun x hx => (HF.out x hx).below hb
      have HRw : Hid (wr.ownsRow B 22 1 (.slice ar F.length cr) F.length (F.map Prod.fst)) := row_kept HRow.out fun q e => hb.block q (HRow.out.lt q e.symm).2
      have hEo : ∀ (j : Nat) (hj : j < E.length), Own B wr (E[j]).1 (E[j]).2 := fun j hj => by
        have h5 : ∀ x ∈ E, x ∈ F.flatMap Prod.snd := fun x hx => by rw [← hE]; exact hx
        obtain ⟨x, hx, h6⟩ := List.mem_flatMap.1 (h5 _ (List.getElem_mem hj))
        have := (HFw.out x hx).own _ h6
        exact this
      have HQ : Hid (Calls Tryz.prog 65 #[.slice av m cv] wr fun e w' => e = .returned (.bool true) ∧ Below B wr w' ∧ ∀ q, ((some q = (Value.slice ar F.length cr).ownBlock ∨ ∃ x ∈ F, some q = x.1.ownBlock) ∨ Q q) → w'.heap[q]? = wr.heap[q]?) := by
        have hgd : ∀ j (hj : j < E.length), E.getD j (.slice none 0 0, []) = E[j] := fun j hj => by rw [List.getD_eq_getElem?_getD, List.getElem?_eq_getElem hj]; rfl
        refine apart_q (fun q => (some q = (Value.slice ar F.length cr).ownBlock ∨ ∃ x ∈ F, some q = x.1.ownBlock) ∨ Q q) B (.slice av m cv) m (fun j => (E.getD j (.slice none 0 0, [])).1) (fun j => (E.getD j (.slice none 0 0, [])).2.length) wr hBr ?_ (fun j hj => ?_) (fun i j hi hj hne => ?_) (by have := HMe.out; have := HA.out.2.2.1; omega) (fun j hj => ?_) (fun j hj b e hq => ?_) (fun q hq => ?_)
        · have h5 := range_getD E (.slice none 0 0, []) Prod.fst
          rw [← HMe.out] at h5
          rw [h5]
          exact row_mono HO.out.1 hB
        · have hj' : j < E.length := by have := HMe.out; omega
          exact ⟨(E[j]).2, by rw [hgd j hj']; exact hEo j hj', by rw [hgd j hj']⟩
        · have hi' : i < E.length := by have := HMe.out; omega
          have hj' : j < E.length := by have := HMe.out; omega
          show (E.getD i _).1.ownBlock = none ∨ (E.getD i _).1.ownBlock ≠ (E.getD j _).1.ownBlock
          rw [hgd i hi', hgd j hj']
          exact apart_sym (f := fun x : Cls => x.1.ownBlock) HA.out.2.1 i j hi' hj' hne
        · have hj' : j < E.length := by have := HMe.out; omega
          show (E.getD j _).2.length * 8 ≤ _
          rw [hgd j hj']
          exact HA.out.2.2.2 _ (List.getElem_mem hj')
        · have hj' : j < E.length := by have := HMe.out; omega
          rw [hgd j hj'] at e
          rcases hq with (h5 | ⟨x, hx, h5⟩) | h5
          · exact block_apart (by decide) HRw.out (hEo j hj') e h5.symm
          · exact block_apart (by decide) (HFw.out x hx).row (hEo j hj') e h5.symm
          · exact HQq.out.2.2 _ (List.getElem_mem hj') b e h5
        · rcases hq with (h5 | ⟨x, hx, h5⟩) | h5
          · exact (HRw.out.lt q h5.symm).2
          · exact ((HFw.out x hx).row.lt q h5.symm).2
          · exact Nat.lt_of_lt_of_le (HQq.out.1 q h5) hb.size
      have HBw : Hid (Below w.heap.size w wr) := hb
      clear hEo hb
      go_wp2_with fail
      refine Calls.mono HQ.out ?_
      rintro e w2 ⟨rfl, hb2, hq2⟩
      have HRr : Hid (Calls Tryz.prog 66 #[.slice ar F.length cr] w2 fun e w' => e = .returned (.bool true) ∧ Below B w2 w' ∧ ∀ q : Nat, Q q → w'.heap[q]? = w2.heap[q]?) := by
        have hgd : ∀ j (hj : j < F.length), F.getD j (.slice none 0 0, []) = F[j] := fun j hj => by rw [List.getD_eq_getElem?_getD, List.getElem?_eq_getElem hj]; rfl
        refine apart_r Q B (.slice ar F.length cr) F.length (fun j => (F.getD j (.slice none 0 0, [])).1) (fun j => (F.getD j (.slice none 0 0, [])).2.length) w2 (Nat.le_trans hBr hb2.size) ?_ (fun j hj => ?_) (fun i j hi hj hne => ?_) (by omega) (fun j hj => ?_) (fun j hj b e hq => by rw [hgd j hj] at e; exact HQq.out.2.1 _ (List.getElem_mem hj) b e hq) (fun q hq => Nat.lt_of_lt_of_le (HQq.out.1 q hq) (Nat.le_trans HBw.out.size hb2.size))
        · rw [range_getD F (.slice none 0 0, []) Prod.fst]
          exact row_kept HRw.out fun q e => hq2 q (.inl (.inl e))
        · refine ⟨(F[j]).2.map Prod.fst, ?_, by rw [hgd j hj, List.length_map]⟩
          rw [hgd j hj]
          unfold OwnV
          rw [List.length_map]
          exact row_kept (HFw.out _ (List.getElem_mem hj)).row fun q e => hq2 q (.inl (.inr ⟨F[j], List.getElem_mem hj, e⟩))
        · show (F.getD i _).1.ownBlock = none ∨ (F.getD i _).1.ownBlock ≠ (F.getD j _).1.ownBlock
          rw [hgd i hi, hgd j hj]
          exact apart_sym (f := fun x : Value × List Cls => x.1.ownBlock) HA.out.1 i j hi hj hne
        · show (F.getD j _).2.length * 24 ≤ _
          rw [hgd j hj]
          have h5 := HA.out.2.2.1
          have h6 : (F[j]).2.length ≤ E.length := by
            rw [hE]
            exact flat_len hj
          omega
      have HB2 : Hid (Below B w w2) := (HBw.out.mono hB).trans hb2
      have HQ2 : Hid (∀ k, Q k → w2.heap[k]? = w.heap[k]?) := fun k hk => (hq2 k (.inr hk)).trans (HBw.out.block k (HQq.out.1 k hk))
      clear hb2 hq2 HQ
      go_wp2_with fail
      refine Calls.mono HRr.out ?_
      rintro e w3 ⟨rfl, hb3, hq3⟩
      have HB3 : Hid (Below B w w3 ∧ ∀ k, Q k → w3.heap[k]? = w.heap[k]?) := ⟨HB2.out.trans hb3, fun k hk => (hq3 k hk).trans (HQ2.out k hk)⟩
      clear hb3 hq3
      go_wp2
      go_ret
      exact ⟨rfl, HB3.out⟩
set_option maxRecDepth 100000 in
set_option maxHeartbeats 6400000 in
theorem apartFormulas_q (Q : Nat → Prop) (B : Nat) (rv : Value) (F : List (Int × Value × List Cls)) (w : World) (hB : B ≤ w.heap.size) (hrow : w.ownsRow B 24 2 rv F.length (fcells F)) (hown : ∀ x ∈ F, OwnR B w x.2.1 x.2.2)
    (hapR : (F.map Prod.snd).Pairwise (fun x y => x.1.ownBlock = none ∨ x.1.ownBlock ≠ y.1.ownBlock)) (hapL : ApartC ((F.map Prod.snd).flatMap Prod.snd)) (hF : F.length ≤ 65536) (hL : ((F.map Prod.snd).flatMap Prod.snd).length ≤ 2147483648) (hl : ∀ x ∈ (F.map Prod.snd).flatMap Prod.snd, x.2.length * 8 ≤ 140737488353280) (hQs : ∀ k, Q k → k < w.heap.size) (hQr : ∀ x ∈ F.map Prod.snd, ∀ b, x.1.ownBlock = some b → ¬ Q b) (hQl : ∀ x ∈ (F.map Prod.snd).flatMap Prod.snd, ∀ b, x.1.ownBlock = some b → ¬ Q b) :
    Calls Tryz.prog 30 #[rv] w fun e w' => e = .returned (.bool true) ∧ Below B w w' ∧ ∀ k, Q k → w'.heap[k]? = w.heap[k]? := by
  obtain ⟨iL, hiL, hL0, hL1, hL2⟩ := info_parts infoLr3
  have HIl : Hid (Tryz.prog.info? 22 = some iL ∧ iL.zero = some (.slice none 0 0) ∧ iL.size = 1 ∧ iL.bytes = 24) := ⟨hiL, hL0, hL1, hL2⟩
  have HRow : Hid (w.ownsRow B 24 2 rv F.length (fcells F)) := hrow
  have HAll : Hid (∀ rv2 w2, Below w.heap.size w w2 → w2.ownsRow w.heap.size 22 1 rv2 F.length ((F.map Prod.snd).map Prod.fst) → Calls Tryz.prog 48 #[rv2] w2 fun e w' => e = .returned (.bool true) ∧ Below B w2 w' ∧ ∀ k, Q k → w'.heap[k]? = w2.heap[k]?) := fun rv2 w2 hb2 hr2 => apartClauses_q Q B rv2 (F.map Prod.snd) w2 (Nat.le_trans hB hb2.size) (by rw [List.length_map]; exact row_mono hr2 hB) (fun x hx => by
    obtain ⟨y, hy, rfl⟩ := List.mem_map.1 hx
    exact (hown y hy).below hb2) hapR hapL (by rw [List.length_map]; exact hF) hL hl (fun k hk => Nat.lt_of_lt_of_le (hQs k hk) hb2.size) hQr hQl
  have HQs : Hid (∀ k, Q k → k < w.heap.size) := hQs
  have HOw : Hid (∀ x ∈ F, OwnR B w x.2.1 x.2.2) := hown
  obtain ⟨ar, cr, er⟩ := row_form' hrow
  subst er
  clear hrow hown hapR hapL hL hl hQs hQr hQl hiL hL0 hL1 hL2
  go_enter Tryz.func30, Tryz.ntmps30
  go_wp2
  go_loopg [3, 4] F.length (fun q r' i' wr => ∃ (k : Nat) (av : Option Addr) (cv : Nat), k + q = F.length ∧ r' = .slice av k cv ∧ i' = .int .i64 k ∧ wr.ownsRow w.heap.size 22 1 (.slice av k cv) k (((F.take k).map Prod.snd).map Prod.fst) ∧ Below w.heap.size w wr)
  case atStart => exact ⟨0, none, 0, by omega, rfl, rfl, World.ownsRow_nil _ _ _ _, Below.refl _ _⟩
  case round =>
    obtain ⟨k, av, cv, hk, rfl, rfl, ho, hb⟩ := hrel
    have HK : Hid (k + gk = F.length) := hk
    have HO : Hid (wr.ownsRow w.heap.size 22 1 (.slice av k cv) k (((F.take k).map Prod.snd).map Prod.fst) ∧ Below w.heap.size w wr) := ⟨ho, hb⟩
    clear hk ho
    by_cases hlt : k < F.length
    · obtain ⟨gr, cr', er, r1, -, -⟩ := row_some HRow.out (by omega)
      injection er with er _ er3
      subst er; subst er3
      have kc0 := row_cell HRow.out (fcells_at F k hlt)
      have kc : wr.cell? ⟨gr, k * 2 + 1, none⟩ = some (F[k]).2.1 := (hb.cell (p := ⟨gr, k * 2 + 1, none⟩) (World.block_lt_of_cell? w _ kc0)).trans kc0
      obtain ⟨ay, cy, ey⟩ := row_form (HOw.out _ (List.getElem_mem hlt)).row
      rw [ey] at kc
      have HTk : Hid (((F.take (k + 1)).map Prod.snd).map Prod.fst = ((F.take k).map Prod.snd).map Prod.fst ++ [.slice ay (F[k]).2.2.length cy]) := by show _ = _; rw [List.take_succ_eq_append_getElem hlt, List.map_append, List.map_append, ← ey]; rfl
      have HLT : Hid (k < F.length) := hlt
      clear kc0 ey hb
      generalize (F[k]).2.2.length = ly at *
      have HOa : Hid ((wr.alloc (.cells #[.slice ay ly cy] 22)).ownsRow w.heap.size 22 1 (.slice av k cv) k (((F.take k).map Prod.snd).map Prod.fst)) := World.ownsRow.alloc HO.out.1 _
      have HNa : Hid (∀ j y, [Value.slice ay ly cy][j]? = some y → (wr.alloc (.cells #[.slice ay ly cy] 22)).cell? ((⟨wr.heap.size, 0, none⟩ : Addr).add j) = some y) := cell_one_new wr _ _
      have HSa : Hid (w.heap.size ≤ (wr.alloc (.cells #[.slice ay ly cy] 22)).heap.size) := Nat.le_trans HO.out.2.size (below_box _ _).size
      have hl63 : k + 1 ≤ maxLen := by unfold maxLen; omega
      have hl48 : (k + 1) * 24 ≤ 140737488355328 := by omega
      have HBa : Hid (∀ v5 w5, Ap (wr.alloc (.cells #[.slice ay ly cy] 22)) (.slice av k cv) w5 v5 → Below w.heap.size w w5) := fun v5 w5 ha => (Below.step HO.out.2 (below_box _ _)).grown ha.grown HSa.out (fun q e => (HOa.out.lt q e).1)
      go_wp2_with (at_builtin; refine wpList_append_apk rfl _ _ 81 rfl w.heap.size 22 iL (.slice none 0 0) 1 24 Tryz.underlying81 HIl.out.1 HIl.out.2.1 HIl.out.2.2.1 HIl.out.2.2.2 rfl (by decide) (.slice av k cv) k (((F.take k).map Prod.snd).map Prod.fst) rfl HOa.out ⟨wr.heap.size, 0, none⟩ 1 1 [.slice ay ly cy] rfl rfl HNa.out (by simp [Value.oneCell']) hl63 hl48 HSa.out ?_; intro v5 w5 own5 ap5; obtain ⟨a5, c5, hv5⟩ := row_form' own5; subst hv5; have F5 : Hid (w5.ownsRow w.heap.size 22 1 (.slice a5 (k + 1) c5) (k + 1) (((F.take k).map Prod.snd).map Prod.fst ++ [.slice ay ly cy]) ∧ Below w.heap.size w w5) := ⟨own5, HBa.out _ _ ap5⟩; clear own5 ap5)
      go_roundg (gk - 1)
      case measure => have := HK.out; have := HLT.out; omega
      case rel => exact ⟨k + 1, a5, c5, by have := HK.out; have := HLT.out; omega, rfl, by go_num, by rw [HTk.out]; exact F5.out.1, F5.out.2⟩
    · obtain rfl : k = F.length := by have := HK.out; omega
      have HC : Hid (Calls Tryz.prog 48 #[.slice av F.length cv] wr fun e w' => e = .returned (.bool true) ∧ Below B wr w' ∧ ∀ k, Q k → w'.heap[k]? = wr.heap[k]?) := HAll.out _ wr HO.out.2 (by have := HO.out.1; rw [List.take_length] at this; exact this)
      clear hb
      go_wp2_with fail
      refine Calls.mono HC.out ?_
      rintro e w3 ⟨rfl, hb3, hq3⟩
      have HB3 : Hid (Below B w w3 ∧ ∀ k, Q k → w3.heap[k]? = w.heap[k]?) := ⟨(HO.out.2.mono hB).trans hb3, fun k hk => (hq3 k hk).trans (HO.out.2.block k (HQs.out k hk))⟩
      clear hb3 hq3
      go_wp2
      go_ret
      exact ⟨rfl, HB3.out⟩
end Go.Proofs.YtlkbbbbclmffjaaGreatDoor
set_option linter.unusedSimpArgs false
set_option linter.unusedVariables false
namespace Go.Proofs.YtlkbbbbclmffjaaGreatDoor
open Go Go.RowKit Go.Shelf

def cutNv (n : Nat) : Value → Value
  | .slice a m k => .slice a (m - n) k
  | v => v
def ngv (x : Int) : Int := wrap64 (-x)
/-- a list that is turned, with what stands behind it -/
def tnC (T : List Int) (x : Cls) : Cls := (x.1, (x.2.take (x.2.length - T.length)).map ngv ++ T)
/-- rows whose lists can be turned -/
structure Tn (B : Nat) (W : World) (a : Option Addr) (css : List (List Int)) (T : List Int) (L : List Cls) : Prop where
  cell : ∀ k (hk : k < L.length), ∃ gw, a = some ⟨gw, 0, none⟩ ∧ gw < W.heap.size ∧ W.cell? ⟨gw, k, none⟩ = some (cutNv T.length (L[k]).1) ∧ ∀ x ∈ L, some gw ≠ x.1.ownBlock
  own : ∀ x ∈ L, Own B W x.1 x.2
  ap : ApartC L
  ls : L.map Prod.snd = css.map (· ++ T)
def TnB (L : List Cls) (q : Nat) : Prop := ∃ x ∈ L, some q = x.1.ownBlock
/-- as far as turn has come -/
structure TkR (B : Nat) (w W : World) (css : List (List Int)) (T : List Int) (L : List Cls) (k : Nat) : Prop where
  f : Fr (TnB L) w W
  o : ∀ (i : Nat) (hi : i < L.length), Own B W (L[i]).1 ((if i < k then (css.getD i []).map ngv else css.getD i []) ++ T)
theorem Tn.at {B : Nat} {W : World} {a : Option Addr} {css : List (List Int)} {T : List Int} {L : List Cls} (h : Tn B W a css T L) {i : Nat} (hi : i < L.length) : (L[i]).2 = css.getD i [] ++ T ∧ i < css.length := by
  have h1 := congrArg List.length h.ls
  simp only [List.length_map] at h1
  have h2 := congrArg (fun l => l[i]?) h.ls
  simp only [List.getElem?_map, List.getElem?_eq_getElem hi, List.getElem?_eq_getElem (show i < css.length by omega), Option.map_some, Option.some.injEq] at h2
  refine ⟨?_, by omega⟩
  rw [h2, List.getD_eq_getElem?_getD, List.getElem?_eq_getElem (by omega)]
  rfl
theorem TkR.start {B : Nat} {w : World} {a : Option Addr} {css : List (List Int)} {T : List Int} {L : List Cls} (h : Tn B w a css T L) : TkR B w w css T L 0 :=
  ⟨Fr.refl _ _, fun i hi => by
    have := h.own _ (List.getElem_mem hi)
    rw [(h.at hi).1] at this
    simpa using this⟩
theorem TkR.step {B : Nat} {w W W' : World} {css : List (List Int)} {T : List Int} {L : List Cls} {k : Nat} (h : TkR B w W css T L k) (hap : ApartC L) (hk : k < L.length) (hz : Own B W' (L[k]).1 ((css.getD k []).map ngv ++ T)) (hg : W.grownBy W' (L[k]).1.ownBlock) : TkR B w W' css T L (k + 1) := by
  refine ⟨h.f.grown hg fun g e => ⟨L[k], List.getElem_mem hk, e.symm⟩, fun i hi => ?_⟩
  by_cases e : i = k
  · subst e; simpa using hz
  · have h2 := h.o i hi
    have e2 : (i < k + 1) = (i < k) := by apply propext; omega
    simp only [e2]
    refine World.ownsRow.kept h2 hg ?_
    have hp := List.pairwise_iff_getElem.1 hap
    rcases Nat.lt_or_gt_of_ne e with h3 | h3
    · exact hp i k hi hk h3
    · rcases hp k i hk hi h3 with h4 | h4
      · cases hv : (L[i]).1.ownBlock with
        | none => exact .inl rfl
        | some g => exact .inr (by rw [h4]; simp)
      · exact .inr (Ne.symm h4)
theorem tn_ls {css : List (List Int)} {T : List Int} {L : List Cls} (h : L.map Prod.snd = css.map (· ++ T)) : (L.map (tnC T)).map Prod.snd = (css.map (·.map ngv)).map (· ++ T) := by
  have e : (L.map (tnC T)).map Prod.snd = (L.map Prod.snd).map (fun y => (y.take (y.length - T.length)).map ngv ++ T) := by simp [tnC, Function.comp_def]
  rw [e, h]
  simp [Function.comp_def]
theorem tn_ap {T : List Int} {L : List Cls} (h : ApartC L) : ApartC (L.map (tnC T)) := List.pairwise_map.2 h
theorem TkR.done {B : Nat} {w W : World} {a : Option Addr} {css : List (List Int)} {T : List Int} {L : List Cls} (h : TkR B w W css T L L.length) (hn : Tn B w a css T L) : Tn B W a (css.map (·.map ngv)) T (L.map (tnC T)) := by
  refine ⟨fun k hk => ?_, fun x hx => ?_, tn_ap hn.ap, tn_ls hn.ls⟩
  · have hk' : k < L.length := by simpa using hk
    obtain ⟨gw, h1, h2, h3, h4⟩ := hn.cell k hk'
    refine ⟨gw, h1, Nat.lt_of_lt_of_le h2 h.f.size, ?_, fun x hx => ?_⟩
    · have := h.f.block gw h2 (fun ⟨x, hx, e⟩ => h4 x hx e)
      have e2 : W.cell? ⟨gw, k, none⟩ = w.cell? ⟨gw, k, none⟩ := by unfold World.cell?; rw [this]
      rw [e2, h3]
      simp [tnC]
    · obtain ⟨y, hy, rfl⟩ := List.mem_map.1 hx
      exact h4 y hy
  · obtain ⟨y, hy, rfl⟩ := List.mem_map.1 hx
    obtain ⟨i, hi, rfl⟩ := List.getElem_of_mem hy
    have h1 := h.o i hi
    rw [if_pos hi] at h1
    have h2 := (hn.at hi).1
    show Own B W (L[i]).1 (((L[i]).2.take ((L[i]).2.length - T.length)).map ngv ++ T)
    rw [h2]
    simpa using h1
/-- a list of which the first j are turned -/
def tnJ (z : List Int) (j : Nat) : List Int := (z.take j).map ngv ++ z.drop j
theorem tnJ_len (z : List Int) (j : Nat) : (tnJ z j).length = z.length := by simp [tnJ]; omega
theorem tnJ_at {z : List Int} {j : Nat} (T : List Int) (h : j < z.length) : (tnJ z j ++ T)[j]? = some (z.getD j 0) := by
  rw [List.getElem?_append_left (by rw [tnJ_len]; exact h)]
  unfold tnJ
  rw [List.getElem?_append_right (by simp; omega)]
  simp [show min j z.length = j by omega, List.getD_eq_getElem?_getD, h]
theorem tnJ_set {z : List Int} {j : Nat} (T : List Int) (h : j < z.length) : (tnJ z j ++ T).set j (ngv (z.getD j 0)) = tnJ z (j + 1) ++ T := by
  rw [List.set_append_left _ _ (by rw [tnJ_len]; exact h)]
  congr 1
  unfold tnJ
  rw [List.set_append_right _ _ (by simp; omega)]
  rw [List.take_succ_eq_append_getElem h, List.map_append, List.append_assoc]
  congr 1
  rw [List.drop_eq_getElem_cons h, show j - ((z.take j).map ngv).length = 0 by simp; omega, List.set_cons_zero]
  simp only [List.getD_eq_getElem?_getD, List.getElem?_eq_getElem h, Option.getD_some, List.map_cons, List.map_nil, List.singleton_append]
theorem tnJ_all (z : List Int) : tnJ z z.length = z.map ngv := by simp [tnJ]
theorem cell_kept {W W' : World} {row : Option Nat} {g : Nat} {j : Nat} {x : Value} (hg : W.grownBy W' row) (hne : some g ≠ row) (hc : W.cell? ⟨g, j, none⟩ = some x) : W'.cell? ⟨g, j, none⟩ = some x := by
  have h1 := World.block_lt_of_cell? W _ hc
  have h2 := hg.block g h1 hne
  rw [← hc]; unfold World.cell?; rw [h2]
end Go.Proofs.YtlkbbbbclmffjaaGreatDoor
set_option linter.unusedSimpArgs false
set_option linter.unusedVariables false
namespace Go.Proofs.YtlkbbbbclmffjaaGreatDoor
open Go Go.RowKit Go.Shelf

theorem Fr.toBelow {Q : Nat → Prop} {B : Nat} {w W W' : World} (h : Below B w W) (hf : Fr Q W W') (hB : B ≤ W.heap.size) (hq : ∀ k, Q k → B ≤ k) : Below B w W' :=
  ⟨hf.os.trans h.os, hf.tape.trans h.tape, hf.output.trans h.output, Nat.le_trans h.size hf.size, fun k hk => (hf.block k (by omega) (fun e => by have := hq k e; omega)).trans (h.block k hk)⟩
theorem cutNv_zero {B : Nat} {W : World} {x : Value} {z : List Int} (h : Own B W x z) : cutNv 0 x = x := by
  obtain ⟨a, c, rfl⟩ := own_form h
  rfl
theorem OwnR.tn {B : Nat} {W : World} {a : Option Addr} {c : Nat} {L : List Cls} (h : OwnR B W (.slice a L.length c) L) : Tn B W a (L.map Prod.snd) [] L := by
  refine ⟨fun k hk => ?_, h.own, h.ap, by simp⟩
  obtain ⟨g, cap, e, h1, h2, h3⟩ := row_some h.row (by omega)
  injection e with e1 _ e3
  subst e1; subst e3
  refine ⟨g, rfl, h3, ?_, fun x hx e => ?_⟩
  · have := row_cell h.row (j := k) (x := (L[k]).1) (by rw [List.getElem?_map, List.getElem?_eq_getElem hk]; rfl)
    rw [this, List.length_nil, cutNv_zero (h.own _ (List.getElem_mem hk))]
  · exact block_apart (by decide) h.row (h.own x hx) e.symm rfl
theorem OwnR.turned {B : Nat} {W W' : World} {a : Option Addr} {c : Nat} {L : List Cls} (h : OwnR B W (.slice a L.length c) L) (hf : Fr (TnB L) W W') {css : List (List Int)} (ht : Tn B W' a css [] (L.map (tnC []))) : OwnF B W' (.slice a L.length c) css := by
  refine ⟨L.map (tnC []), ⟨?_, ht.own, ht.ap⟩, by rw [ht.ls]; simp⟩
  have e : (L.map (tnC [])).map Prod.fst = L.map Prod.fst := by simp [tnC, Function.comp_def]
  rw [e, List.length_map]
  refine row_kept h.row fun k hk => hf.block k (h.row.lt k hk.symm).2 ?_
  rintro ⟨x, hx, e⟩
  exact block_apart (by decide) h.row (h.own x hx) e.symm hk.symm
theorem tnB_le {B : Nat} {W : World} {L : List Cls} (h : ∀ x ∈ L, Own B W x.1 x.2) : ∀ k, TnB L k → B ≤ k ∧ k < W.heap.size := fun k ⟨x, hx, e⟩ => (h x hx).lt k e.symm
end Go.Proofs.YtlkbbbbclmffjaaGreatDoor
set_option linter.unusedSimpArgs false
set_option linter.unusedVariables false
namespace Go.Proofs.YtlkbbbbclmffjaaGreatDoor
open Go Go.RowKit Go.Shelf

theorem cutV_eq (x : Cls) : cutV x = cutNv 64 x.1 := by
  obtain ⟨v, z⟩ := x
  cases v <;> rfl
theorem Lk.tn {B : Nat} {W : World} {a : Option Addr} {c : Nat} {vr : Value} {css : List (List Int)} {L M : List Cls} (h : Lk B W (.slice a (css.length + 64) c) vr css L M) : Tn B W a css m64 L := by
  refine ⟨fun k hk => ?_, h.l.r.own, h.l.r.ap, h.ls⟩
  have hl := h.len
  have hw := h.l.w
  rw [List.length_append, List.length_map, List.length_map, hl.1, hl.2] at hw
  obtain ⟨g, cap, e, h1, h2, h3⟩ := row_some hw (by omega)
  injection e with e1 _ e3
  subst e1; subst e3
  refine ⟨g, rfl, h3, ?_, fun x hx e => ?_⟩
  · have := row_cell hw (j := k) (x := cutV L[k]) (by rw [List.getElem?_append_left (by simpa using hk), List.getElem?_map, List.getElem?_eq_getElem hk]; rfl)
    rw [this, cutV_eq, m64_len]
  · exact block_apart (by decide) hw (h.l.r.own x hx) e.symm rfl
theorem Tn.rds {B : Nat} {W : World} {a : Option Addr} {c : Nat} {css : List (List Int)} {T : List Int} {L : List Cls} (h : Tn B W a css T L) (hc : css.length ≤ c) (hc2 : c ≤ maxLen) (hn : a = none → c = 0) (h24 : css.length * 24 ≤ 140737488351232) (h8 : ∀ z ∈ css, z.length * 8 ≤ 140737488351232) : Rds W (.slice a css.length c) css := by
  have hll : L.length = css.length := by have h5 := congrArg List.length h.ls; simpa using h5
  refine ⟨h24, a, c, rfl, hc, hc2, hn, fun hne => ?_⟩
  have h0 : 0 < css.length := List.length_pos_iff.2 hne
  obtain ⟨gw, e, h1, -, -⟩ := h.cell 0 (by omega)
  refine ⟨gw, 0, e, h1, fun j hj => ?_⟩
  obtain ⟨gw', e', -, h2, -⟩ := h.cell j (by omega)
  have eg : gw' = gw := by rw [e] at e'; injection e' with e'; injection e' with e'; exact e'.symm
  subst eg
  rw [Nat.zero_add]
  refine ⟨_, h2, ?_⟩
  have ho := h.own _ (List.getElem_mem (show j < L.length by omega))
  rw [(h.at (show j < L.length by omega)).1] at ho
  obtain ⟨au, cu, eu⟩ := own_form ho
  rw [eu] at ho ⊢
  rw [List.length_append] at ho ⊢
  show Rd W (.slice au ((css.getD j []).length + T.length - T.length) cu) (css.getD j [])
  rw [Nat.add_sub_cancel]
  exact own_hd ho (by omega) (h8 _ (getD_inR hj))
theorem Lr.turned {B : Nat} {W W' : World} {vw vr : Value} {css : List (List Int)} {T : List Int} {L M : List Cls} {ws : List Value} {a : Option Addr} (h : Lr B W vw vr L ws M) (hf : Fr (TnB L) W W') (ht : Tn B W' a css T (L.map (tnC T))) : Lr B W' vw vr (L.map (tnC T)) ws [] := by
  have keep : ∀ {v : Value} {n : Nat} {xs : List Value}, W.ownsRow B 43 1 v n xs → W'.ownsRow B 43 1 v n xs := fun hr => row_kept hr fun k hk => hf.block k (hr.lt k hk.symm).2 (by
    rintro ⟨x, hx, e⟩
    exact block_apart (by decide) hr (h.r.own x hx) e.symm hk.symm)
  refine ⟨⟨?_, ht.own, ht.ap⟩, keep h.w, fun x hx => (by cases hx), h.ne⟩
  have e : (L.map (tnC T)).map Prod.fst = L.map Prod.fst := by simp [tnC, Function.comp_def]
  rw [e, List.length_map]
  exact keep h.r.row
theorem lr_out {B : Nat} {Q : Nat → Prop} {W W' : World} {vw vr : Value} {L M : List Cls} {ws : List Value} (h : Lr B W vw vr L ws M) (hf : Fr Q W W') (hq : ∀ k, Q k → k < B) : Lr B W' vw vr L ws M :=
  ⟨ownr_out h.r hf hq, own_out h.w hf hq, fun x hx => own_out (h.m x hx) hf hq, h.ne⟩
theorem lown_le {B : Nat} {W : World} {vw vr : Value} {L M : List Cls} {ws : List Value} (h : Lr B W vw vr L ws M) : ∀ k, Lown vw vr L k → B ≤ k ∧ k < W.heap.size := fun k hk => by
  rcases hk with e | e | ⟨x, hx, e⟩
  · exact h.w.lt k e.symm
  · exact h.r.row.lt k e.symm
  · exact (h.r.own x hx).lt k e.symm
theorem lown_turned {vw vr : Value} {L : List Cls} {T : List Int} {k : Nat} (h : Lown vw vr (L.map (tnC T)) k) : Lown vw vr L k := by
  rcases h with e | e | ⟨x, hx, e⟩
  · exact .inl e
  · exact .inr (.inl e)
  · obtain ⟨y, hy, rfl⟩ := List.mem_map.1 hx
    exact .inr (.inr ⟨y, hy, e⟩)
theorem bx3_out {Q : Nat → Prop} {W W' : World} {D : Nat} {t : TypeId} {x y z : Value} (h : Bx3 W D t x y z) (hf : Fr Q W W') (hq : ∀ k, Q k → k < D) : Bx3 W' D t x y z := (hf.block D h.lt (fun hk => Nat.lt_irrefl _ (hq D hk))).trans h
/-- the value of what is handed in: its address, its room -/
theorem Lq.vals {w W : World} {vi vw vr : Value} {css : List (List Int)} {L M : List Cls} (h : Lq w W vi vw vr css L M) : ∃ g c, vw = .slice (some ⟨g, 0, none⟩) (css.length + 64) c ∧ vi = .slice (some ⟨g, 0, none⟩) css.length c ∧ css.length + 64 ≤ c ∧ c ≤ maxLen := by
  obtain ⟨a, c, e1, e2⟩ := h.i
  have hl := h.k.len
  have hw := h.l.w
  rw [List.length_append, List.length_map, List.length_map, hl.1, hl.2] at hw
  obtain ⟨g, cap, e, h1, h2, -⟩ := row_some hw (by omega)
  rw [e1] at e
  injection e with e3 _ e4
  subst e3; subst e4
  exact ⟨g, c, e1, e2, h1, h2⟩
end Go.Proofs.YtlkbbbbclmffjaaGreatDoor
