/-
  Under, walked.
-/
import Derived.Test.YtbnnoajpmmbpbaaRems
import Derived.Test.YtbnnoajpmmbpbaaTidy
import Derived.Test.YtbnnoajpmmbpbaaFormAns
import Derived.Handy
set_option linter.unusedSimpArgs false
set_option linter.unusedVariables false
namespace Go.Proofs.Ytbnnoajpmmbpbaa
open Go.RowKit

theorem infoB : (Try.prog.info? 4).map (fun i => (i.zero, i.size, i.bytes)) = some (some (.bool false), 1, 1) := by kernel_rfl
theorem giv_made (N : Nat) : (giv [] N).map Value.bool = (madeCells (Value.bool false).cells (2 * N * 1)).toList := by
  rw [giv_nil]
  apply List.ext_getElem?
  intro i
  by_cases h : i < 2 * N
  · simp [madeCells, Value.cells, h, List.getElem?_replicate, Nat.mod_one]
  · simp [madeCells, Value.cells, h, List.getElem?_replicate]
theorem row_at2 {B g n cap p : Nat} {e : TypeId} {w : World} {xs : List Value} (h : w.ownsRow B e 1 (.slice (some ⟨g, 0, none⟩) n cap) n xs) (hp : p < n) : (∃ x, w.cell? ⟨g, p, none⟩ = some x) ∧ w.frozen? ⟨g, p, none⟩ = false := by
  constructor
  · rw [World.ownsRow.cellAt h p (by omega), List.getElem?_eq_getElem (by have := h.1; omega)]; exact ⟨_, rfl⟩
  · rcases h.2 with ⟨h', _⟩ | ⟨g', cap', cur, h', _, hg, _⟩
    · cases h'
    · cases h'; simp [World.frozen?, hg]
theorem rdb_row {B g n cap : Nat} {w : World} {ms : List Bool} (h : w.ownsRow B 4 1 (.slice (some ⟨g, 0, none⟩) n cap) n (ms.map Value.bool)) (hl : ms.length = n) (hb : n ≤ 140737488351232) : RdB w (.slice (some ⟨g, 0, none⟩) n cap) ms := by
  subst hl
  refine ⟨hb, _, cap, rfl, fun _ => ⟨g, 0, rfl, ?_, fun j hj => ?_⟩⟩
  · rcases h.2 with ⟨h', _⟩ | ⟨g', cap', cur, h', _, hg, _⟩
    · cases h'
    · cases h'; exact (Array.getElem?_eq_some_iff.1 hg).1
  · rw [Nat.zero_add, World.ownsRow.cellAt h j (by omega)]
    simp [hj]
theorem filterMap_more {α β : Type} (f : α → Option β) (l : List α) (d : α) (k : Nat) (h : k < l.length) : (l.take (k + 1)).filterMap f = (l.take k).filterMap f ++ (f (l.getD k d)).toList := by
  rw [take_succ_getD l d k h, List.filterMap_append]
  generalize l.getD k d = x
  cases hf : f x <;> simp [List.filterMap_cons, hf]
def unF (n : Int) (css : List (List Int)) (part : List Int) : Int × List (List Int) × Int :=
  if !(frm n css && fitsP n part) then (0, [], 1) else if adj (tid part) then (0, [], 20) else (n, css.filterMap (rems part), 0)

set_option maxHeartbeats 1600000 in
theorem under_any (n : Int) (s vp : Value) (css : List (List Int)) (part : List Int) (w : World) (hr : Rds w s css) (hp : Rd w vp part) :
    Calls Try.prog 15 #[.agg #[.int .i64 n, s], vp] w fun e w' => ∃ s', e = .returned (.tuple #[.agg #[.int .i64 (unF n css part).1, s'], .int .i64 (unF n css part).2.2]) ∧ OwnF w.heap.size w' s' (unF n css part).2.1 ∧ Below w.heap.size w w' := by
  have HX : Hid (En w n s css ((w.alloc (.cells #[.int .i64 n, s] 24)).alloc (.cells #[.int .i64 0, .slice none 0 0] 24))) := En.new hr
  have HP : Hid (Rd ((w.alloc (.cells #[.int .i64 n, s] 24)).alloc (.cells #[.int .i64 0, .slice none 0 0] 24)) vp part) := (hp.below (below_box _ _)).below (below_box _ _)
  clear hr hp
  cases hf : frm n css
  case false =>
    have HU : Hid (unF n css part = (0, [], 1)) := by unfold unF Hid; rw [hf]; rfl
    go_enter Try.func15, Try.ntmps15
    go_wp2_with fail
    generalize (w.alloc (.cells #[.int .i64 n, s] 24)).alloc (.cells #[.int .i64 0, .slice none 0 0] 24) = W0 at *
    refine (cnfFormed_any n s css _ HX.out.bx.rd).mono ?_
    rw [hf]
    rintro e w1 ⟨rfl, bel1⟩
    have HX1 : Hid (En w n s css w1) := HX.out.on bel1
    have a0 := HX1.out.ans.c0
    have a1 := HX1.out.ans.c1
    have f0 := HX1.out.ans.f0
    have f1 := HX1.out.ans.f1
    clear HX HP bel1
    go_wp2
    try simp only [Exit.inBlock, Exit.then]
    refine bodyPost_ret (ret_form rfl rfl ((HX1.out.ans.set0 _).set1 _)) rfl ?_
    exact ⟨_, by rw [HU.out]; rfl, by rw [HU.out]; exact OwnF.nil _ _, below_set (below_set HX1.out.bx.bel (by omega) _ _) (by omega) _ _⟩
  cases hg : fitsP n part
  case false =>
    have HU : Hid (unF n css part = (0, [], 1)) := by unfold unF Hid; rw [hf, hg]; rfl
    go_enter Try.func15, Try.ntmps15
    go_wp2_with fail
    generalize (w.alloc (.cells #[.int .i64 n, s] 24)).alloc (.cells #[.int .i64 0, .slice none 0 0] 24) = W0 at *
    refine (cnfFormed_any n s css _ HX.out.bx.rd).mono ?_
    rw [hf]
    rintro e w1 ⟨rfl, bel1⟩
    have HX1 : Hid (En w n s css w1) := HX.out.on bel1
    have HP1 : Hid (Rd w1 vp part) := HP.out.below bel1
    have c0 := HX1.out.bx.c0
    have c1 := HX1.out.bx.c1
    have a0 := HX1.out.ans.c0
    have a1 := HX1.out.ans.c1
    have f0 := HX1.out.ans.f0
    have f1 := HX1.out.ans.f1
    clear HX HP bel1
    go_wp2_with fail
    refine (fits_any vp part n w1 HP1.out).mono ?_
    rw [hg]
    rintro e w' ⟨rfl, hw'⟩
    obtain rfl := hw'.symm
    go_wp2
    try simp only [Exit.inBlock, Exit.then]
    refine bodyPost_ret (ret_form rfl rfl ((HX1.out.ans.set0 _).set1 _)) rfl ?_
    exact ⟨_, by rw [HU.out]; rfl, by rw [HU.out]; exact OwnF.nil _ _, below_set (below_set HX1.out.bx.bel (by omega) _ _) (by omega) _ _⟩
  cases ht : adj (tid part)
  case true =>
    have HU : Hid (unF n css part = (0, [], 20)) := by unfold unF Hid; rw [hf, hg, ht]; rfl
    go_enter Try.func15, Try.ntmps15
    go_wp2_with fail
    generalize (w.alloc (.cells #[.int .i64 n, s] 24)).alloc (.cells #[.int .i64 0, .slice none 0 0] 24) = W0 at *
    refine (cnfFormed_any n s css _ HX.out.bx.rd).mono ?_
    rw [hf]
    rintro e w1 ⟨rfl, bel1⟩
    have HX1 : Hid (En w n s css w1) := HX.out.on bel1
    have HP1 : Hid (Rd w1 vp part) := HP.out.below bel1
    have c0 := HX1.out.bx.c0
    have c1 := HX1.out.bx.c1
    have a0 := HX1.out.ans.c0
    have a1 := HX1.out.ans.c1
    have f0 := HX1.out.ans.f0
    have f1 := HX1.out.ans.f1
    clear HX HP bel1
    go_wp2_with fail
    refine (fits_any vp part n w1 HP1.out).mono ?_
    rw [hg]
    rintro e w' ⟨rfl, hw'⟩
    obtain rfl := hw'.symm
    clear c0 c1 a0 a1 f0 f1
    go_wp2_with fail
    refine (taut_any vp part w1 HP1.out).mono ?_
    rw [ht]
    rintro e w2 ⟨rfl, bel2⟩
    have HX2 : Hid (En w n s css w2) := HX1.out.on bel2
    have a0 := HX2.out.ans.c0
    have a1 := HX2.out.ans.c1
    have f0 := HX2.out.ans.f0
    have f1 := HX2.out.ans.f1
    clear HX1 HP1 bel2
    go_wp2
    try simp only [Exit.inBlock, Exit.then]
    refine bodyPost_ret (ret_form rfl rfl ((HX2.out.ans.set0 _).set1 _)) rfl ?_
    exact ⟨_, by rw [HU.out]; rfl, by rw [HU.out]; exact OwnF.nil _ _, below_set (below_set HX2.out.bx.bel (by omega) _ _) (by omega) _ _⟩
  have HU : Hid (unF n css part = (n, css.filterMap (rems part), 0)) := by unfold unF Hid; rw [hf, hg, ht]; rfl
  have hn : 0 ≤ n ∧ n ≤ 1048576 := by unfold frm at hf; simp at hf; exact hf.1
  obtain ⟨N, rfl⟩ : ∃ N : Nat, n = (N : Int) := ⟨n.toNat, by omega⟩
  have hN : N ≤ 1048576 := by omega
  have HFit : Hid (∀ k, k < css.length → fitsP N (css.getD k []) = true) := fun k hk => by
    unfold frm at hf; simp only [Bool.and_eq_true] at hf
    exact List.all_eq_true.1 hf.2 _ (getD_mem' hk)
  have HPF : Hid (fitsP N part = true) := hg
  obtain ⟨ib, hib, hzb0, hzb1, hzb2⟩ := info_parts infoB
  obtain ⟨il, hil, hzl0, hzl1, hzl2⟩ := info_parts infoR
  have hlp := HP.out.len
  have hlc := HX.out.bx.rd.len
  obtain ⟨sa, sc, rfl, hcs, hms, _⟩ := HX.out.bx.rd.form
  go_enter Try.func15, Try.ntmps15
  go_wp2_with fail
  generalize (w.alloc (.cells #[.int .i64 N, .slice sa css.length sc] 24)).alloc (.cells #[.int .i64 0, .slice none 0 0] 24) = W0 at *
  refine (cnfFormed_any N (.slice sa css.length sc) css _ HX.out.bx.rd).mono ?_
  rw [hf]
  rintro e w1 ⟨rfl, bel1⟩
  have HX1 : Hid (En w N (.slice sa css.length sc) css w1) := HX.out.on bel1
  have HP1 : Hid (Rd w1 vp part) := HP.out.below bel1
  have c0 := HX1.out.bx.c0
  have c1 := HX1.out.bx.c1
  have a0 := HX1.out.ans.c0
  have a1 := HX1.out.ans.c1
  have f0 := HX1.out.ans.f0
  have f1 := HX1.out.ans.f1
  clear HX HP bel1
  go_wp2_with fail
  refine (fits_any vp part N w1 HP1.out).mono ?_
  rw [hg]
  rintro e w' ⟨rfl, hw'⟩
  obtain rfl := hw'.symm
  clear c0 c1 a0 a1 f0 f1
  go_wp2_with fail
  refine (taut_any vp part w1 HP1.out).mono ?_
  rw [ht]
  rintro e w2 ⟨rfl, bel2⟩
  have HX2 : Hid (En w N (.slice sa css.length sc) css w2) := HX1.out.on bel2
  have HP2 : Hid (Rd w2 vp part) := HP1.out.below bel2
  have c0 := HX2.out.bx.c0
  clear HX1 HP1 bel2 hf hg ht hn
  obtain ⟨ap, cp, rfl, hcp, hmp, _⟩ := HP2.out.form
  go_wp2_with (at_make; refine wpList_make_full _ rfl _ _ 53 rfl w2.heap.size 4 ib (.bool false) 1 Try.underlying53 hib hzb0 hzb1 .i64 .i64 _ _ (2 * N) rfl rfl (by first | omega | (simp; omega) | simp) (by first | omega | (simp; omega) | simp) (by rw [hzb2]; omega) (by unfold maxLen; omega) (Nat.le_refl _) ?_; intro w3 own3 gr3)
  have bel3 : Below w2.heap.size w2 w3 := (Below.refl _ _).grown gr3 (Nat.le_refl _) (fun b e => by cases e)
  have own3' : w3.ownsRow w2.heap.size 4 1 (.slice (some ⟨w2.heap.size, 0, none⟩) (2 * N) (2 * N)) (2 * N) ((giv (part.take 0) N).map Value.bool) := by rw [List.take_zero, giv_made]; exact own3
  clear own3 gr3 c0
  go_loopg [34] part.length (fun g i wr => ∃ k : Nat, k + g = part.length ∧ i = .int .i64 k ∧ wr.ownsRow w2.heap.size 4 1 (.slice (some ⟨w2.heap.size, 0, none⟩) (2 * N) (2 * N)) (2 * N) ((giv (part.take k) N).map Value.bool) ∧ Below w2.heap.size w2 wr)
  case atStart => exact ⟨0, by omega, rfl, own3', bel3⟩
  case round =>
    obtain ⟨k, hk, rfl, own, bel⟩ := hrel
    have HK : Hid (k + gk = part.length) := hk
    have HO : Hid (wr.ownsRow w2.heap.size 4 1 (.slice (some ⟨w2.heap.size, 0, none⟩) (2 * N) (2 * N)) (2 * N) ((giv (part.take k) N).map Value.bool)) := own
    clear own own3' bel3
    by_cases hlt : k < part.length
    · obtain ⟨ap', cp', ep, _, _, hcell⟩ := (HP2.out.below bel).form
      have e3 : ap' = ap ∧ cp' = cp := by injection ep with q1 q2 q3; exact ⟨q1.symm, q3.symm⟩
      obtain ⟨rfl, rfl⟩ := e3
      obtain ⟨b, off, rfl, hck⟩ := hcell k hlt
      obtain ⟨hfm, hvn⟩ := fits_at HPF.out hlt
      obtain ⟨j0, j1, j2⟩ := idx_lt hfm hvn
      obtain ⟨⟨x0, hgc⟩, hgf⟩ := row_at2 HO.out j1
      have HS : Hid ((giv (part.take k) N).set (idx (part.getD k 0)).toNat true = giv (part.take (k + 1)) N) := giv_set hN hlt hfm hvn
      have HJ : Hid (idx (part.getD k 0) = ((idx (part.getD k 0)).toNat : Int)) := j2
      clear hk j2 hcell ep
      generalize (idx (part.getD k 0)).toNat = p at *
      generalize part.getD k 0 = z at *
      generalize giv (part.take k) N = G at *
      go_wp2_with (go_at_call 31; refine (index_any _ _).mono ?_; rw [HJ.out]; rintro e w' ⟨rfl, hw'⟩; obtain rfl := hw'.symm)
      go_roundg (gk - 1)
      case measure => have := HK.out; omega
      case rel => exact ⟨k + 1, by have := HK.out; omega, by go_num, by rw [← HS.out, List.map_set]; exact (World.ownsRow.stored HO.out p (.bool true)).1, bel.setCell (p := ⟨w2.heap.size, p, none⟩) (Nat.le_refl _) _⟩
    · obtain rfl : k = part.length := by omega
      have HXr : Hid (En w N (.slice sa css.length sc) css wr) := HX2.out.on bel
      have HG : Hid (RdB wr (.slice (some ⟨w2.heap.size, 0, none⟩) (2 * N) (2 * N)) (giv part N)) := by
        have := HO.out; rw [List.take_length] at this; exact rdb_row this (giv_len _ _) (by omega)
      have r0 := HXr.out.bx.c0
      have r1 := HXr.out.bx.c1
      clear hk HO HX2 HP2
      have HW2 : Hid (w2.heap.size ≤ wr.heap.size) := bel.size
      clear bel
      generalize wr = wz at *
      have r2 : (wz.alloc (.cells #[.int .i64 (N : Int), .slice none 0 0] 24)).cell? ⟨w.heap.size, 1, none⟩ = some (.slice sa css.length sc) := ((below_box wz _).cell (p := ⟨w.heap.size, 1, none⟩) (World.block_lt_of_cell? wz _ r1)).trans r1
      go_wp2
      clear r0 r1 r2
      go_loopg [49] css.length (fun g i wq => ∃ (k : Nat) (L : List Cls) (rv : Value), k + g = css.length ∧ i = .int .i64 k ∧ L.length ≤ k ∧ L.map Prod.snd = (css.take k).filterMap (rems part) ∧ Hid (Bd wz N wq rv L))
      case atStart => exact ⟨0, [], _, by omega, rfl, Nat.le_refl _, by simp, Bd.start _ _⟩
      case round =>
        obtain ⟨k, L, rv, hk, rfl, hLk, hL, HB⟩ := hrel
        have HK2 : Hid (k + gk = css.length) := hk
        have HL : Hid (L.map Prod.snd = (css.take k).filterMap (rems part)) := hL
        have HXq : Hid (En w N (.slice sa css.length sc) css wr) := HXr.out.on HB.out.bel
        have HGq : Hid (RdB wr (.slice (some ⟨w2.heap.size, 0, none⟩) (2 * N) (2 * N)) (giv part N)) := HG.out.below HB.out.bel
        have sz := HB.out.bel.size
        have d0 := HB.out.box.c0
        have d1 := HB.out.box.c1
        clear hL
        by_cases hlt : k < css.length
        · obtain ⟨b, off, u, rfl, hck, hu0⟩ := HXq.out.bx.at hlt
          have HUq : Hid (Rd wr u (css.getD k [])) := hu0
          have HFk : Hid (fitsP N (css.getD k []) = true) := HFit.out k hlt
          have HS : Hid ((css.take (k + 1)).filterMap (rems part) = (css.take k).filterMap (rems part) ++ (rems part (css.getD k [])).toList) := filterMap_more (rems part) css [] k hlt
          obtain ⟨_, ua, uc, hu, _⟩ := hu0
          have HZ : Hid ((remL part (css.getD k [])).length * 8 ≤ 140737488351232) := by have := remL_len part (css.getD k []); have := HUq.out.len; unfold Hid; omega
          clear hk
          generalize css.getD k [] = z at *
          subst hu
          have HM : Hid (Calls Try.prog 32 #[.slice ua z.length uc, .slice (some ⟨w2.heap.size, 0, none⟩) (2 * N) (2 * N)] wr fun e w' => ∃ u, e = .returned (.tuple #[u, .bool (!remG part z)]) ∧ (remG part z = false → Own wr.heap.size w' u (remL part z)) ∧ Below wr.heap.size wr w') := remains_any _ _ z part N wr HUq.out HGq.out hN HFk.out
          cases hq : remG part z
          · have HR : Hid (rems part z = some (remL part z)) := by unfold rems Hid; rw [hq]; rfl
            rw [hq] at HM
            go_wp2_with (first | (go_at_call 32; refine HM.out.mono ?_; rintro e w5 ⟨u5, rfl, own5, bel5⟩; have O5 : Hid (Own wr.heap.size w5 u5 (remL part z)) := own5 rfl; obtain ⟨a5, c5, hu5⟩ := own_form O5.out; clear own5; subst hu5; have B5 : Hid (Bd wz N w5 rv L) := HB.out.on bel5; have BL5 : Hid (Below wr.heap.size wr w5) := bel5; have e0 := B5.out.box.c0; have e1 := B5.out.box.c1; clear bel5) | (at_builtin; refine wpList_append_own _ rfl _ _ 22 rfl wz.heap.size 39 il (.slice none 0 0) 1 24 Try.underlying22 hil hzl0 hzl1 hzl2 rfl (by decide) _ L.length (L.map Prod.fst) rfl (B5.out.row_alloc _) _ 1 1 [.slice a5 (remL part z).length c5] rfl rfl (cell_one_new _ _ _) (by simp [Value.oneCell']) (by unfold maxLen; omega) (by omega) (by have := BL5.out.size; simp; omega) ?_; intro v6 w6 own6 gr6 hn6; obtain ⟨a6, c6, hv6⟩ := row_form own6; subst hv6; have A6 : Hid (Bx2 w6 wz.heap.size 24 (.int .i64 (N : Int)) rv ∧ Bd wz N (w6.setCell ⟨wz.heap.size, 1, none⟩ (.slice a6 (L.length + 1) c6)) (.slice a6 (L.length + 1) c6) (L ++ [(.slice a5 (remL part z).length c5, remL part z)])) := HB.out.app BL5.out O5.out own6 gr6; have g0 := A6.out.1.c0; have g1 := A6.out.1.c1; have g2 := A6.out.1.f1))
            go_roundg (gk - 1)
            case measure => have := HK2.out; omega
            case rel => exact ⟨k + 1, L ++ [(Value.slice a5 (remL part z).length c5, remL part z)], Value.slice a6 (L.length + 1) c6, by have := HK2.out; omega, by go_num, by simp; omega, by rw [HS.out, HR.out, List.map_append, HL.out]; rfl, A6.out.2⟩
          · have HR : Hid (rems part z = none) := by unfold rems Hid; rw [hq]; rfl
            rw [hq] at HM
            go_wp2_with (go_at_call 32; refine HM.out.mono ?_; rintro e w5 ⟨u5, rfl, own5, bel5⟩; have B5 : Hid (Bd wz N w5 rv L) := HB.out.on bel5)
            go_roundg (gk - 1)
            case measure => have := HK2.out; omega
            case rel => exact ⟨k + 1, L, rv, by have := HK2.out; omega, by go_num, by omega, by rw [HS.out, HR.out, HL.out]; simp, B5⟩
        · obtain rfl : k = css.length := by omega
          have HE : Hid (L.map Prod.snd = css.filterMap (rems part)) := by have := HL.out; rw [List.take_length] at this; exact this
          have p0 := HXq.out.ans.c0
          have p1 := HXq.out.ans.c1
          have p2 := HXq.out.ans.f0
          have p3 := HXq.out.ans.f1
          have HWz : Hid (w.heap.size ≤ wz.heap.size) := HXr.out.bx.bel.size
          obtain ⟨ar, cr, hrv⟩ := row_form HB.out.own.row
          subst hrv
          clear hk
          go_wp2
          try simp only [Exit.inBlock, Exit.then]
          refine bodyPost_ret (ret_form rfl rfl ((HXq.out.ans.set0 _).set1 _)) rfl ?_
          refine ⟨.slice ar L.length cr, by rw [HU.out]; rfl, ?_, below_set (below_set HXq.out.bx.bel (by omega) _ _) (by omega) _ _⟩
          rw [HU.out]
          have F0 : OwnF w.heap.size wr (.slice ar L.length cr) (css.filterMap (rems part)) := ⟨L, HB.out.own.mono HWz.out, HE.out⟩
          exact (F0.set HXq.out.ans (by decide) (by decide) _ _).set (HXq.out.ans.set0 _) (by decide) (by decide) _ _

end Go.Proofs.Ytbnnoajpmmbpbaa
