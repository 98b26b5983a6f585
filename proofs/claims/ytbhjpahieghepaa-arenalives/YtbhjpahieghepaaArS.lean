/-
  arena: standing, walked.
  KEEP: set on app at below new trans refl start ap kept rd rds mono
-/
import Derived.Test.YtbhjpahieghepaaArD
import Derived.Laws.MakeOwn
import Derived.Deep.LoopGhost
import Derived.Maps.AppendAt
set_option linter.unusedSimpArgs false
set_option linter.unusedVariables false
namespace Go.Proofs.Ytbhjpahieghepaa
open Go Go.RowKit

theorem flat_split (S : List Seg) (i : Nat) (h : i < S.length) : flat S = flat (S.take i) ++ (hdOf S[i] :: (S[i].lits ++ flat (S.drop (i + 1)))) := by
  conv => lhs; rw [← List.take_append_drop i S, List.drop_eq_getElem_cons h]
  rw [flat_append]; rfl
theorem flat_take_succ (S : List Seg) (i : Nat) (h : i < S.length) : (flat (S.take (i + 1))).length = (flat (S.take i)).length + 1 + S[i].lits.length := by
  rw [List.take_succ_eq_append_getElem h, flat_append]
  simp [flat]; omega
theorem flat_lt (S : List Seg) (i : Nat) (h : i < S.length) : (flat (S.take i)).length + 1 + S[i].lits.length ≤ (flat S).length := by
  rw [flat_split S i h]; simp; omega
theorem flat_at (S : List Seg) (i : Nat) (h : i < S.length) : (flat S).getD (flat (S.take i)).length 0 = hdOf S[i] := by
  rw [flat_split S i h]
  simp [List.getD_eq_getElem?_getD]
theorem find_at : ∀ (S : List Seg) (i : Nat) (h : i < S.length), find S ((flat (S.take i)).length : Int) = if S[i].live then some S[i] else none
  | [], i, h => by simp at h
  | s :: r, 0, h => by simp [find, flat]
  | s :: r, i + 1, h => by
    have ih := find_at r i (by simpa using h)
    rw [List.take_succ_cons, flat_len]
    unfold find
    rw [if_neg (by omega), if_neg (by omega), show (((1 + s.lits.length + (flat (r.take i)).length : Nat) : Int) - 1 - (s.lits.length : Int)) = ((flat (r.take i)).length : Int) by omega, ih]
    rfl
theorem lv_take_succ (S : List Seg) (i : Nat) (h : i < S.length) : lv 0 (S.take (i + 1)) = lv 0 (S.take i) ++ (if S[i].live then [(((flat (S.take i)).length : Int), S[i].lits, S[i].learnt)] else []) := by
  rw [List.take_succ_eq_append_getElem h, lv_append]
  congr 1
  simp [lv]
theorem lv_len_le : ∀ (S : List Seg) (p : Int), (lv p S).length ≤ (flat S).length
  | [], p => by simp [lv, flat]
  | x :: r, p => by
    have := lv_len_le r (p + 1 + x.lits.length)
    rw [lv_cons, flat_len, List.length_append]
    split <;> simp <;> omega
/-- the live clauses as a row: places and where their literals lie -/
def rowsC (g : Nat) (L : List (Int × List Int × Bool)) : List Value := L.flatMap (fun x => [.int .i64 x.1, cutV g x.1.toNat x.2.1.length])
theorem rowsC_append (g : Nat) (L M : List (Int × List Int × Bool)) : rowsC g (L ++ M) = rowsC g L ++ rowsC g M := by simp [rowsC]
def StS (w : World) (v : Value) (S : List Seg) (e : Ending) (w' : World) : Prop :=
  ∃ u g, e = .returned u ∧ w'.ownsRow w.heap.size 73 2 u (lv 0 S).length (rowsC g (lv 0 S)) ∧ Below w.heap.size w w' ∧ (S = [] ∨ ∃ c, v = .slice (some ⟨g, 0, none⟩) (flat S).length c)
theorem infoC : (Try.prog.info? 73).map (fun i => (i.zero, i.size, i.bytes)) = some (some (.agg #[.int .i64 0, .slice none 0 0]), 2, 32) := by kernel_rfl
theorem cell_two_new (w : World) (x y : Value) (t : TypeId) : ∀ j u, [x, y][j]? = some u → (w.alloc (.cells #[x, y] t)).cell? ((⟨w.heap.size, 0, none⟩ : Addr).add j) = some u := by
  intro j u hj
  have hh := World.alloc_heap_new w (.cells #[x, y] t)
  rw [Addr.add_lit]
  show (match (w.alloc (.cells #[x, y] t)).heap[w.heap.size]? with | some (Obj.cells c elem frozen) => c[0 + j]? | x => none) = _
  rw [hh, Nat.zero_add]
  match j, hj with
  | 0, hj => simpa using hj
  | 1, hj => simpa using hj

set_option maxRecDepth 100000 in
set_option maxHeartbeats 3200000 in
theorem standing_any (b : Nat) (v : Value) (S : List Seg) (w : World) (h : Ar w b v S) (hl : (flat S).length * 8 ≤ 140737488351232) (hl2 : (flat S).length * 32 ≤ 140737488351232) :
    Calls Try.prog 27 #[.pointer (some ⟨b, 0, none⟩)] w fun e w' => StS w v S e w' := by
  obtain ⟨iC, hiC, hC0, hC1, hC2⟩ := info_parts infoC
  have hlv := lv_len_le S 0
  obtain ⟨wm, hmk, own0, gr0⟩ := run_make_own (P := Try.prog) w w.heap.size 69 73 iC (.agg #[.int .i64 0, .slice none 0 0]) 2 Try.underlying69 hiC hC0 hC1 .i64 .i64 (lv 0 S).length (by rw [hC2]; omega) (by unfold maxLen; omega) (Nat.le_refl _)
  have c1 := h.box.c1
  have HA : Hid (Ar w b v S) := h
  have HB0 : Hid (Below w.heap.size w wm) := ⟨gr0.os, gr0.tape, gr0.output, gr0.size, fun k hk => gr0.block k hk (by simp)⟩
  have HO0 : Hid (wm.ownsRow w.heap.size 73 2 (.slice (some ⟨w.heap.size, 0, none⟩) 0 (lv 0 S).length) 0 []) := own0
  have HFin : Hid (∀ u g w', w'.ownsRow w.heap.size 73 2 u (lv 0 S).length (rowsC g (lv 0 S)) → Below w.heap.size w w' → (S = [] ∨ ∃ c, v = .slice (some ⟨g, 0, none⟩) (flat S).length c) → StS w v S (.returned u) w') := fun u g w' q1 q2 q3 => ⟨u, g, rfl, q1, q2, q3⟩
  generalize hPS : StS w v S = PS at *
  have HG : Hid (∃ g, S = [] ∨ ∃ c, v = .slice (some ⟨g, 0, none⟩) (flat S).length c) := by
    by_cases hS : S = []
    · exact ⟨0, .inl hS⟩
    · rcases h.own.2 with ⟨e, e2⟩ | ⟨g, cap, cur, rfl, _⟩
      · exfalso
        cases S with
        | nil => exact hS rfl
        | cons s r => rw [flat_len] at e2; omega
      · exact ⟨g, .inr ⟨cap, rfl⟩⟩
  obtain ⟨g0, hg0⟩ := HG.out
  have HG0 : Hid (S = [] ∨ ∃ c, v = .slice (some ⟨g0, 0, none⟩) (flat S).length c) := hg0
  obtain ⟨va, vc, hv⟩ := own_form h.own
  clear h own0 gr0 hPS HG hg0
  subst hv
  go_enter Try.func27, Try.ntmps27
  go_wp2
  clear c1 hmk
  go_loopg [3, 4] S.length (fun g s3 s4 wr => ∃ i : Nat, i + g = S.length ∧ s4 = .int .i64 (flat (S.take i)).length ∧ Hid (wr.ownsRow w.heap.size 73 2 s3 (lv 0 (S.take i)).length (rowsC g0 (lv 0 (S.take i)))) ∧ Hid (Below w.heap.size w wr))
  case atStart => exact ⟨0, by omega, rfl, HO0.out, HB0⟩
  case round =>
    obtain ⟨i, hi, rfl, HO, HB⟩ := hrel
    have HI : Hid (i + gk = S.length) := hi
    have HAr : Hid (Ar wr b (.slice va (flat S).length vc) S) := HA.out.below (HB.out.mono (Nat.le_refl _))
    have c0 := HAr.out.box.c0
    by_cases hlt : i < S.length
    · have hp := flat_lt S i hlt
      have hat := flat_at S i hlt
      have hfd := find_at S i hlt
      have hns := flat_take_succ S i hlt
      have hls := lv_take_succ S i hlt
      have HSne : S ≠ [] := by rintro rfl; simp at hlt
      obtain ⟨c', hv'⟩ := HG0.out.resolve_left HSne
      injection hv' with q1 q2 q3
      subst q1; subst q3
      have HRd : Hid (Rd wr (.slice (some ⟨g0, 0, none⟩) (flat S).length vc) (flat S)) := HAr.out.rd hl
      have hcell : wr.cell? ⟨g0, (flat (S.take i)).length, none⟩ = some (.int .i64 (hdOf S[i])) := by
        obtain ⟨b2, off, c2, e, hpos, hc, hm, hb, hcell⟩ := HRd.out.cases.resolve_left (by rintro ⟨e, _⟩; rw [e] at hp; simp at hp)
        injection e with e1 e2 e3
        injection e1 with e1
        injection e1 with e1 e4
        subst e1; subst e4
        have := hcell (flat (S.take i)).length (by omega)
        rw [Nat.zero_add, hat] at this; exact this
      have hcg : g0 < wr.heap.size := World.block_lt_of_cell? wr _ hcell
      have hcap : (flat S).length ≤ vc := by
        rcases HAr.out.own.2 with ⟨e, _⟩ | ⟨g', cap', cur, e, _, _, h1, _⟩
        · cases e
        · injection e with e1 e2 e3
          subst e3; exact h1
      have HSz : Hid (∀ W : World, Calls Try.prog 39 #[.int .i64 (hdOf S[i])] W fun e w' => e = .returned (.int .i64 S[i].lits.length) ∧ w' = W) := fun W => size_any S[i] W (by omega)
      have HHas := has_find (S := S) (k := ((flat (S.take i)).length : Int)) HA.out.ok
      have HLvl : Hid ((lv 0 (S.take i)).length ≤ (flat S).length) := Nat.le_trans (lv_len_le _ 0) (by omega)
      have hlvl := HLvl.out
      have HBn : Hid (((flat (S.take i)).length : Int) + (1 + (S[i].lits.length : Int)) = ((flat (S.take (i + 1))).length : Int)) := by show _ = _; rw [hns]; omega
      have HAt : Hid ((flat S).getD (flat (S.take i)).length 0 = hdOf S[i]) := hat
      clear hat hns hi
      cases hlive : S[i].live
      · rw [hlive] at hfd hls
        simp only [if_neg (show ¬ (false = true) by decide), List.append_nil] at hfd hls
        rw [hfd] at HHas
        have HLs : Hid (lv 0 (S.take (i + 1)) = lv 0 (S.take i)) := hls
        clear hls hfd
        generalize hdOf S[i] = z at *
        generalize S[i].lits.length = N at *
        generalize hP : (flat (S.take i)).length = P at *
        generalize hM : (flat S).length = M at *
        go_wp2_with fail
        refine (has_any b _ _ P _ wr HAr.out.box HRd.out).mono ?_
        rw [HHas]
        rintro e w1 ⟨he, hw⟩
        rw [he, hw]
        clear he hw
        go_wp2_with fail
        refine (HSz.out wr).mono ?_
        rintro e w2 ⟨he, hw⟩
        rw [he, hw]
        clear he hw
        go_wp2
        go_roundg (gk - 1)
        case measure => have := HI.out; omega
        case rel => exact ⟨i + 1, by have := HI.out; omega, by rw [← HBn.out], by rw [HLs.out]; exact HO, HB⟩
      · rw [hlive] at hfd hls
        simp only [if_pos] at hfd hls
        rw [hfd] at HHas
        have HLs : Hid (lv 0 (S.take (i + 1)) = lv 0 (S.take i) ++ [(((flat (S.take i)).length : Int), S[i].lits, S[i].learnt)]) := hls
        have HCut : Hid (Calls Try.prog 34 #[.pointer (some ⟨b, 0, none⟩), .int .i64 ((flat (S.take i)).length : Int)] wr fun e w' => CutS (.slice (some ⟨g0, 0, none⟩) (flat S).length vc) S (flat (S.take i)).length S[i] e ∧ w' = wr) := cut_any b _ S _ S[i] wr HAr.out hl hfd
        have HRow : Hid (∀ x, rowsC g0 (lv 0 (S.take i) ++ [x]) = rowsC g0 (lv 0 (S.take i)) ++ [.int .i64 x.1, cutV g0 x.1.toNat x.2.1.length]) := fun x => by rw [rowsC_append]; rfl
        clear hls hfd
        generalize hdOf S[i] = z at *
        go_wp2_with fail
        refine (has_any b _ _ ((flat (S.take i)).length : Int) _ wr HAr.out.box HRd.out).mono ?_
        rw [HHas]
        rintro e w1 ⟨he, hw⟩
        rw [he, hw]
        clear he hw
        go_wp2_with fail
        refine HCut.out.mono ?_
        rintro e w2 ⟨⟨g2, c2, hv2, he⟩, hw⟩
        rw [he, hw]
        clear he hw
        injection hv2 with e1 e2 e3
        injection e1 with e1
        injection e1 with e1
        subst e1
        clear e3
        obtain ⟨of, hof⟩ : ∃ of, cutV g0 (flat (S.take i)).length S[i].lits.length = .slice (some ⟨g0, of, none⟩) S[i].lits.length S[i].lits.length := ⟨_, rfl⟩
        have HRw : Hid (rowsC g0 (lv 0 (S.take (i + 1))) = rowsC g0 (lv 0 (S.take i)) ++ [.int .i64 ((flat (S.take i)).length : Int), .slice (some ⟨g0, of, none⟩) S[i].lits.length S[i].lits.length]) := by
          show _ = _
          rw [HLs.out, HRow.out, ← hof]; simp
        have HLl : Hid ((lv 0 (S.take (i + 1))).length = (lv 0 (S.take i)).length + 1) := by show _ = _; rw [HLs.out]; simp
        have HRo : Hid ((wr.alloc (.cells #[.int .i64 ((flat (S.take i)).length : Int), .slice (some ⟨g0, of, none⟩) S[i].lits.length S[i].lits.length] 73)).ownsRow w.heap.size 73 2 u3 (lv 0 (S.take i)).length (rowsC g0 (lv 0 (S.take i)))) := World.ownsRow.alloc HO.out _
        rw [hof]
        have hsz : w.heap.size ≤ wr.heap.size := HB.out.size
        clear hof HRow HLs HCut
        generalize S[i].lits.length = N at *
        generalize hP : (flat (S.take i)).length = P at *
        generalize hLV : (lv 0 (S.take i)).length = LV at *
        go_wp2_with (at_builtin; refine wpList_append_own _ rfl _ _ 69 rfl w.heap.size 73 iC (.agg #[.int .i64 0, .slice none 0 0]) 2 32 Try.underlying69 hiC hC0 hC1 hC2 rfl (by decide) _ LV (rowsC g0 (lv 0 (S.take i))) rfl HRo.out _ 1 1 [.int .i64 (P : Int), .slice (some ⟨g0, of, none⟩) N N] rfl rfl (cell_two_new _ _ _ _) (by simp [Value.oneCell']) (by unfold maxLen; omega) (by omega) (by simp; omega) ?_; intro v7 w7 own7 gr7 hn7; have HB7 : Hid (Below w.heap.size w w7) := (HB.out.trans ((below_box _ _).mono hsz)).grown gr7 (by simp; omega) (fun q hq => (HO.out.lt q hq).1); have HO7 : Hid (w7.ownsRow w.heap.size 73 2 v7 (LV + 1) (rowsC g0 (lv 0 (S.take i)) ++ [.int .i64 (P : Int), .slice (some ⟨g0, of, none⟩) N N])) := own7; have hA7 := HA.out.below (HB7.out.mono (Nat.le_refl _)); have d0 := hA7.box.c0; have d1 : w7.cell? ⟨g0, P, none⟩ = some (.int .i64 z) := (by obtain ⟨b2, off, c2, e, hpos, hc, hm, hb, hcl⟩ := (hA7.rd hl).cases.resolve_left (by rintro ⟨e, _⟩; rw [e] at hp; simp at hp); injection e with e1 e2 e3; injection e1 with e1; injection e1 with e1 e4; subst e1; subst e4; have := hcl P (by omega); rw [Nat.zero_add] at this; rw [this, ← HAt.out]); clear own7 gr7 hn7 hA7)
        refine (HSz.out w7).mono ?_
        rintro e w8 ⟨he, hw⟩
        rw [he, hw]
        clear he hw
        go_wp2
        go_roundg (gk - 1)
        case measure => have := HI.out; omega
        case rel => exact ⟨i + 1, by have := HI.out; omega, by rw [← HBn.out], by rw [HLl.out, HRw.out]; exact HO7, HB7⟩
    · obtain rfl : i = S.length := by omega
      have HE : Hid (S.take S.length = S) := List.take_length
      rw [HE.out] at HO ⊢
      clear hi
      go_wp2
      first | exact HFin.out _ _ _ HO.out HB.out HG0.out | (go_ret; exact HFin.out _ _ _ HO.out HB.out HG0.out)

end Go.Proofs.Ytbhjpahieghepaa
