/-
  depotlaw04: copied, equal, sound, found, swept, walked; the book of what was put.
  KEEP: set on app at below new trans refl start ap kept rd rds mono
-/
import Derived.Test.YtbioehbcopmepaaArSx
import Derived.Test.YtbioehbcopmepaaSames
import Derived.Deep.RegionHeld
set_option linter.unusedSimpArgs false
set_option linter.unusedVariables false
namespace Go.Proofs.Ytbioehbcopmepaa
open Go Go.RowKit Go.Maps

theorem copied4_any (v : Value) (zs : List Int) (w : World) (hr : Rd w v zs) :
    Calls Try.prog 17 #[v] w fun e w' => ∃ v', e = .returned v' ∧ Own w.heap.size w' v' zs ∧ Below w.heap.size w w' := by
  have hl := hr.len
  obtain ⟨i0, hi, hz0, hz1, hz2⟩ := info_parts Try.info3
  rcases hr.cases with ⟨rfl, a, c, rfl, hm, hn⟩ | ⟨b, off, c, rfl, hpos, hc, hm, hb, hcell⟩
  · cases a with
    | none =>
      obtain rfl : c = 0 := hn rfl
      have hrun : ∀ ty w, (Builtin.append_ #[32, 32] ty #[.slice none 0 0, .slice none 0 0]).run Try.prog w = .ok (.slice none 0 0) w := fun ty w => run_append_owned_none (P := Try.prog) w 0 32 ty 3 i0 1 Try.underlying32 hi _ _ _ (World.ownsRow_nil w 0 3 1)
      go_enter Try.func17, Try.ntmps17
      go_wp2
      go_ret
      exact ⟨_, rfl, World.ownsRow_nil _ _ _ _, Below.refl _ _⟩
    | some ad =>
      go_enter Try.func17, Try.ntmps17
      go_wp2_with (at_builtin; refine wpList_append_own _ rfl _ _ 32 rfl w.heap.size 3 i0 (.int .i64 0) 1 8 Try.underlying32 hi hz0 hz1 hz2 rfl (by decide) (.slice none 0 0) 0 [] rfl (World.ownsRow_nil _ _ _ _) ad 0 c [] rfl rfl (by simp) (by simp) (by unfold maxLen; omega) (by omega) (by simp) ?_; intro v' w1 hown hgrow hnil)
      go_ret
      exact ⟨_, rfl, by simpa [Own] using hown, (Below.refl _ _).grown hgrow (Nat.le_refl _) (by simp [Value.ownBlock])⟩
  · have hnews : ∀ j u, (zs.map (Value.int .i64))[j]? = some u → w.cell? ((⟨b, off, none⟩ : Addr).add j) = some u := by
      intro j u hu
      have hj : j < zs.length := by
        have := (List.getElem?_eq_some_iff.1 hu).1
        simpa using this
      rw [Addr.add_lit]
      rw [hcell j hj]
      simp [hj] at hu
      simp [hj, hu]
    clear hcell
    go_enter Try.func17, Try.ntmps17
    go_wp2_with (at_builtin; refine wpList_append_own _ rfl _ _ 32 rfl w.heap.size 3 i0 (.int .i64 0) 1 8 Try.underlying32 hi hz0 hz1 hz2 rfl (by decide) (.slice none 0 0) 0 [] rfl (World.ownsRow_nil _ _ _ _) ⟨b, off, none⟩ zs.length c (zs.map (Value.int .i64)) rfl (by simp) hnews (ints_oneCell' zs) (by unfold maxLen; omega) (by omega) (by simp) ?_; intro v' w1 hown hgrow hnil)
    go_ret
    exact ⟨_, rfl, by simpa [Own] using hown, (Below.refl _ _).grown hgrow (Nat.le_refl _) (by simp [Value.ownBlock])⟩

set_option maxHeartbeats 3200000 in
theorem equal4_any (va vb : Value) (a b : List Int) (w : World) (ha : Rd w va a) (hb : Rd w vb b) :
    Calls Try.prog 46 #[va, vb] w fun e w' => e = .returned (.bool (a == b)) ∧ Below w.heap.size w w' := by
  have hla := ha.len
  have hlb := hb.len
  obtain ⟨aa, ca, rfl, hca, hma, hcella⟩ := ha.form
  obtain ⟨ab, cb, rfl, hcb, hmb, hcellb⟩ := hb.form
  by_cases hne : a.length = b.length
  case neg =>
    have HE : Hid ((a == b) = false) := beq_no_len hne
    have hd : ((a.length : Int) == (b.length : Int)) = false := beq_eq_false_iff_ne.2 (by omega)
    clear hcella hcellb ha hb
    go_enter Try.func46, Try.ntmps46
    go_wp2
    go_ret
    exact ⟨ret_bool HE.out.symm, Below.refl _ _⟩
  have HA : Hid (∀ k, k < a.length → ∃ b off, aa = some ⟨b, off, none⟩ ∧ w.cell? ⟨b, off + k, none⟩ = some (.int .i64 (a.getD k 0))) := hcella
  have HB : Hid (∀ k, k < b.length → ∃ b' off, ab = some ⟨b', off, none⟩ ∧ w.cell? ⟨b', off + k, none⟩ = some (.int .i64 (b.getD k 0))) := hcellb
  have HN : Hid (a.length = b.length) := hne
  have hd : ((a.length : Int) == (b.length : Int)) = true := beq_iff_eq.2 (by omega)
  clear hcella hcellb ha hb hne
  go_enter Try.func46, Try.ntmps46
  go_wp2
  go_loopg [5] a.length (fun g i wr => ∃ k : Nat, k + g = a.length ∧ i = .int .i64 k ∧ a.take k = b.take k ∧ Below w.heap.size w wr ∧ wr.heap = w.heap)
  case atStart => exact ⟨0, by omega, rfl, by simp, Below.refl _ _, rfl⟩
  case round =>
    obtain ⟨k, hk, rfl, hpre, bel, hheap⟩ := hrel
    have HK : Hid (k + gk = a.length) := hk
    have HP : Hid (a.take k = b.take k) := hpre
    have HB1 : Hid (Below w.heap.size w wr) := bel
    clear hpre
    by_cases hlt : k < a.length
    · obtain ⟨b1, o1, rfl, ck1⟩ := HA.out k hlt
      obtain ⟨b2, o2, rfl, ck2⟩ := HB.out k (by have := HN.out; omega)
      have hc1 : wr.cell? ⟨b1, o1 + k, none⟩ = some (.int .i64 (a.getD k 0)) := by rw [← ck1]; unfold World.cell?; rw [hheap]
      have hc2 : wr.cell? ⟨b2, o2 + k, none⟩ = some (.int .i64 (b.getD k 0)) := by rw [← ck2]; unfold World.cell?; rw [hheap]
      have HS : Hid (a.getD k 0 = b.getD k 0 → a.take (k + 1) = b.take (k + 1)) := fun h => take_eq_more hlt (by have := HN.out; omega) HP.out h
      have HF : Hid (a.getD k 0 ≠ b.getD k 0 → (a == b) = false) := fun h => beq_no_at (d := 0) h
      have hlt2 : k < b.length := by have := HN.out; omega
      have HH : Hid (wr.heap = w.heap) := hheap
      clear hk ck1 ck2 bel hheap
      generalize a.getD k 0 = x at *
      generalize b.getD k 0 = y at *
      by_cases he : x = y
      · have hb1 : (x == y) = true := beq_iff_eq.2 he
        have HE : Hid (x = y) := he
        clear he
        go_wp2_with fail
        go_quiet (fail)
        go_wp2
        go_roundg (gk - 1)
        case measure => have := HK.out; omega
        case rel => exact ⟨k + 1, by have := HK.out; omega, by go_num, HS.out HE.out, Below.step HB1.out (below_drewN _ _), HH.out⟩
      · have hb1 : (x == y) = false := beq_eq_false_iff_ne.2 he
        have HE : Hid (x ≠ y) := he
        clear he
        go_wp2_with fail
        go_quiet (fail)
        go_wp2
        go_ret
        exact ⟨ret_bool (HF.out HE.out).symm, Below.step HB1.out (below_drewN _ _)⟩
    · obtain rfl : k = a.length := by omega
      have HE : Hid ((a == b) = true) := by
        have := HP.out
        rw [List.take_length, HN.out, List.take_length] at this
        exact beq_iff_eq.2 this
      clear hk
      go_wp2
      go_ret
      exact ⟨ret_bool HE.out.symm, HB1.out⟩


set_option maxHeartbeats 3200000 in
theorem sound4_any (v : Value) (zs : List Int) (w : World) (hr : Rd w v zs) :
    Calls Try.prog 18 #[v] w fun e w' => e = .returned (.bool (zs.all fmd)) ∧ w' = w := by
  have hl := hr.len
  obtain ⟨aa, ca, rfl, hca, hma, hcella⟩ := hr.form
  have HA : Hid (∀ k, k < zs.length → ∃ b off, aa = some ⟨b, off, none⟩ ∧ w.cell? ⟨b, off + k, none⟩ = some (.int .i64 (zs.getD k 0))) := hcella
  clear hcella hr
  go_enter Try.func18, Try.ntmps18
  go_wp2
  go_loopg [3] zs.length (fun g i wr => ∃ k : Nat, k + g = zs.length ∧ i = .int .i64 k ∧ (zs.take k).all fmd = true ∧ wr = w)
  case atStart => exact ⟨0, by omega, rfl, by simp, rfl⟩
  case round =>
    obtain ⟨k, hk, rfl, hpre, hw⟩ := hrel
    subst hw
    have HK : Hid (k + gk = zs.length) := hk
    have HP : Hid ((zs.take k).all fmd = true) := hpre
    clear hpre
    by_cases hlt : k < zs.length
    · obtain ⟨b1, o1, rfl, ck1⟩ := HA.out k hlt
      have HT : Hid (fmd (zs.getD k 0) = true → (zs.take (k + 1)).all fmd = true) := fun h => by
        rw [take_succ_getD zs 0 k hlt, List.all_append, HP.out]; simp only [List.all_cons, List.all_nil, h]; rfl
      have HF : Hid (fmd (zs.getD k 0) = false → zs.all fmd = false) := fun h => by
        rw [List.all_eq_false]
        exact ⟨zs.getD k 0, by rw [List.getD_eq_getElem?_getD, List.getElem?_eq_getElem hlt]; exact List.getElem_mem hlt, by rw [h]; decide⟩
      clear hk
      generalize zs.getD k 0 = x at *
      by_cases h0 : x = 0
      · have HE : Hid (fmd x = false) := by subst h0; rfl
        have hb : (x == 0) = true := beq_iff_eq.2 h0
        clear h0
        go_wp2
        go_ret
        exact ⟨ret_bool (HF.out HE.out).symm, rfl⟩
      · have hb : (x == 0) = false := beq_eq_false_iff_ne.2 h0
        by_cases h1 : x < -1048576
        · have HE : Hid (fmd x = false) := by show _ = _; cases hf : fmd x; rfl; exact absurd (fmd_range hf) (by omega)
          go_wp2
          go_ret
          exact ⟨ret_bool (HF.out HE.out).symm, rfl⟩
        · by_cases h2 : x > 1048576
          · have HE : Hid (fmd x = false) := by show _ = _; cases hf : fmd x; rfl; exact absurd (fmd_range hf) (by omega)
            go_wp2
            go_ret
            exact ⟨ret_bool (HF.out HE.out).symm, rfl⟩
          · have HE : Hid (fmd x = true) := by show _ = _; simp [fmd]; omega
            go_wp2
            go_roundg (gk - 1)
            case measure => have := HK.out; omega
            case rel => exact ⟨k + 1, by have := HK.out; omega, by go_num, HT.out HE.out, rfl⟩
    · obtain rfl : k = zs.length := by omega
      have HE : Hid (zs.all fmd = true) := by have := HP.out; rw [List.take_length] at this; exact this
      clear hk
      go_wp2
      go_ret
      exact ⟨ret_bool HE.out.symm, rfl⟩

/-- a clause of the book -/
structure Kp where
  pl : Int
  lits : List Int
  learnt : Bool
  live : Bool
abbrev Ent := Value × Kp
def rowsK (L : List Ent) : List Value := L.flatMap (fun x => [.int .i64 x.2.pl, x.1, .bool x.2.learnt, .bool x.2.live])
def bk : List Ent → LvL
  | [] => []
  | x :: r => (if x.2.live then [(x.2.pl, x.2.lits, x.2.learnt)] else []) ++ bk r
theorem bk_append : ∀ L M : List Ent, bk (L ++ M) = bk L ++ bk M
  | [], M => rfl
  | x :: r, M => by rw [List.cons_append, bk, bk, bk_append r M, List.append_assoc]
theorem bk_mem : ∀ {L : List Ent} {x : Ent}, x ∈ L → x.2.live = true → (x.2.pl, x.2.lits, x.2.learnt) ∈ bk L
  | y :: r, x, h, hl => by
    unfold bk
    rcases List.mem_cons.1 h with rfl | h
    · exact List.mem_append_left _ (by rw [if_pos hl]; exact List.mem_singleton.2 rfl)
    · exact List.mem_append_right _ (bk_mem h hl)
theorem bk_take_succ (L : List Ent) (i : Nat) (h : i < L.length) : bk (L.take (i + 1)) = bk (L.take i) ++ (if L[i].2.live then [(L[i].2.pl, L[i].2.lits, L[i].2.learnt)] else []) := by
  rw [List.take_succ_eq_append_getElem h, bk_append]
  simp [bk]
theorem rowsK_at {L : List Ent} {i : Nat} (hi : i < L.length) : (rowsK L)[i * 4]? = some (.int .i64 L[i].2.pl) ∧ (rowsK L)[i * 4 + 1]? = some L[i].1 ∧ (rowsK L)[i * 4 + 2]? = some (.bool L[i].2.learnt) ∧ (rowsK L)[i * 4 + 3]? = some (.bool L[i].2.live) := by
  induction L generalizing i with
  | nil => simp at hi
  | cons x r ih =>
    rw [show rowsK (x :: r) = .int .i64 x.2.pl :: x.1 :: .bool x.2.learnt :: .bool x.2.live :: rowsK r from rfl]
    cases i with
    | zero => simp
    | succ j =>
      have := ih (i := j) (by simpa using hi)
      rw [show (j + 1) * 4 = j * 4 + 1 + 1 + 1 + 1 by omega]
      simpa using this
structure Bk (B : Nat) (W : World) (rv : Value) (L : List Ent) : Prop where
  row : W.ownsRow B 52 4 rv L.length (rowsK L)
  own : ∀ x ∈ L, Own B W x.1 x.2.lits
theorem Bk.below {B : Nat} {W W' : World} {rv : Value} {L : List Ent} (h : Bk B W rv L) (hb : Below W.heap.size W W') : Bk B W' rv L :=
  ⟨World.ownsRow.kept h.row (grown_below hb) (one_or _), fun x hx => (h.own x hx).below hb⟩
/-- the arena and the book -/
structure Kst (B : Nat) (W : World) (b : Nat) (v : Value) (S : List Seg) (rv : Value) (L : List Ent) : Prop where
  ar : Ar W b v S
  bok : Bk B W rv L
  sep : ∀ x ∈ L, ∀ g, x.1.ownBlock = some g → g ≠ b ∧ some g ≠ v.ownBlock
  eq : bk L = lv 0 S
theorem Kst.below {B : Nat} {W W' : World} {b : Nat} {v : Value} {S : List Seg} {rv : Value} {L : List Ent} (h : Kst B W b v S rv L) (hb : Below W.heap.size W W') : Kst B W' b v S rv L :=
  ⟨h.ar.below hb, h.bok.below hb, h.sep, h.eq⟩
theorem row_form4 {B K : Nat} {e : TypeId} {w : World} {x : Value} {xs : List Value} (h : w.ownsRow B e 4 x K xs) : ∃ a c, x = .slice a K c := by
  rcases h.2 with ⟨rfl, rfl⟩ | ⟨g, cap, cur, rfl, _⟩
  · exact ⟨none, 0, rfl⟩
  · exact ⟨_, _, rfl⟩
/-- an entry's cells -/
theorem Bk.cells {B : Nat} {W : World} {rv : Value} {L : List Ent} (h : Bk B W rv L) {i : Nat} (hi : i < L.length) : ∃ g cap, rv = .slice (some ⟨g, 0, none⟩) L.length cap ∧ L.length ≤ cap ∧ cap ≤ maxLen ∧ B ≤ g ∧ g < W.heap.size ∧
    W.cell? ⟨g, i * 4, none⟩ = some (.int .i64 L[i].2.pl) ∧ W.cell? ⟨g, i * 4 + 1, none⟩ = some L[i].1 ∧ W.cell? ⟨g, i * 4 + 2, none⟩ = some (.bool L[i].2.learnt) ∧ W.cell? ⟨g, i * 4 + 3, none⟩ = some (.bool L[i].2.live) := by
  have hrow := h.row
  rcases hrow.2 with ⟨e, e2⟩ | ⟨g, cap, cur, rfl, hbg, hh, hnc, hcm, _⟩
  · omega
  · have hc := World.ownsRow.cells hrow (g := g) rfl
    obtain ⟨r0, r1, r2, r3⟩ := rowsK_at hi
    have a0 := hc _ _ r0
    have a1 := hc _ _ r1
    have a2 := hc _ _ r2
    have a3 := hc _ _ r3
    rw [Addr.add_lit, Nat.zero_add] at a0 a1 a2 a3
    exact ⟨g, cap, rfl, hnc, hcm, hbg, (Array.getElem?_eq_some_iff.1 hh).1, a0, a1, a2, a3⟩

/-- a live entry is found -/
theorem Kst.find {B : Nat} {W : World} {b : Nat} {v : Value} {S : List Seg} {rv : Value} {L : List Ent} (h : Kst B W b v S rv L) {i : Nat} (hi : i < L.length) (hl : L[i].2.live = true) : find S L[i].2.pl = some ⟨L[i].2.lits, L[i].2.learnt, true⟩ := by
  have hm := bk_mem (List.getElem_mem hi) hl
  rw [h.eq] at hm
  have := lv_find hm
  rwa [Int.sub_zero] at this

set_option maxHeartbeats 3200000 in
theorem found_any (B b : Nat) (v rv : Value) (S : List Seg) (L : List Ent) (w : World) (h : Kst B w b v S rv L) (hl : (flat S).length * 8 ≤ 140737488351232) :
    Calls Try.prog 23 #[.pointer (some ⟨b, 0, none⟩), rv] w fun e w' => e = .returned (.bool true) ∧ Below w.heap.size w w' := by
  have HK : Hid (Kst B w b v S rv L) := h
  obtain ⟨ra, rc, hrv⟩ := row_form4 h.bok.row
  subst hrv
  have hL : L.length ≤ maxLen := by
    rcases h.bok.row.2 with ⟨_, e2⟩ | ⟨g, cap, cur, _, _, _, hnc, hcm, _⟩
    · omega
    · omega
  have hlv := lv_len_le S 0
  unfold maxLen at hL
  have HBk : Hid (∀ i, (bk (L.take i)).length ≤ (lv 0 S).length) := fun i => by
    rw [← h.eq]
    conv => rhs; rw [← List.take_append_drop i L, bk_append, List.length_append]
    omega
  clear h
  go_enter Try.func23, Try.ntmps23
  go_wp2
  go_loopg [5, 6] L.length (fun g s5 s6 wr => ∃ i : Nat, i + g = L.length ∧ s5 = .int .i64 (bk (L.take i)).length ∧ s6 = .int .i64 i ∧ Hid (Below w.heap.size w wr))
  case atStart => exact ⟨0, by omega, rfl, rfl, Below.refl _ _⟩
  case round =>
    obtain ⟨i, hi, rfl, rfl, HB⟩ := hrel
    have HI : Hid (i + gk = L.length) := hi
    by_cases hlt : i < L.length
    · have HKr : Hid (Kst B wr b v S (.slice ra L.length rc) L) := HK.out.below HB.out
      obtain ⟨g, cap, erv, hnc, hcm, hBg, hgl, c0, c1, c2, c3⟩ := HKr.out.bok.cells hlt
      injection erv with e1 e2 e3
      subst e1; subst e3
      clear e2
      have hb1 := HBk.out (i + 1)
      rw [bk_take_succ L i hlt] at hb1
      have HS : Hid ((bk (L.take (i + 1))) = bk (L.take i) ++ (if L[i].2.live then [(L[i].2.pl, L[i].2.lits, L[i].2.learnt)] else [])) := bk_take_succ L i hlt
      cases hlive : L[i].2.live
      · rw [hlive] at c3
        have HS2 : Hid ((bk (L.take (i + 1))).length = (bk (L.take i)).length) := by show _ = _; rw [HS.out, hlive]; simp
        clear hi
        go_wp2
        go_roundg (gk - 1)
        case measure => have := HI.out; omega
        case rel => exact ⟨i + 1, by have := HI.out; omega, by rw [HS2.out], by go_num, HB⟩
      · rw [hlive] at c3 hb1
        rw [if_pos rfl, List.length_append] at hb1
        simp only [List.length_cons, List.length_nil] at hb1
        have HS2 : Hid ((bk (L.take (i + 1))).length = (bk (L.take i)).length + 1) := by show _ = _; rw [HS.out, hlive]; simp
        have HF : Hid (find S L[i].2.pl = some ⟨L[i].2.lits, L[i].2.learnt, true⟩) := HKr.out.find hlt hlive
        have HO : Hid (Own B wr L[i].1 L[i].2.lits) := HKr.out.bok.own _ (List.getElem_mem hlt)
        obtain ⟨f1, f2, f3, f4, f5, f6⟩ := find_get HF.out
        have h8 : L[i].2.lits.length * 8 ≤ 140737488351232 := by simp at f5; omega
        have HGet : Hid (Calls Try.prog 20 #[.pointer (some ⟨b, 0, none⟩), .int .i64 L[i].2.pl] wr fun e w' => ∃ u, e = .returned (.tuple #[u, .bool true]) ∧ Own wr.heap.size w' u L[i].2.lits ∧ Below wr.heap.size wr w') := arGet_some b v S _ _ wr HKr.out.ar hl HF.out
        have HLe : Hid (∀ W, Below wr.heap.size wr W → Calls Try.prog 21 #[.pointer (some ⟨b, 0, none⟩), .int .i64 L[i].2.pl] W fun e w' => e = .returned (.bool L[i].2.learnt) ∧ w' = W) := fun W hW => by
          have := arLearnt_any b v S L[i].2.pl W (HKr.out.ar.below hW) hl
          rw [HF.out] at this
          exact this
        obtain ⟨la, lc, hlv1⟩ := own_form HO.out
        rw [hlv1] at c1 HO
        clear hi f1 f2 f3 f4 f5 f6 hlv1 HS
        generalize L[i].2.pl = pl at *
        generalize L[i].2.learnt = lr at *
        generalize hls : L[i].2.lits = ls at *
        go_wp2_with fail
        refine HGet.out.mono ?_
        rintro e w1 ⟨u, rfl, own1, bel1⟩
        obtain ⟨ua, uc, hu⟩ := own_form own1
        subst hu
        have HEq : Hid (∀ W, Below w1.heap.size w1 W → Calls Try.prog 46 #[.slice ua ls.length uc, .slice la ls.length lc] W fun e w' => e = .returned (.bool true) ∧ Below W.heap.size W w') := fun W hW => by
          have := equal4_any _ _ ls ls W ((own1.rd h8).below hW) (((HO.out.rd h8).below bel1).below hW)
          rwa [show (ls == ls) = true from beq_self_eq_true ls] at this
        have HLe1 : Hid (∀ W, Below w1.heap.size w1 W → Calls Try.prog 21 #[.pointer (some ⟨b, 0, none⟩), .int .i64 pl] W fun e w' => e = .returned (.bool lr) ∧ w' = W) := fun W hW => HLe.out W (Below.step bel1 hW)
        have HB1 : Hid (Below w.heap.size w w1) := HB.out.trans (bel1.mono HB.out.size)
        have HS : Hid (∀ W', Below w1.heap.size w1 W' → Below w1.heap.size w1 W' ∧ W'.cell? ⟨g, i * 4, none⟩ = some (.int .i64 pl) ∧ W'.cell? ⟨g, i * 4 + 1, none⟩ = some (.slice la ls.length lc) ∧ W'.cell? ⟨g, i * 4 + 2, none⟩ = some (.bool lr)) := fun W' hW => by
          have hb := Below.step bel1 hW
          exact ⟨hW, (hb.cell (p := ⟨g, i * 4, none⟩) hgl).trans c0, (hb.cell (p := ⟨g, i * 4 + 1, none⟩) hgl).trans c1, (hb.cell (p := ⟨g, i * 4 + 2, none⟩) hgl).trans c2⟩
        have hgl1 : g < w1.heap.size := Nat.lt_of_lt_of_le hgl bel1.size
        obtain ⟨_, d0, d1, d2⟩ := HS.out w1 (Below.refl _ _)
        clear own1 bel1 c0 c1 c2 c3 HGet HLe
        go_wp2_with fail
        go_region_held (fun W' => Below w1.heap.size w1 W' ∧ W'.cell? ⟨g, i * 4, none⟩ = some (.int .i64 pl) ∧ W'.cell? ⟨g, i * 4 + 1, none⟩ = some (.slice la ls.length lc) ∧ W'.cell? ⟨g, i * 4 + 2, none⟩ = some (.bool lr)) (first | exact HS.out _ (Below.refl _ _).drew | exact HS.out _ bE) (first
          | (go_at_call 46; refine (HEq.out _ (Below.refl _ _).drew).mono ?_; rintro e w2 ⟨rfl, bE0⟩; have bE : Below w1.heap.size w1 w2 := Below.step (Below.refl _ _).drew bE0; clear bE0)
          | (go_at_call 21; refine (HLe1.out _ bE).mono ?_; rintro e w3 ⟨rfl, rfl⟩))
        all_goals
          go_wp2
          go_roundg (gk - 1)
          case measure => have := HI.out; omega
          case rel => exact ⟨i + 1, by have := HI.out; omega, by rw [HS2.out]; go_num, by go_num, HB1.out.trans (bE.mono HB1.out.size)⟩
    · obtain rfl : i = L.length := by omega
      have HKr : Hid (Kst B wr b v S (.slice ra L.length rc) L) := HK.out.below HB.out
      have HE : Hid (((bk (L.take L.length)).length : Int) = ((lv 0 S).length : Int)) := by show _ = _; rw [List.take_length, HKr.out.eq]
      rw [HE.out]
      clear hi
      go_wp2_with fail
      refine (arCount_any b v S wr HKr.out.ar).mono ?_
      rintro e w1 ⟨rfl, rfl⟩
      have hb : (((lv 0 S).length : Int) == ((lv 0 S).length : Int)) = true := beq_self_eq_true _
      go_wp2
      go_ret
      exact ⟨rfl, HB.out⟩

end Go.Proofs.Ytbioehbcopmepaa
