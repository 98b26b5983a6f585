/-
  depotlaw04.swept, walked.
  KEEP: set on app at below new trans refl start ap kept rd rds mono
-/
import Derived.Test.YtbioehbcopmepaaArK
set_option linter.unusedSimpArgs false
set_option linter.unusedVariables false
namespace Go.Proofs.Ytbioehbcopmepaa
open Go Go.RowKit Go.Maps

/-- the book behind a Sweep -/
def ren : Int → List Ent → List Ent
  | _, [] => []
  | q, x :: r => if x.2.live then (x.1, { x.2 with pl := q }) :: ren (q + 1 + x.2.lits.length) r else x :: ren q r
theorem ren_len : ∀ (L : List Ent) (q : Int), (ren q L).length = L.length
  | [], _ => rfl
  | x :: r, q => by unfold ren; split <;> simp [ren_len r]
theorem ren_mem : ∀ {L : List Ent} {q : Int} {x : Ent}, x ∈ ren q L → ∃ y ∈ L, x.1 = y.1 ∧ x.2.lits = y.2.lits
  | y :: r, q, x, h => by
    unfold ren at h
    split at h
    · rcases List.mem_cons.1 h with rfl | h
      · exact ⟨y, List.mem_cons_self, rfl, rfl⟩
      · obtain ⟨z, hz, e⟩ := ren_mem h
        exact ⟨z, List.mem_cons_of_mem _ hz, e⟩
    · rcases List.mem_cons.1 h with rfl | h
      · exact ⟨x, List.mem_cons_self, rfl, rfl⟩
      · obtain ⟨z, hz, e⟩ := ren_mem h
        exact ⟨z, List.mem_cons_of_mem _ hz, e⟩
theorem bk_ren : ∀ (L : List Ent) (q : Int), bk (ren q L) = renum q (bk L)
  | [], _ => rfl
  | x :: r, q => by
    unfold ren
    cases hx : x.2.live
    · simp only [Bool.false_eq_true, if_false]
      rw [bk, bk, hx, bk_ren r q]; simp
    · simp only [if_true]
      rw [bk, bk, hx, bk_ren r]
      simp only [if_true, List.singleton_append, renum]
theorem ren_cons (q : Int) (x : Ent) (r : List Ent) : ren q (x :: r) = if x.2.live then (x.1, { x.2 with pl := q }) :: ren (q + 1 + x.2.lits.length) r else x :: ren q r := rfl
theorem ren_append : ∀ (L M : List Ent) (q : Int), ren q (L ++ M) = ren q L ++ ren (q + (wordsL (bk L)).length) M
  | [], M, q => by simp [ren, bk, wordsL]
  | x :: r, M, q => by
    rw [List.cons_append, ren_cons, ren_cons]
    cases hx : x.2.live
    · simp only [Bool.false_eq_true, if_false]
      rw [ren_append r M q, bk, hx]; simp
    · simp only [if_true]
      rw [ren_append r M, bk, hx, List.cons_append]
      have e : q + 1 + (x.2.lits.length : Int) + ((wordsL (bk r)).length : Int) = q + ((wordsL ((if true = true then [(x.2.pl, x.2.lits, x.2.learnt)] else []) ++ bk r)).length : Int) := by
        simp [wordsL]; omega
      rw [e]
theorem went_at : ∀ {M N : LvL} {x : Int × List Int × Bool} {q : Int}, (∀ y ∈ M, y.1 ≠ x.1) → went q (M ++ x :: N) x.1 = some (q + (wordsL M).length)
  | [], N, x, q, _ => by simp [went, wordsL]
  | y :: r, N, x, q, h => by
    rw [List.cons_append]
    unfold went
    rw [if_neg (h y List.mem_cons_self), went_at (fun z hz => h z (List.mem_cons_of_mem _ hz))]
    congr 1
    simp [wordsL]; omega
theorem bk_at {L : List Ent} {i : Nat} (hi : i < L.length) (hl : L[i].2.live = true) : bk L = bk (L.take i) ++ (L[i].2.pl, L[i].2.lits, L[i].2.learnt) :: bk (L.drop (i + 1)) := by
  conv => lhs; rw [← List.take_append_drop i L, List.drop_eq_getElem_cons hi, bk_append, bk, hl]
  simp
theorem went_bk {S : List Seg} {L : List Ent} (he : bk L = lv 0 S) {i : Nat} (hi : i < L.length) (hl : L[i].2.live = true) : went 0 (lv 0 S) L[i].2.pl = some ((wordsL (bk (L.take i))).length : Int) := by
  have hr := lv_rises S 0
  rw [← he, bk_at hi hl] at hr ⊢
  rw [went_at (x := (L[i].2.pl, L[i].2.lits, L[i].2.learnt)) (fun y hy => ?_)]
  · simp
  · have := (List.pairwise_append.1 hr).2.2 y hy _ List.mem_cons_self
    exact Int.ne_of_lt this
theorem rowsK_append (L M : List Ent) : rowsK (L ++ M) = rowsK L ++ rowsK M := by simp [rowsK]
theorem rowsK_len (L : List Ent) : (rowsK L).length = L.length * 4 := by
  induction L with
  | nil => rfl
  | cons x r ih => rw [show rowsK (x :: r) = [.int .i64 x.2.pl, x.1, .bool x.2.learnt, .bool x.2.live] ++ rowsK r from rfl]; simp [ih]; omega
/-- the book as it is in the midst of a Sweep -/
def mid (L : List Ent) (i : Nat) : List Ent := ren 0 (L.take i) ++ L.drop i
theorem mid_len (L : List Ent) (i : Nat) (h : i ≤ L.length) : (mid L i).length = L.length := by simp [mid, ren_len]; omega
theorem mid_zero (L : List Ent) : mid L 0 = L := by simp [mid, ren]
theorem mid_all (L : List Ent) : mid L L.length = ren 0 L := by simp [mid]
theorem mid_at {L : List Ent} {i : Nat} (hi : i < L.length) : (mid L i)[i]? = some L[i] := by
  unfold mid
  rw [List.getElem?_append_right (by simp [ren_len]; omega)]
  simp [ren_len, List.getElem?_drop]
  rw [show i + (i - min i L.length) = i by omega, List.getElem?_eq_getElem hi]
theorem mid_dead {L : List Ent} {i : Nat} (hi : i < L.length) (hl : L[i].2.live = false) : mid L (i + 1) = mid L i := by
  unfold mid
  rw [List.take_succ_eq_append_getElem hi, ren_append, List.drop_eq_getElem_cons hi, List.append_assoc]
  congr 1
  simp [ren, hl]
theorem mid_live {L : List Ent} {i : Nat} (hi : i < L.length) (hl : L[i].2.live = true) : rowsK (mid L (i + 1)) = (rowsK (mid L i)).set (i * 4) (.int .i64 ((wordsL (bk (L.take i))).length : Int)) := by
  unfold mid
  rw [List.take_succ_eq_append_getElem hi, ren_append, List.drop_eq_getElem_cons hi, List.append_assoc, rowsK_append, rowsK_append, rowsK_append, List.set_append_right _ _ (by rw [rowsK_len, ren_len]; simp; omega)]
  congr 1
  rw [rowsK_len, ren_len, List.length_take, show i * 4 - min i L.length * 4 = 0 by omega]
  generalize L.drop (i + 1) = D
  generalize L[i] = x at *
  simp [ren, hl, rowsK]
theorem mid_mem {L : List Ent} {i : Nat} {x : Ent} (h : x ∈ mid L i) : ∃ y ∈ L, x.1 = y.1 ∧ x.2.lits = y.2.lits := by
  unfold mid at h
  rcases List.mem_append.1 h with h | h
  · obtain ⟨y, hy, e⟩ := ren_mem h
    exact ⟨y, List.mem_of_mem_take hy, e⟩
  · exact ⟨x, List.mem_of_mem_drop h, rfl, rfl⟩
theorem TellsAt.grown {W W' : World} {m mb : Nat} {M : LvL} {B K s : Nat} {e : TypeId} {v : Value} {xs : List Value} (h : TellsAt W m mb M) (hr : W.ownsRow B e s v K xs) (hne : 93 ≠ e) (hg : W.grownBy W' v.ownBlock) : TellsAt W' m mb M := by
  obtain ⟨n, D, hD, hT⟩ := h.map
  exact ⟨h.box.kept hg (h.box.not_row hne hr), n, D, World.ownsMap.kept hD hg (mapR_row hD hr), hT⟩
theorem TellsAt.below {W W' : World} {m mb : Nat} {M : LvL} (h : TellsAt W m mb M) (hb : Below W.heap.size W W') : TellsAt W' m mb M := by
  obtain ⟨n, D, hD, hT⟩ := h.map
  exact ⟨h.box.below hb, n, D, World.ownsMap.kept hD (grown_below hb) (by simp), hT⟩
theorem Ar.row {W W' : World} {b : Nat} {v : Value} {S : List Seg} {B K s : Nat} {e : TypeId} {u : Value} {xs : List Value} (h : Ar W b v S) (hr : W.ownsRow B e s u K xs) (h1 : 88 ≠ e) (h2 : 3 ≠ e) (hg : W.grownBy W' u.ownBlock) : Ar W' b v S :=
  ⟨h.box.kept hg (h.box.not_row h1 hr), row_apart h2 h.own hr hg, h.ok⟩
theorem func_not_nil (gf : Nat) (lb : Array Value) (w : World) : (binOp BinOp.eql 75 (Value.func (Fn.func gf) #[] lb) Value.nilFunc).run Try.prog w = .ok (.bool false) w := by rfl

/-- in the midst of 'swept' -/
structure Kw (B : Nat) (w1 W : World) (rv : Value) (L : List Ent) (i : Nat) : Prop where
  row : W.ownsRow B 52 4 rv L.length (rowsK (mid L i))
  grown : w1.grownBy W rv.ownBlock

def SwptS (B : Nat) (w : World) (b : Nat) (S : List Seg) (rv : Value) (L : List Ent) (e : Ending) (w' : World) : Prop :=
  e = .returned (.bool true) ∧ ∃ v' L', Kst B w' b v' (swp S) rv L' ∧ L'.length = L.length ∧ (∀ g, v'.ownBlock = some g → w.heap.size ≤ g) ∧ Below B w w'

set_option maxHeartbeats 3200000 in
theorem swept_any (B b : Nat) (v rv : Value) (S : List Seg) (L : List Ent) (w : World) (h : Kst B w b v S rv L) (hl : (flat S).length * 8 ≤ 140737488351232) (hl2 : (flat S).length * 32 ≤ 140737488351232)
    (hBb : B ≤ b) (hBv : ∀ g, v.ownBlock = some g → B ≤ g) (hB : B ≤ w.heap.size) :
    Calls Try.prog 22 #[.pointer (some ⟨b, 0, none⟩), rv] w fun e w' => SwptS B w b S rv L e w' := by
  have HK : Hid (Kst B w b v S rv L) := h
  obtain ⟨ra, rc, hrv⟩ := row_form4 h.bok.row
  subst hrv
  have hL : L.length ≤ maxLen := by
    rcases h.bok.row.2 with ⟨_, e2⟩ | ⟨g, cap, cur, _, _, _, hnc, hcm, _⟩
    · omega
    · omega
  unfold maxLen at hL
  have HWl : Hid (∀ i, (wordsL (bk (L.take i))).length ≤ (wordsL (lv 0 S)).length) := fun i => by
    rw [← h.eq]
    conv => rhs; rw [← List.take_append_drop i L, bk_append]
    simp only [wordsL, List.flatMap_append, List.length_append]
    omega
  have HWF : Hid ((wordsL (lv 0 S)).length ≤ (flat S).length) := by
    have := wordsL_le S (lv 0 S).length
    rwa [List.take_length] at this
  have hlv := lv_len_le S 0
  have HSw := sweep_any b v S w h.ar hl hl2
  generalize hPS : SwptS B w b S (.slice ra L.length rc) L = PS at *
  clear h
  go_enter Try.func22, Try.ntmps22
  go_wp2_with fail
  refine HSw.mono ?_
  clear HSw
  rintro e w1 ⟨m, mb, v', rfl, ar1, mv1, hm, hmb, tl1, hv'⟩
  have HAr : Hid (Ar w1 b v' (swp S)) := ar1
  have HMv : Hid (Mv w b v w1 v') := mv1
  have HTl : Hid (TellsAt w1 m mb (lv 0 S)) := tl1
  have HRow1 : Hid (w1.ownsRow B 52 4 (.slice ra L.length rc) L.length (rowsK L)) := by
    have hrow := HK.out.bok.row
    have hg : w.grownBy w1 none ∨ True := .inr trivial
    rcases hrow.2 with ⟨e, e2⟩ | ⟨g, cap, cur, e, hbg, hh, r1, r2, r3, r4⟩
    · exact ⟨hrow.1, .inl ⟨e, e2⟩⟩
    · refine ⟨hrow.1, .inr ⟨g, cap, cur, e, hbg, ?_, r1, r2, r3, r4⟩⟩
      rw [mv1.block g (Array.getElem?_eq_some_iff.1 hh).1 ?_ ?_]; exact hh
      · rintro rfl
        have := HK.out.ar.box
        rw [show w.heap[g]? = _ from this] at hh
        injection hh with hh
        injection hh with _ e3
        exact absurd e3 (by decide)
      · intro e3
        have := HK.out.ar.own
        rcases this.2 with ⟨e4, _⟩ | ⟨g', _, _, e4, _, hh', _⟩
        · rw [e4] at e3; cases e3
        · rw [e4] at e3; cases e3
          rw [hh'] at hh
          injection hh with hh
          injection hh with _ e5
          exact absurd e5 (by decide)
  have HK0 : Hid (Kw B w1 w1 (.slice ra L.length rc) L 0) := ⟨by rw [mid_zero]; exact HRow1.out, World.grownBy.refl _ _⟩
  have HFin : Hid (∀ W, Kw B w1 W (.slice ra L.length rc) L L.length → PS (.returned (.bool true)) W) := fun W hW => by
    rw [← hPS]
    have hrow := hW.row
    rw [mid_all] at hrow
    have hown1 : ∀ x ∈ L, Own B w1 x.1 x.2.lits := fun x hx => (HK.out.bok.own x hx).mv mv1 (HK.out.sep x hx)
    have hown : ∀ x ∈ L, Own B W x.1 x.2.lits := fun x hx => row_apart (by decide) (hown1 x hx) HRow1.out hW.grown
    refine ⟨rfl, v', ren 0 L, ⟨ar1.row HRow1.out (by decide) (by decide) hW.grown, ⟨by rw [ren_len]; exact hrow, fun x hx => ?_⟩, fun x hx => ?_, by rw [bk_ren, HK.out.eq, ← swp_lv S 0 0]⟩, ren_len _ _, hv', ?_⟩
    · obtain ⟨y, hy, e1, e2⟩ := ren_mem hx
      rw [e1, e2]; exact hown y hy
    · obtain ⟨y, hy, e1, e2⟩ := ren_mem hx
      rw [e1]
      intro g hg
      refine ⟨(HK.out.sep y hy g hg).1, fun e => ?_⟩
      have h1 := hv' g e.symm
      have h2 := ((HK.out.bok.own y hy).lt g hg).2
      omega
    · refine ⟨hW.grown.os.trans mv1.os, hW.grown.tape.trans mv1.tape, hW.grown.output.trans mv1.output, Nat.le_trans mv1.size hW.grown.size, fun k hk => ?_⟩
      have k1 : k < w.heap.size := Nat.lt_of_lt_of_le hk hB
      rw [hW.grown.block k (Nat.lt_of_lt_of_le k1 mv1.size) (fun e => by have := (HRow1.out.lt k e.symm).1; omega)]
      exact mv1.block k k1 (by omega) (fun e => by have := hBv k e.symm; omega)
  clear hPS ar1 mv1 tl1 hv' hBv
  have hfn := func_not_nil 50 #[.pointer (some ⟨m, 0, none⟩)]
  go_wp2
  clear hfn
  go_loopg [6, 7] L.length (fun g s6 s7 wr => ∃ i : Nat, i + g = L.length ∧ s6 = .int .i64 (wordsL (bk (L.take i))).length ∧ s7 = .int .i64 i ∧ Hid (Kw B w1 wr (.slice ra L.length rc) L i))
  case atStart => exact ⟨0, by omega, rfl, rfl, HK0⟩
  case round =>
    obtain ⟨i, hi, rfl, rfl, HW⟩ := hrel
    have HI : Hid (i + gk = L.length) := hi
    by_cases hlt : i < L.length
    · have hb1 := HWl.out (i + 1)
      have hwf := HWF.out
      have HS : Hid (bk (L.take (i + 1)) = bk (L.take i) ++ (if L[i].2.live then [(L[i].2.pl, L[i].2.lits, L[i].2.learnt)] else [])) := bk_take_succ L i hlt
      have HTk : Hid (TellsAt wr m mb (lv 0 S)) := HTl.out.grown HRow1.out (by decide) HW.out.grown
      have hml := mid_len L i (by omega)
      have HBkk : Hid (∃ g cap, ra = some ⟨g, 0, none⟩ ∧ rc = cap ∧ L.length ≤ cap ∧ g < wr.heap.size ∧ wr.frozen? ⟨g, i * 4, none⟩ = false ∧ wr.cell? ⟨g, i * 4, none⟩ = some (.int .i64 L[i].2.pl) ∧ wr.cell? ⟨g, i * 4 + 1, none⟩ = some L[i].1 ∧ wr.cell? ⟨g, i * 4 + 3, none⟩ = some (.bool L[i].2.live)) := by
        have hrow := HW.out.row
        rcases hrow.2 with ⟨e, e2⟩ | ⟨g, cap, cur, e, hbg, hh, hnc, hcm, _⟩
        · omega
        · injection e with e1 e2 e3
          have hc := World.ownsRow.cells hrow (g := g) (by rw [e1]; rfl)
          have him : i < (mid L i).length := by omega
          have e9 : (mid L i)[i] = L[i] := by
            have := mid_at hlt
            rw [List.getElem?_eq_getElem him] at this
            injection this
          obtain ⟨r0, r1, r2, r3⟩ := rowsK_at him
          rw [e9] at r0 r1 r2 r3
          have a0 := hc _ _ r0
          have a1 := hc _ _ r1
          have a3 := hc _ _ r3
          rw [Addr.add_lit, Nat.zero_add] at a0 a1 a3
          exact ⟨g, cap, e1, e3, hnc, (Array.getElem?_eq_some_iff.1 hh).1, by simp [World.frozen?, hh], a0, a1, a3⟩
      obtain ⟨g, cap, e1, e2, hnc, hgl, hfz, c0, c1, c3⟩ := HBkk.out
      subst e1; subst e2
      cases hlive : L[i].2.live
      · rw [hlive] at c3
        have HS2 : Hid (wordsL (bk (L.take (i + 1))) = wordsL (bk (L.take i))) := by show _ = _; rw [HS.out, hlive]; simp
        have HM : Hid (mid L (i + 1) = mid L i) := mid_dead hlt hlive
        clear hi HBkk hml
        go_wp2
        go_roundg (gk - 1)
        case measure => have := HI.out; omega
        case rel => exact ⟨i + 1, by have := HI.out; omega, by rw [HS2.out], by go_num, by rw [HM.out]; exact HW.out.row, HW.out.grown⟩
      · rw [hlive] at c3
        have HS2 : Hid ((wordsL (bk (L.take (i + 1)))).length = (wordsL (bk (L.take i))).length + (1 + L[i].2.lits.length)) := by show _ = _; rw [HS.out, hlive]; simp [wordsL]; omega
        rw [HS2.out] at hb1
        have HM : Hid (rowsK (mid L (i + 1)) = (rowsK (mid L i)).set (i * 4) (.int .i64 ((wordsL (bk (L.take i))).length : Int))) := mid_live hlt hlive
        have hwt := went_bk HK.out.eq hlt hlive
        have HO : Hid (Own B w L[i].1 L[i].2.lits) := HK.out.bok.own _ (List.getElem_mem hlt)
        have HF : Hid (find S L[i].2.pl = some ⟨L[i].2.lits, L[i].2.learnt, true⟩) := HK.out.find hlt hlive
        obtain ⟨f1, f2, f3, f4, f5, f6⟩ := find_get HF.out
        have hpl : L[i].2.pl ≤ 9223372036854775807 := by omega
        have HTel : Hid (Calls Try.prog 50 #[.int .i64 L[i].2.pl, .pointer (some ⟨m, 0, none⟩)] wr fun e w' => e = .returned (.tuple #[.int .i64 ((wordsL (bk (L.take i))).length : Int), .bool true]) ∧ w' = wr) := by
          have := tells_any m mb (lv 0 S) L[i].2.pl wr HTk.out (by omega) hpl
          rw [hwt] at this
          exact this
        obtain ⟨la, lc, hlv1⟩ := own_form HO.out
        rw [hlv1] at c1
        clear hi f1 f2 f3 f4 f5 f6 hlv1 HS HBkk hml hwt hpl
        generalize L[i].2.pl = pl at *
        generalize hls : L[i].2.lits = ls at *
        generalize hwl : (wordsL (bk (L.take i))).length = wl at *
        have hbb : ((wl : Int) == (wl : Int)) = true := beq_self_eq_true _
        go_wp2_with fail
        refine HTel.out.mono ?_
        rintro e w2 ⟨rfl, hw2⟩
        subst hw2
        have hX : Hid ((w2.setCell ⟨g, i * 4, none⟩ (.int .i64 (wl : Int))).ownsRow B 52 4 (.slice (some ⟨g, 0, none⟩) L.length rc) L.length (rowsK (mid L (i + 1)))) := by
          rw [HM.out]; exact (World.ownsRow.stored HW.out.row _ _).1
        have hG : Hid (w1.grownBy (w2.setCell ⟨g, i * 4, none⟩ (.int .i64 (wl : Int))) (some g)) := HW.out.grown.trans (grown_set _ _ _)
        have d1 : (w2.setCell ⟨g, i * 4, none⟩ (.int .i64 (wl : Int))).cell? ⟨g, i * 4 + 1, none⟩ = some (.slice la ls.length lc) := by
          rw [World.cell?_setCell_other _ _ _ _ (by intro e; injection e with _ e; omega)]; exact c1
        have hls2 : ls.length ≤ (flat S).length := by omega
        clear HTel
        go_wp2
        go_roundg (gk - 1)
        case measure => have := HI.out; omega
        case rel => exact ⟨i + 1, by have := HI.out; omega, by rw [HS2.out]; go_num, by go_num, hX.out, hG.out⟩
    · obtain rfl : i = L.length := by omega
      have HA2 : Hid (Ar wr b v' (swp S)) := HAr.out.row HRow1.out (by decide) (by decide) HW.out.grown
      have HE : Hid ((wordsL (bk (L.take L.length))).length = (flat (swp S)).length) := by
        show _ = _
        rw [List.take_length, HK.out.eq, flat_swp S 0]; rfl
      have hfl : (flat (swp S)).length * 8 ≤ 140737488351232 := by
        have h1 := HWF.out
        have h2 : wordsL (lv 0 S) = flat (swp S) := (flat_swp S 0).symm
        rw [h2] at h1; omega
      rw [HE.out]
      clear hi
      have hbb : (((flat (swp S)).length : Int) == ((flat (swp S)).length : Int)) = true := beq_self_eq_true _
      go_wp2_with fail
      refine (arWords_any b v' (swp S) wr HA2.out hfl).mono ?_
      rintro e w2 ⟨rfl, rfl⟩
      go_wp2
      first | exact HFin.out _ HW.out | (go_ret; exact HFin.out _ HW.out)

end Go.Proofs.Ytbioehbcopmepaa
