/-
  version.read, walked.
  KEEP: set below kept
-/
import Derived.Test.YtmfcaoacklbkoaaDoorVsR
import Derived.RangeFuncRecord
import Derived.Laws.ResultCell
set_option linter.unusedSimpArgs false
set_option linter.unusedVariables false
namespace Go.Proofs.YtmfcaoacklbkoaaDoor
open Go Go.RowKit

/-- a box of three texts -/
def Bp (W : World) (D : Nat) (a b c : ByteArray) : Prop := W.heap[D]? = some (.cells #[.string a, .string b, .string c] 95 (0, 0))
theorem Bp.lt {W : World} {D : Nat} {a b c : ByteArray} (h : Bp W D a b c) : D < W.heap.size := (Array.getElem?_eq_some_iff.1 h).1
theorem Bp.c0 {W : World} {D : Nat} {a b c : ByteArray} (h : Bp W D a b c) : W.cell? ⟨D, 0, none⟩ = some (.string a) := by simp [World.cell?, show W.heap[D]? = _ from h]
theorem Bp.c1 {W : World} {D : Nat} {a b c : ByteArray} (h : Bp W D a b c) : W.cell? ⟨D, 1, none⟩ = some (.string b) := by simp [World.cell?, show W.heap[D]? = _ from h]
theorem Bp.c2 {W : World} {D : Nat} {a b c : ByteArray} (h : Bp W D a b c) : W.cell? ⟨D, 2, none⟩ = some (.string c) := by simp [World.cell?, show W.heap[D]? = _ from h]
theorem Bp.f {W : World} {D : Nat} {a b c : ByteArray} (h : Bp W D a b c) (k : Nat) : W.frozen? ⟨D, k, none⟩ = false := by simp [World.frozen?, show W.heap[D]? = _ from h]
theorem Bp.new (W : World) (a b c : ByteArray) : Bp (W.alloc (.cells #[.string a, .string b, .string c] 95)) W.heap.size a b c := World.alloc_heap_new W _
theorem Bp.newS (W : World) (a b c : ByteArray) (D : Nat) (h : D = W.heap.size) : Bp (W.alloc (.cells #[.string a, .string b, .string c] 95)) D a b c := by subst h; exact World.alloc_heap_new W _
theorem Bp.below {B : Nat} {W W' : World} {D : Nat} {a b c : ByteArray} (h : Bp W D a b c) (hb : Below B W W') (hD : D < B) : Bp W' D a b c := (hb.block D hD).trans h
theorem Bp.set (W : World) {D : Nat} {a b c : ByteArray} (h : Bp W D a b c) (k : Nat) (x : Value) : (W.setCell ⟨D, k, none⟩ x).heap[D]? = some (.cells (#[.string a, .string b, .string c].set! k x) 95 (0, 0)) := by
  obtain ⟨hlt, hk⟩ := Array.getElem?_eq_some_iff.1 h
  show (W.heap.modify D _)[D]? = _
  rw [Array.getElem?_eq_getElem (by rw [Array.size_modify]; exact hlt), Array.getElem_modify_self, hk]
  rfl

theorem lidx20 (s : ByteArray) (hs : s.size ≤ 281474976710656) (W : World) : Calls Tryd.prog 60 #[.string s, .int .u8 45] W fun e w' => e = .returned (.int .i64 (iM s)) ∧ w' = W := by
  unfold iM
  exact Tryd.strings_LastIndexByte s 45 (by omega) W

theorem Bp.s0 {W : World} {D : Nat} {a b c : ByteArray} (h : Bp W D a b c) (x : ByteArray) : Bp (W.setCell ⟨D, 0, none⟩ (.string x)) D x b c := Bp.set W h 0 _
theorem Bp.s1 {W : World} {D : Nat} {a b c : ByteArray} (h : Bp W D a b c) (x : ByteArray) : Bp (W.setCell ⟨D, 1, none⟩ (.string x)) D a x c := Bp.set W h 1 _
theorem Bp.s2 {W : World} {D : Nat} {a b c : ByteArray} (h : Bp W D a b c) (x : ByteArray) : Bp (W.setCell ⟨D, 2, none⟩ (.string x)) D a b x := Bp.set W h 2 _
theorem below_set20 {B : Nat} {w W : World} {D : Nat} (hb : Below B w W) (hD : B ≤ D) (k : Nat) (x : Value) : Below B w (W.setCell ⟨D, k, none⟩ x) := hb.setCell hD _
theorem bp_set3 {w W : World} {D B : Nat} {x y z : ByteArray} (h : Bp W D x y z) (hb : Below B w W) (hD : B ≤ D) (a b c : ByteArray) :
    Bp (((W.setCell ⟨D, 0, none⟩ (.string a)).setCell ⟨D, 1, none⟩ (.string b)).setCell ⟨D, 2, none⟩ (.string c)) D a b c ∧ Below B w (((W.setCell ⟨D, 0, none⟩ (.string a)).setCell ⟨D, 1, none⟩ (.string b)).setCell ⟨D, 2, none⟩ (.string c)) :=
  ⟨((h.s0 a).s1 b).s2 c, below_set20 (below_set20 (below_set20 hb hD _ _) hD _ _) hD _ _⟩
theorem ret_bp {fn : Func} {p u : Tmp} {tmps : Array Value} {W : World} {D : Nat} {a b c : ByteArray} (h : fn.results = #[.cell p 95, .tmp u]) (hp : tmps.getD p undef = .pointer (some ⟨D, 0, none⟩)) (hb : Bp W D a b c) :
    (results fn tmps).run Tryd.prog W = .ok (.tuple #[.agg #[.string a, .string b, .string c], tmps.getD u undef]) W := by
  have c0 := hb.c0
  have c1 := hb.c1
  have c2 := hb.c2
  rw [results_cell_tmp h, hp]
  simp [go_sem, c0, c1, c2]
/-- what read answers: the parts -/
def rdV (s : ByteArray) : Value := if okS s then .agg #[.string (epS s), .string (upS (taS s)), .string (reS (taS s))] else .agg #[.string ⟨#[]⟩, .string ⟨#[]⟩, .string ⟨#[]⟩]
theorem bp_off {W : World} {D : Nat} {a b c : ByteArray} (h : Bp W D a b c) (x y : Value) : Bp ((W.setCell ⟨D + 1, 1, none⟩ x).setCell ⟨D + 1, 2, none⟩ y).drew D a b c :=
  show ((W.setCell ⟨D + 1, 1, none⟩ x).setCell ⟨D + 1, 2, none⟩ y).heap[D]? = _ from ((Below.heap_setCell _ _ _ _ (by simp)).trans (Below.heap_setCell _ _ _ _ (by simp))).trans h

set_option maxHeartbeats 3200000 in
theorem read20_any (s : ByteArray) (w : World) (hs : s.size ≤ 281474976710656) :
    Calls Tryd.prog 51 #[.string s] w fun e w' => e = .returned (.tuple #[rdV s, .bool (okS s)]) ∧ Below w.heap.size w w' := by
  by_cases hc : iC s < 0
  · have HC : Hid (∀ W, Calls Tryd.prog 57 #[.string s, .string ⟨#[58]⟩] W fun e w' => e = .returned (.tuple #[.string s, .string ⟨#[]⟩, .bool false]) ∧ w' = W) := fun W => cut20_no s W hc
    have HE : Hid (epS s = ⟨#[]⟩) := by show _ = _; rw [epS, if_pos hc]
    have HT : Hid (taS s = s) := by show _ = _; rw [taS, if_pos hc]
    have HO : Hid (okS s = ((decide (iM s < 0) || allS plnR (reS s)) && (spn digR (upS s).data.toList != 0 && allS upsR (upS s)))) := by show _ = _; rw [okS, decide_eq_true hc, HT.out]; simp
    have HL : Hid (∀ W, Calls Tryd.prog 60 #[.string s, .int .u8 45] W fun e w' => e = .returned (.int .i64 (iM s)) ∧ w' = W) := lidx20 s hs
    have HTs : Hid (s.size ≤ 281474976710656) := hs
    clear hs hc
    go_enter Tryd.func51, Tryd.ntmps51
    go_wp2_with fail
    refine (HC.out _).mono ?_
    rintro e w1 ⟨rfl, rfl⟩
    go_wp2_with fail
    obtain ⟨W1, hW1⟩ : ∃ W1, W1 = ((w.alloc (.cells #[.string ⟨#[]⟩, .string ⟨#[]⟩, .string ⟨#[]⟩] 95)).alloc (.cells #[.string ⟨#[]⟩, .string s, .string ⟨#[]⟩] 95)) := ⟨_, rfl⟩
    have H0' : Bp W1 w.heap.size ⟨#[]⟩ ⟨#[]⟩ ⟨#[]⟩ := by rw [hW1]; exact (Below.heap_alloc _ _ _ (by simp)).trans (World.alloc_heap_new w _)
    have H1' : Bp W1 (w.heap.size + 1) ⟨#[]⟩ s ⟨#[]⟩ := by rw [hW1]; exact Bp.newS _ _ _ _ _ (by simp)
    have HB' : Below w.heap.size w W1 := by rw [hW1]; exact Below.alloc (Below.alloc (Below.refl _ _) (Nat.le_refl _) _) (by simp) _
    rw [← hW1]
    clear hW1 HC
    have H0 : Hid (Bp W1 w.heap.size ⟨#[]⟩ ⟨#[]⟩ ⟨#[]⟩) := H0'
    have H1 : Hid (Bp W1 (w.heap.size + 1) ⟨#[]⟩ s ⟨#[]⟩) := H1'
    have HB : Hid (Below w.heap.size w W1) := HB'
    clear H0' H1' HB'
    refine (HL.out _).mono ?_
    rintro e w2 ⟨rfl, rfl⟩
    have hi := iM_le s
    by_cases hm : iM s < 0
    · have HU : Hid (upS s = s) := by show _ = _; rw [upS, if_pos hm]
      have HR : Hid (reS s = ⟨#[]⟩) := by show _ = _; rw [reS, if_pos hm]
      have HO2 : Hid (okS s = (spn digR s.data.toList != 0 && allS upsR s)) := by show _ = _; rw [HO.out, decide_eq_true hm, HU.out]; simp
      have hm2 : iM s = -1 := by omega
      rw [hm2]
      clear hm hm2 hi HO HL
      have H12 : Hid (Bp w2 (w.heap.size + 1) ⟨#[]⟩ s ⟨#[]⟩) := H1.out
      have H02 : Hid (Bp w2 w.heap.size ⟨#[]⟩ ⟨#[]⟩ ⟨#[]⟩) := H0.out
      have HB2 : Hid (Below w.heap.size w w2) := HB.out
      clear H1 H0 HB
      have HSp : Hid (∀ W, Calls Tryd.prog 62 #[.string s, .func (.func 59) #[] #[]] W fun e w' => e = .returned (.int .i64 (spn digR s.data.toList)) ∧ Below W.heap.size W w') := fun W => span_digit s W
      have HAl : Hid (∀ W, Calls Tryd.prog 58 #[.string s, .func (.func 63) #[] #[]] W fun e w' => e = .returned (.bool (allS upsR s)) ∧ Below W.heap.size W w') := fun W => all_ups s W
      have c10 := H12.out.c0
      have c11 := H12.out.c1
      have c12 := H12.out.c2
      have HVal : Hid (epS s = ⟨#[]⟩ ∧ upS (taS s) = s ∧ reS (taS s) = ⟨#[]⟩) := ⟨HE.out, by rw [HT.out]; exact HU.out, by rw [HT.out]; exact HR.out⟩
      generalize spn digR s.data.toList = n at *
      generalize allS upsR s = au at *
      go_wp2_with fail
      refine (HSp.out _).mono ?_
      rintro e w3 ⟨rfl, bel3⟩
      have HB3 : Hid (Below w.heap.size w w3) := HB2.out.trans (bel3.mono HB2.out.size)
      have H13 : Hid (Bp w3 (w.heap.size + 1) ⟨#[]⟩ s ⟨#[]⟩) := H12.out.below bel3 H12.out.lt
      have H03 : Hid (Bp w3 w.heap.size ⟨#[]⟩ ⟨#[]⟩ ⟨#[]⟩) := H02.out.below bel3 H02.out.lt
      have k10 := H13.out.c0
      have k11 := H13.out.c1
      have k12 := H13.out.c2
      clear c10 c11 c12 bel3 HSp H12 H02
      by_cases hn : n = 0
      · have HOk : Hid (okS s = false) := by show _ = _; rw [HO2.out, hn]; rfl
        have hn2 : ((n : Int) == 0) = true := by rw [hn]; rfl
        clear hn
        have z0 := H03.out.c0
        have zf0 := H03.out.f 0
        have z1 := H03.out.c1
        have zf1 := H03.out.f 1
        have z2 := H03.out.c2
        have zf2 := H03.out.f 2
        have HX : Hid (Bp (((w3.setCell ⟨w.heap.size, 0, none⟩ (.string ⟨#[]⟩)).setCell ⟨w.heap.size, 1, none⟩ (.string ⟨#[]⟩)).setCell ⟨w.heap.size, 2, none⟩ (.string ⟨#[]⟩)) w.heap.size ⟨#[]⟩ ⟨#[]⟩ ⟨#[]⟩ ∧ Below w.heap.size w (((w3.setCell ⟨w.heap.size, 0, none⟩ (.string ⟨#[]⟩)).setCell ⟨w.heap.size, 1, none⟩ (.string ⟨#[]⟩)).setCell ⟨w.heap.size, 2, none⟩ (.string ⟨#[]⟩))) := bp_set3 H03.out HB3.out (Nat.le_refl _) ⟨#[]⟩ ⟨#[]⟩ ⟨#[]⟩
        go_wp2
        all_goals
          generalize ((w3.setCell ⟨w.heap.size, 0, none⟩ (.string ⟨#[]⟩)).setCell ⟨w.heap.size, 1, none⟩ (.string ⟨#[]⟩)).setCell ⟨w.heap.size, 2, none⟩ (.string ⟨#[]⟩) = Wx at *
          refine bodyPost_ret (ret_bp rfl rfl HX.out.1) rfl ?_
          exact ⟨by rw [rdV, HOk.out]; rfl, HX.out.2⟩
      · have hn2 : ((n : Int) == 0) = false := by simp; omega
        have HO3 : Hid (okS s = au) := by show _ = _; rw [HO2.out, show (n != 0) = true by simpa using hn]; simp
        clear hn HO2
        go_wp2_with fail
        refine (HAl.out _).mono ?_
        rintro e w4 ⟨rfl, bel4⟩
        have HB4 : Hid (Below w.heap.size w w4) := HB3.out.trans (bel4.mono HB3.out.size)
        have H14 : Hid (Bp w4 (w.heap.size + 1) ⟨#[]⟩ s ⟨#[]⟩) := H13.out.below bel4 H13.out.lt
        have H04 : Hid (Bp w4 w.heap.size ⟨#[]⟩ ⟨#[]⟩ ⟨#[]⟩) := H03.out.below bel4 H03.out.lt
        have m10 := H14.out.c0
        have m11 := H14.out.c1
        have m12 := H14.out.c2
        clear k10 k11 k12 bel4 HAl H13 H03 HB3
        cases au
        · have HOk : Hid (okS s = false) := HO3.out
          have z0 := H04.out.c0
          have zf0 := H04.out.f 0
          have z1 := H04.out.c1
          have zf1 := H04.out.f 1
          have z2 := H04.out.c2
          have zf2 := H04.out.f 2
          have HX : Hid (Bp (((w4.setCell ⟨w.heap.size, 0, none⟩ (.string ⟨#[]⟩)).setCell ⟨w.heap.size, 1, none⟩ (.string ⟨#[]⟩)).setCell ⟨w.heap.size, 2, none⟩ (.string ⟨#[]⟩)) w.heap.size ⟨#[]⟩ ⟨#[]⟩ ⟨#[]⟩ ∧ Below w.heap.size w (((w4.setCell ⟨w.heap.size, 0, none⟩ (.string ⟨#[]⟩)).setCell ⟨w.heap.size, 1, none⟩ (.string ⟨#[]⟩)).setCell ⟨w.heap.size, 2, none⟩ (.string ⟨#[]⟩))) := bp_set3 H04.out HB4.out (Nat.le_refl _) ⟨#[]⟩ ⟨#[]⟩ ⟨#[]⟩
          go_wp2
          all_goals
            generalize ((w4.setCell ⟨w.heap.size, 0, none⟩ (.string ⟨#[]⟩)).setCell ⟨w.heap.size, 1, none⟩ (.string ⟨#[]⟩)).setCell ⟨w.heap.size, 2, none⟩ (.string ⟨#[]⟩) = Wx at *
            refine bodyPost_ret (ret_bp rfl rfl HX.out.1) rfl ?_
            exact ⟨by rw [rdV, HOk.out]; rfl, HX.out.2⟩
        · have HOk : Hid (okS s = true) := HO3.out
          have z0 := H04.out.c0
          have zf0 := H04.out.f 0
          have z1 := H04.out.c1
          have zf1 := H04.out.f 1
          have z2 := H04.out.c2
          have zf2 := H04.out.f 2
          have HX : Hid (Bp (((w4.setCell ⟨w.heap.size, 0, none⟩ (.string ⟨#[]⟩)).setCell ⟨w.heap.size, 1, none⟩ (.string s)).setCell ⟨w.heap.size, 2, none⟩ (.string ⟨#[]⟩)) w.heap.size ⟨#[]⟩ s ⟨#[]⟩ ∧ Below w.heap.size w (((w4.setCell ⟨w.heap.size, 0, none⟩ (.string ⟨#[]⟩)).setCell ⟨w.heap.size, 1, none⟩ (.string s)).setCell ⟨w.heap.size, 2, none⟩ (.string ⟨#[]⟩))) := bp_set3 H04.out HB4.out (Nat.le_refl _) ⟨#[]⟩ s ⟨#[]⟩
          go_wp2
          all_goals
            generalize ((w4.setCell ⟨w.heap.size, 0, none⟩ (.string ⟨#[]⟩)).setCell ⟨w.heap.size, 1, none⟩ (.string s)).setCell ⟨w.heap.size, 2, none⟩ (.string ⟨#[]⟩) = Wx at *
            refine bodyPost_ret (ret_bp rfl rfl HX.out.1) rfl ?_
            exact ⟨by rw [rdV, HOk.out, HVal.out.1, HVal.out.2.1, HVal.out.2.2]; rfl, HX.out.2⟩
    · obtain ⟨k, hk⟩ : ∃ k : Nat, iM s = k := ⟨(iM s).toNat, by omega⟩
      have hks : k < s.size := by omega
      have HU : Hid (upS s = s.extract 0 k) := by show _ = _; rw [upS, if_neg hm, hk]; rfl
      have HR : Hid (reS s = s.extract (k + 1) s.size) := by show _ = _; rw [reS, if_neg hm, hk]; rfl
      have HO1 : Hid (okS s = (allS plnR (s.extract (k + 1) s.size) && (spn digR (s.extract 0 k).data.toList != 0 && allS upsR (s.extract 0 k)))) := by show _ = _; rw [HO.out, decide_eq_false hm, HU.out, HR.out]; simp
      have c10 := H1.out.c0
      have c11 := H1.out.c1
      have c12 := H1.out.c2
      have f10 := H1.out.f 0
      have f11 := H1.out.f 1
      have f12 := H1.out.f 2
      rw [hk]
      have HKs : Hid (k < s.size ∧ s.size ≤ 281474976710656) := ⟨hks, HTs.out⟩
      clear hi hm hk HO HL
      have hsz : s.size ≤ 281474976710656 := HKs.out.2
      have hw9 : IntKind.i64.wrap ((k : Int) + 1) = (k : Int) + 1 := by rw [IntKind.wrap_i64]; omega
      have hb1 : 0 ≤ (k : Int) + 1 ∧ (k : Int) + 1 ≤ (s.size : Int) := ⟨by omega, by omega⟩
      have hb2 : k ≤ s.size := by omega
      have hb3 : (0 : Int) ≤ k ∧ (k : Int) ≤ (s.size : Int) := ⟨by omega, by omega⟩
      go_upto_region 9 with fail
      go_region_law (fail)
      all_goals
        have H14 : Hid (Bp ((w2.setCell ⟨w.heap.size + 1, 1, none⟩ (.string (s.extract 0 k))).setCell ⟨w.heap.size + 1, 2, none⟩ (.string (s.extract (k + 1) s.size))).drew (w.heap.size + 1) ⟨#[]⟩ (s.extract 0 k) (s.extract (k + 1) s.size)) := (H1.out.s1 _).s2 _
        have H04 : Hid (Bp ((w2.setCell ⟨w.heap.size + 1, 1, none⟩ (.string (s.extract 0 k))).setCell ⟨w.heap.size + 1, 2, none⟩ (.string (s.extract (k + 1) s.size))).drew w.heap.size ⟨#[]⟩ ⟨#[]⟩ ⟨#[]⟩) := bp_off H0.out _ _
        have HB4 : Hid (Below w.heap.size w ((w2.setCell ⟨w.heap.size + 1, 1, none⟩ (.string (s.extract 0 k))).setCell ⟨w.heap.size + 1, 2, none⟩ (.string (s.extract (k + 1) s.size))).drew) := (below_set20 (below_set20 HB.out (by omega) _ _) (by omega) _ _).trans ⟨rfl, rfl, rfl, Nat.le_refl _, fun _ _ => rfl⟩
        generalize ((w2.setCell ⟨w.heap.size + 1, 1, none⟩ (.string (s.extract 0 k))).setCell ⟨w.heap.size + 1, 2, none⟩ (.string (s.extract (k + 1) s.size))).drew = w5 at *
        clear c10 c11 c12 f10 f11 f12 hb1 hb2 hb3 hw9 hks H1 H0 HB hsz
        generalize s.extract 0 k = U at *
        generalize s.extract (k + 1) s.size = R at *
        have HAp : Hid (∀ W, Calls Tryd.prog 58 #[.string R, .func (.func 61) #[] #[]] W fun e w' => e = .returned (.bool (allS plnR R)) ∧ Below W.heap.size W w') := fun W => all_plain R W
        generalize allS plnR R = ap at *
        have m10 := H14.out.c0
        have m11 := H14.out.c1
        have m12 := H14.out.c2
        go_wp2_with fail
        refine (HAp.out _).mono ?_
        rintro e w6 ⟨rfl, bel6⟩
        have HB2 : Hid (Below w.heap.size w w6) := HB4.out.trans (bel6.mono HB4.out.size)
        have H12 : Hid (Bp w6 (w.heap.size + 1) ⟨#[]⟩ U R) := H14.out.below bel6 H14.out.lt
        have H02 : Hid (Bp w6 w.heap.size ⟨#[]⟩ ⟨#[]⟩ ⟨#[]⟩) := H04.out.below bel6 H04.out.lt
        clear m10 m11 m12 bel6 HAp H14 H04 HB4
        cases ap
        · have HOk : Hid (okS s = false) := by show _ = _; rw [HO1.out]; rfl
          clear HO1
          have z0 := H02.out.c0
          have zf0 := H02.out.f 0
          have z1 := H02.out.c1
          have zf1 := H02.out.f 1
          have z2 := H02.out.c2
          have zf2 := H02.out.f 2
          have HX : Hid (Bp (((w6.setCell ⟨w.heap.size, 0, none⟩ (.string ⟨#[]⟩)).setCell ⟨w.heap.size, 1, none⟩ (.string ⟨#[]⟩)).setCell ⟨w.heap.size, 2, none⟩ (.string ⟨#[]⟩)) w.heap.size ⟨#[]⟩ ⟨#[]⟩ ⟨#[]⟩ ∧ Below w.heap.size w (((w6.setCell ⟨w.heap.size, 0, none⟩ (.string ⟨#[]⟩)).setCell ⟨w.heap.size, 1, none⟩ (.string ⟨#[]⟩)).setCell ⟨w.heap.size, 2, none⟩ (.string ⟨#[]⟩))) := bp_set3 H02.out HB2.out (Nat.le_refl _) ⟨#[]⟩ ⟨#[]⟩ ⟨#[]⟩
          go_wp2
          all_goals
            generalize ((w6.setCell ⟨w.heap.size, 0, none⟩ (.string ⟨#[]⟩)).setCell ⟨w.heap.size, 1, none⟩ (.string ⟨#[]⟩)).setCell ⟨w.heap.size, 2, none⟩ (.string ⟨#[]⟩) = Wx at *
            refine bodyPost_ret (ret_bp rfl rfl HX.out.1) rfl ?_
            exact ⟨by rw [rdV, HOk.out]; rfl, HX.out.2⟩
        · have HO2 : Hid (okS s = (spn digR U.data.toList != 0 && allS upsR U)) := by show _ = _; rw [HO1.out]; simp
          clear HO1
          have HSp : Hid (∀ W, Calls Tryd.prog 62 #[.string U, .func (.func 59) #[] #[]] W fun e w' => e = .returned (.int .i64 (spn digR U.data.toList)) ∧ Below W.heap.size W w') := fun W => span_digit U W
          have HAl : Hid (∀ W, Calls Tryd.prog 58 #[.string U, .func (.func 63) #[] #[]] W fun e w' => e = .returned (.bool (allS upsR U)) ∧ Below W.heap.size W w') := fun W => all_ups U W
          have c10 := H12.out.c0
          have c11 := H12.out.c1
          have c12 := H12.out.c2
          have HVal : Hid (epS s = ⟨#[]⟩ ∧ upS (taS s) = U ∧ reS (taS s) = R) := ⟨HE.out, by rw [HT.out]; exact HU.out, by rw [HT.out]; exact HR.out⟩
          generalize spn digR U.data.toList = n at *
          generalize allS upsR U = au at *
          go_wp2_with fail
          refine (HSp.out _).mono ?_
          rintro e w3 ⟨rfl, bel3⟩
          have HB3 : Hid (Below w.heap.size w w3) := HB2.out.trans (bel3.mono HB2.out.size)
          have H13 : Hid (Bp w3 (w.heap.size + 1) ⟨#[]⟩ U R) := H12.out.below bel3 H12.out.lt
          have H03 : Hid (Bp w3 w.heap.size ⟨#[]⟩ ⟨#[]⟩ ⟨#[]⟩) := H02.out.below bel3 H02.out.lt
          have k10 := H13.out.c0
          have k11 := H13.out.c1
          have k12 := H13.out.c2
          clear c10 c11 c12 bel3 HSp H12 H02
          by_cases hn : n = 0
          · have HOk : Hid (okS s = false) := by show _ = _; rw [HO2.out, hn]; rfl
            have hn2 : ((n : Int) == 0) = true := by rw [hn]; rfl
            clear hn
            have z0 := H03.out.c0
            have zf0 := H03.out.f 0
            have z1 := H03.out.c1
            have zf1 := H03.out.f 1
            have z2 := H03.out.c2
            have zf2 := H03.out.f 2
            have HX : Hid (Bp (((w3.setCell ⟨w.heap.size, 0, none⟩ (.string ⟨#[]⟩)).setCell ⟨w.heap.size, 1, none⟩ (.string ⟨#[]⟩)).setCell ⟨w.heap.size, 2, none⟩ (.string ⟨#[]⟩)) w.heap.size ⟨#[]⟩ ⟨#[]⟩ ⟨#[]⟩ ∧ Below w.heap.size w (((w3.setCell ⟨w.heap.size, 0, none⟩ (.string ⟨#[]⟩)).setCell ⟨w.heap.size, 1, none⟩ (.string ⟨#[]⟩)).setCell ⟨w.heap.size, 2, none⟩ (.string ⟨#[]⟩))) := bp_set3 H03.out HB3.out (Nat.le_refl _) ⟨#[]⟩ ⟨#[]⟩ ⟨#[]⟩
            go_wp2
            all_goals
              generalize ((w3.setCell ⟨w.heap.size, 0, none⟩ (.string ⟨#[]⟩)).setCell ⟨w.heap.size, 1, none⟩ (.string ⟨#[]⟩)).setCell ⟨w.heap.size, 2, none⟩ (.string ⟨#[]⟩) = Wx at *
              refine bodyPost_ret (ret_bp rfl rfl HX.out.1) rfl ?_
              exact ⟨by rw [rdV, HOk.out]; rfl, HX.out.2⟩
          · have hn2 : ((n : Int) == 0) = false := by simp; omega
            have HO3 : Hid (okS s = au) := by show _ = _; rw [HO2.out, show (n != 0) = true by simpa using hn]; simp
            clear hn HO2
            go_wp2_with fail
            refine (HAl.out _).mono ?_
            rintro e w4 ⟨rfl, bel4⟩
            have HB4 : Hid (Below w.heap.size w w4) := HB3.out.trans (bel4.mono HB3.out.size)
            have H14 : Hid (Bp w4 (w.heap.size + 1) ⟨#[]⟩ U R) := H13.out.below bel4 H13.out.lt
            have H04 : Hid (Bp w4 w.heap.size ⟨#[]⟩ ⟨#[]⟩ ⟨#[]⟩) := H03.out.below bel4 H03.out.lt
            have m10 := H14.out.c0
            have m11 := H14.out.c1
            have m12 := H14.out.c2
            clear k10 k11 k12 bel4 HAl H13 H03 HB3
            cases au
            · have HOk : Hid (okS s = false) := HO3.out
              have z0 := H04.out.c0
              have zf0 := H04.out.f 0
              have z1 := H04.out.c1
              have zf1 := H04.out.f 1
              have z2 := H04.out.c2
              have zf2 := H04.out.f 2
              have HX : Hid (Bp (((w4.setCell ⟨w.heap.size, 0, none⟩ (.string ⟨#[]⟩)).setCell ⟨w.heap.size, 1, none⟩ (.string ⟨#[]⟩)).setCell ⟨w.heap.size, 2, none⟩ (.string ⟨#[]⟩)) w.heap.size ⟨#[]⟩ ⟨#[]⟩ ⟨#[]⟩ ∧ Below w.heap.size w (((w4.setCell ⟨w.heap.size, 0, none⟩ (.string ⟨#[]⟩)).setCell ⟨w.heap.size, 1, none⟩ (.string ⟨#[]⟩)).setCell ⟨w.heap.size, 2, none⟩ (.string ⟨#[]⟩))) := bp_set3 H04.out HB4.out (Nat.le_refl _) ⟨#[]⟩ ⟨#[]⟩ ⟨#[]⟩
              go_wp2
              all_goals
                generalize ((w4.setCell ⟨w.heap.size, 0, none⟩ (.string ⟨#[]⟩)).setCell ⟨w.heap.size, 1, none⟩ (.string ⟨#[]⟩)).setCell ⟨w.heap.size, 2, none⟩ (.string ⟨#[]⟩) = Wx at *
                refine bodyPost_ret (ret_bp rfl rfl HX.out.1) rfl ?_
                exact ⟨by rw [rdV, HOk.out]; rfl, HX.out.2⟩
            · have HOk : Hid (okS s = true) := HO3.out
              have z0 := H04.out.c0
              have zf0 := H04.out.f 0
              have z1 := H04.out.c1
              have zf1 := H04.out.f 1
              have z2 := H04.out.c2
              have zf2 := H04.out.f 2
              have HX : Hid (Bp (((w4.setCell ⟨w.heap.size, 0, none⟩ (.string ⟨#[]⟩)).setCell ⟨w.heap.size, 1, none⟩ (.string U)).setCell ⟨w.heap.size, 2, none⟩ (.string R)) w.heap.size ⟨#[]⟩ U R ∧ Below w.heap.size w (((w4.setCell ⟨w.heap.size, 0, none⟩ (.string ⟨#[]⟩)).setCell ⟨w.heap.size, 1, none⟩ (.string U)).setCell ⟨w.heap.size, 2, none⟩ (.string R))) := bp_set3 H04.out HB4.out (Nat.le_refl _) ⟨#[]⟩ U R
              go_wp2
              all_goals
                generalize ((w4.setCell ⟨w.heap.size, 0, none⟩ (.string ⟨#[]⟩)).setCell ⟨w.heap.size, 1, none⟩ (.string U)).setCell ⟨w.heap.size, 2, none⟩ (.string R) = Wx at *
                refine bodyPost_ret (ret_bp rfl rfl HX.out.1) rfl ?_
                exact ⟨by rw [rdV, HOk.out, HVal.out.1, HVal.out.2.1, HVal.out.2.2]; rfl, HX.out.2⟩
  · obtain ⟨k0, hk0⟩ : ∃ k0 : Nat, iC s = k0 := ⟨(iC s).toNat, by omega⟩
    have HC' := fun W => cut20_yes s W k0 hk0 hs
    have HE' : epS s = s.extract 0 k0 := by rw [epS, if_neg hc, hk0]; rfl
    have HT' : taS s = s.extract (k0 + 1) s.size := by rw [taS, if_neg hc, hk0]; rfl
    have HO' : okS s = (allS digR (epS s) && ((decide (iM (taS s) < 0) || allS plnR (reS (taS s))) && (spn digR (upS (taS s)).data.toList != 0 && allS upsR (upS (taS s))))) := by rw [okS, decide_eq_false hc]; simp
    have hsT' : (s.extract (k0 + 1) s.size).size ≤ 281474976710656 := by rw [ByteArray.size_extract]; omega
    rw [HE', HT'] at HO'
    generalize s.extract 0 k0 = E at *
    generalize s.extract (k0 + 1) s.size = T at *
    have HC : Hid (∀ W, Calls Tryd.prog 57 #[.string s, .string ⟨#[58]⟩] W fun e w' => e = .returned (.tuple #[.string E, .string T, .bool true]) ∧ Below W.heap.size W w') := HC'
    have HE : Hid (epS s = E) := HE'
    have HT : Hid (taS s = T) := HT'
    have HO0 : Hid (okS s = (allS digR E && ((decide (iM T < 0) || allS plnR (reS T)) && (spn digR (upS T).data.toList != 0 && allS upsR (upS T))))) := HO'
    have HL : Hid (∀ W, Calls Tryd.prog 60 #[.string T, .int .u8 45] W fun e w' => e = .returned (.int .i64 (iM T)) ∧ w' = W) := lidx20 T hsT'
    have HTs : Hid (T.size ≤ 281474976710656) := hsT'
    have HAe : Hid (∀ W, Calls Tryd.prog 58 #[.string E, .func (.func 59) #[] #[]] W fun e w' => e = .returned (.bool (allS digR E)) ∧ Below W.heap.size W w') := fun W => all_digit E W
    generalize allS digR E = ae at *
    clear hs hc hk0 HC' HE' HT' HO' hsT'
    go_enter Tryd.func51, Tryd.ntmps51
    go_wp2_with fail
    obtain ⟨W1, hW1⟩ : ∃ W1, W1 = ((w.alloc (.cells #[.string ⟨#[]⟩, .string ⟨#[]⟩, .string ⟨#[]⟩] 95)).alloc (.cells #[.string ⟨#[]⟩, .string s, .string ⟨#[]⟩] 95)) := ⟨_, rfl⟩
    have A0 : Hid (Bp W1 w.heap.size ⟨#[]⟩ ⟨#[]⟩ ⟨#[]⟩) := by rw [hW1]; exact (Below.heap_alloc _ _ _ (by simp)).trans (World.alloc_heap_new w _)
    have A1 : Hid (Bp W1 (w.heap.size + 1) ⟨#[]⟩ s ⟨#[]⟩) := by rw [hW1]; exact Bp.newS _ _ _ _ _ (by simp)
    have AB : Hid (Below w.heap.size w W1) := by rw [hW1]; exact Below.alloc (Below.alloc (Below.refl _ _) (Nat.le_refl _) _) (by simp) _
    rw [← hW1]
    clear hW1
    refine (HC.out _).mono ?_
    rintro e w2 ⟨rfl, bel2⟩
    have C0 : Hid (Bp w2 w.heap.size ⟨#[]⟩ ⟨#[]⟩ ⟨#[]⟩) := A0.out.below bel2 A0.out.lt
    have C1 : Hid (Bp w2 (w.heap.size + 1) ⟨#[]⟩ s ⟨#[]⟩) := A1.out.below bel2 A1.out.lt
    have CB : Hid (Below w.heap.size w w2) := AB.out.trans (bel2.mono AB.out.size)
    clear A0 A1 AB bel2 HC
    go_wp2_with fail
    refine (HAe.out _).mono ?_
    rintro e w3 ⟨rfl, bel3⟩
    have H03 : Hid (Bp w3 w.heap.size ⟨#[]⟩ ⟨#[]⟩ ⟨#[]⟩) := C0.out.below bel3 C0.out.lt
    have D1 : Hid (Bp w3 (w.heap.size + 1) ⟨#[]⟩ s ⟨#[]⟩) := C1.out.below bel3 C1.out.lt
    have HB3 : Hid (Below w.heap.size w w3) := CB.out.trans (bel3.mono CB.out.size)
    clear C0 C1 CB bel3 HAe
    cases ae
    · have HOk : Hid (okS s = false) := by show _ = _; rw [HO0.out]; rfl
      clear HO0 HL HTs
      have z0 := H03.out.c0
      have zf0 := H03.out.f 0
      have z1 := H03.out.c1
      have zf1 := H03.out.f 1
      have z2 := H03.out.c2
      have zf2 := H03.out.f 2
      have HX : Hid (Bp (((w3.setCell ⟨w.heap.size, 0, none⟩ (.string ⟨#[]⟩)).setCell ⟨w.heap.size, 1, none⟩ (.string ⟨#[]⟩)).setCell ⟨w.heap.size, 2, none⟩ (.string ⟨#[]⟩)) w.heap.size ⟨#[]⟩ ⟨#[]⟩ ⟨#[]⟩ ∧ Below w.heap.size w (((w3.setCell ⟨w.heap.size, 0, none⟩ (.string ⟨#[]⟩)).setCell ⟨w.heap.size, 1, none⟩ (.string ⟨#[]⟩)).setCell ⟨w.heap.size, 2, none⟩ (.string ⟨#[]⟩))) := bp_set3 H03.out HB3.out (Nat.le_refl _) ⟨#[]⟩ ⟨#[]⟩ ⟨#[]⟩
      go_wp2
      all_goals
        generalize ((w3.setCell ⟨w.heap.size, 0, none⟩ (.string ⟨#[]⟩)).setCell ⟨w.heap.size, 1, none⟩ (.string ⟨#[]⟩)).setCell ⟨w.heap.size, 2, none⟩ (.string ⟨#[]⟩) = Wx at *
        refine bodyPost_ret (ret_bp rfl rfl HX.out.1) rfl ?_
        exact ⟨by rw [rdV, HOk.out]; rfl, HX.out.2⟩
    · have HO : Hid (okS s = ((decide (iM T < 0) || allS plnR (reS T)) && (spn digR (upS T).data.toList != 0 && allS upsR (upS T)))) := by show _ = _; rw [HO0.out]; simp
      clear HO0
      have c10 := D1.out.c0
      have c11 := D1.out.c1
      have c12 := D1.out.c2
      have f10 := D1.out.f 0
      have f11 := D1.out.f 1
      have H0' : Bp ((w3.setCell ⟨w.heap.size + 1, 0, none⟩ (.string E)).setCell ⟨w.heap.size + 1, 1, none⟩ (.string T)) w.heap.size ⟨#[]⟩ ⟨#[]⟩ ⟨#[]⟩ := ((Below.heap_setCell _ _ _ _ (by simp)).trans (Below.heap_setCell _ _ _ _ (by simp))).trans H03.out
      have H1' : Bp ((w3.setCell ⟨w.heap.size + 1, 0, none⟩ (.string E)).setCell ⟨w.heap.size + 1, 1, none⟩ (.string T)) (w.heap.size + 1) E T ⟨#[]⟩ := (D1.out.s0 _).s1 _
      have HB' : Below w.heap.size w ((w3.setCell ⟨w.heap.size + 1, 0, none⟩ (.string E)).setCell ⟨w.heap.size + 1, 1, none⟩ (.string T)) := below_set20 (below_set20 HB3.out (by omega) _ _) (by omega) _ _
      have l11 := H1'.c1
      go_wp2_with fail
      all_goals
        generalize (w3.setCell ⟨w.heap.size + 1, 0, none⟩ (.string E)).setCell ⟨w.heap.size + 1, 1, none⟩ (.string T) = W1 at *
        clear c10 c11 c12 f10 f11 l11 H03 D1 HB3
        have H0 : Hid (Bp W1 w.heap.size ⟨#[]⟩ ⟨#[]⟩ ⟨#[]⟩) := H0'
        have H1 : Hid (Bp W1 (w.heap.size + 1) E T ⟨#[]⟩) := H1'
        have HB : Hid (Below w.heap.size w W1) := HB'
        clear H0' H1' HB'
        refine (HL.out _).mono ?_
        rintro e w2 ⟨rfl, rfl⟩
        have hi := iM_le T
        by_cases hm : iM T < 0
        · have HU : Hid (upS T = T) := by show _ = _; rw [upS, if_pos hm]
          have HR : Hid (reS T = ⟨#[]⟩) := by show _ = _; rw [reS, if_pos hm]
          have HO2 : Hid (okS s = (spn digR T.data.toList != 0 && allS upsR T)) := by show _ = _; rw [HO.out, decide_eq_true hm, HU.out]; simp
          have hm2 : iM T = -1 := by omega
          rw [hm2]
          clear hm hm2 hi HO HL
          have H12 : Hid (Bp w2 (w.heap.size + 1) E T ⟨#[]⟩) := H1.out
          have H02 : Hid (Bp w2 w.heap.size ⟨#[]⟩ ⟨#[]⟩ ⟨#[]⟩) := H0.out
          have HB2 : Hid (Below w.heap.size w w2) := HB.out
          clear H1 H0 HB
          have HSp : Hid (∀ W, Calls Tryd.prog 62 #[.string T, .func (.func 59) #[] #[]] W fun e w' => e = .returned (.int .i64 (spn digR T.data.toList)) ∧ Below W.heap.size W w') := fun W => span_digit T W
          have HAl : Hid (∀ W, Calls Tryd.prog 58 #[.string T, .func (.func 63) #[] #[]] W fun e w' => e = .returned (.bool (allS upsR T)) ∧ Below W.heap.size W w') := fun W => all_ups T W
          have c10 := H12.out.c0
          have c11 := H12.out.c1
          have c12 := H12.out.c2
          have HVal : Hid (epS s = E ∧ upS (taS s) = T ∧ reS (taS s) = ⟨#[]⟩) := ⟨HE.out, by rw [HT.out]; exact HU.out, by rw [HT.out]; exact HR.out⟩
          generalize spn digR T.data.toList = n at *
          generalize allS upsR T = au at *
          go_wp2_with fail
          refine (HSp.out _).mono ?_
          rintro e w3 ⟨rfl, bel3⟩
          have HB3 : Hid (Below w.heap.size w w3) := HB2.out.trans (bel3.mono HB2.out.size)
          have H13 : Hid (Bp w3 (w.heap.size + 1) E T ⟨#[]⟩) := H12.out.below bel3 H12.out.lt
          have H03 : Hid (Bp w3 w.heap.size ⟨#[]⟩ ⟨#[]⟩ ⟨#[]⟩) := H02.out.below bel3 H02.out.lt
          have k10 := H13.out.c0
          have k11 := H13.out.c1
          have k12 := H13.out.c2
          clear c10 c11 c12 bel3 HSp H12 H02
          by_cases hn : n = 0
          · have HOk : Hid (okS s = false) := by show _ = _; rw [HO2.out, hn]; rfl
            have hn2 : ((n : Int) == 0) = true := by rw [hn]; rfl
            clear hn
            have z0 := H03.out.c0
            have zf0 := H03.out.f 0
            have z1 := H03.out.c1
            have zf1 := H03.out.f 1
            have z2 := H03.out.c2
            have zf2 := H03.out.f 2
            have HX : Hid (Bp (((w3.setCell ⟨w.heap.size, 0, none⟩ (.string ⟨#[]⟩)).setCell ⟨w.heap.size, 1, none⟩ (.string ⟨#[]⟩)).setCell ⟨w.heap.size, 2, none⟩ (.string ⟨#[]⟩)) w.heap.size ⟨#[]⟩ ⟨#[]⟩ ⟨#[]⟩ ∧ Below w.heap.size w (((w3.setCell ⟨w.heap.size, 0, none⟩ (.string ⟨#[]⟩)).setCell ⟨w.heap.size, 1, none⟩ (.string ⟨#[]⟩)).setCell ⟨w.heap.size, 2, none⟩ (.string ⟨#[]⟩))) := bp_set3 H03.out HB3.out (Nat.le_refl _) ⟨#[]⟩ ⟨#[]⟩ ⟨#[]⟩
            go_wp2
            all_goals
              generalize ((w3.setCell ⟨w.heap.size, 0, none⟩ (.string ⟨#[]⟩)).setCell ⟨w.heap.size, 1, none⟩ (.string ⟨#[]⟩)).setCell ⟨w.heap.size, 2, none⟩ (.string ⟨#[]⟩) = Wx at *
              refine bodyPost_ret (ret_bp rfl rfl HX.out.1) rfl ?_
              exact ⟨by rw [rdV, HOk.out]; rfl, HX.out.2⟩
          · have hn2 : ((n : Int) == 0) = false := by simp; omega
            have HO3 : Hid (okS s = au) := by show _ = _; rw [HO2.out, show (n != 0) = true by simpa using hn]; simp
            clear hn HO2
            go_wp2_with fail
            refine (HAl.out _).mono ?_
            rintro e w4 ⟨rfl, bel4⟩
            have HB4 : Hid (Below w.heap.size w w4) := HB3.out.trans (bel4.mono HB3.out.size)
            have H14 : Hid (Bp w4 (w.heap.size + 1) E T ⟨#[]⟩) := H13.out.below bel4 H13.out.lt
            have H04 : Hid (Bp w4 w.heap.size ⟨#[]⟩ ⟨#[]⟩ ⟨#[]⟩) := H03.out.below bel4 H03.out.lt
            have m10 := H14.out.c0
            have m11 := H14.out.c1
            have m12 := H14.out.c2
            clear k10 k11 k12 bel4 HAl H13 H03 HB3
            cases au
            · have HOk : Hid (okS s = false) := HO3.out
              have z0 := H04.out.c0
              have zf0 := H04.out.f 0
              have z1 := H04.out.c1
              have zf1 := H04.out.f 1
              have z2 := H04.out.c2
              have zf2 := H04.out.f 2
              have HX : Hid (Bp (((w4.setCell ⟨w.heap.size, 0, none⟩ (.string ⟨#[]⟩)).setCell ⟨w.heap.size, 1, none⟩ (.string ⟨#[]⟩)).setCell ⟨w.heap.size, 2, none⟩ (.string ⟨#[]⟩)) w.heap.size ⟨#[]⟩ ⟨#[]⟩ ⟨#[]⟩ ∧ Below w.heap.size w (((w4.setCell ⟨w.heap.size, 0, none⟩ (.string ⟨#[]⟩)).setCell ⟨w.heap.size, 1, none⟩ (.string ⟨#[]⟩)).setCell ⟨w.heap.size, 2, none⟩ (.string ⟨#[]⟩))) := bp_set3 H04.out HB4.out (Nat.le_refl _) ⟨#[]⟩ ⟨#[]⟩ ⟨#[]⟩
              go_wp2
              all_goals
                generalize ((w4.setCell ⟨w.heap.size, 0, none⟩ (.string ⟨#[]⟩)).setCell ⟨w.heap.size, 1, none⟩ (.string ⟨#[]⟩)).setCell ⟨w.heap.size, 2, none⟩ (.string ⟨#[]⟩) = Wx at *
                refine bodyPost_ret (ret_bp rfl rfl HX.out.1) rfl ?_
                exact ⟨by rw [rdV, HOk.out]; rfl, HX.out.2⟩
            · have HOk : Hid (okS s = true) := HO3.out
              have z0 := H04.out.c0
              have zf0 := H04.out.f 0
              have z1 := H04.out.c1
              have zf1 := H04.out.f 1
              have z2 := H04.out.c2
              have zf2 := H04.out.f 2
              have HX : Hid (Bp (((w4.setCell ⟨w.heap.size, 0, none⟩ (.string E)).setCell ⟨w.heap.size, 1, none⟩ (.string T)).setCell ⟨w.heap.size, 2, none⟩ (.string ⟨#[]⟩)) w.heap.size E T ⟨#[]⟩ ∧ Below w.heap.size w (((w4.setCell ⟨w.heap.size, 0, none⟩ (.string E)).setCell ⟨w.heap.size, 1, none⟩ (.string T)).setCell ⟨w.heap.size, 2, none⟩ (.string ⟨#[]⟩))) := bp_set3 H04.out HB4.out (Nat.le_refl _) E T ⟨#[]⟩
              go_wp2
              all_goals
                generalize ((w4.setCell ⟨w.heap.size, 0, none⟩ (.string E)).setCell ⟨w.heap.size, 1, none⟩ (.string T)).setCell ⟨w.heap.size, 2, none⟩ (.string ⟨#[]⟩) = Wx at *
                refine bodyPost_ret (ret_bp rfl rfl HX.out.1) rfl ?_
                exact ⟨by rw [rdV, HOk.out, HVal.out.1, HVal.out.2.1, HVal.out.2.2]; rfl, HX.out.2⟩
        · obtain ⟨k, hk⟩ : ∃ k : Nat, iM T = k := ⟨(iM T).toNat, by omega⟩
          have hks : k < T.size := by omega
          have HU : Hid (upS T = T.extract 0 k) := by show _ = _; rw [upS, if_neg hm, hk]; rfl
          have HR : Hid (reS T = T.extract (k + 1) T.size) := by show _ = _; rw [reS, if_neg hm, hk]; rfl
          have HO1 : Hid (okS s = (allS plnR (T.extract (k + 1) T.size) && (spn digR (T.extract 0 k).data.toList != 0 && allS upsR (T.extract 0 k)))) := by show _ = _; rw [HO.out, decide_eq_false hm, HU.out, HR.out]; simp
          have c10 := H1.out.c0
          have c11 := H1.out.c1
          have c12 := H1.out.c2
          have f10 := H1.out.f 0
          have f11 := H1.out.f 1
          have f12 := H1.out.f 2
          rw [hk]
          have HKs : Hid (k < T.size ∧ T.size ≤ 281474976710656) := ⟨hks, HTs.out⟩
          clear hi hm hk HO HL
          have hsz : T.size ≤ 281474976710656 := HKs.out.2
          have hw9 : IntKind.i64.wrap ((k : Int) + 1) = (k : Int) + 1 := by rw [IntKind.wrap_i64]; omega
          have hb1 : 0 ≤ (k : Int) + 1 ∧ (k : Int) + 1 ≤ (T.size : Int) := ⟨by omega, by omega⟩
          have hb2 : k ≤ T.size := by omega
          have hb3 : (0 : Int) ≤ k ∧ (k : Int) ≤ (T.size : Int) := ⟨by omega, by omega⟩
          go_upto_region 9 with fail
          go_region_law (fail)
          all_goals
            have H14 : Hid (Bp ((w2.setCell ⟨w.heap.size + 1, 1, none⟩ (.string (T.extract 0 k))).setCell ⟨w.heap.size + 1, 2, none⟩ (.string (T.extract (k + 1) T.size))).drew (w.heap.size + 1) E (T.extract 0 k) (T.extract (k + 1) T.size)) := (H1.out.s1 _).s2 _
            have H04 : Hid (Bp ((w2.setCell ⟨w.heap.size + 1, 1, none⟩ (.string (T.extract 0 k))).setCell ⟨w.heap.size + 1, 2, none⟩ (.string (T.extract (k + 1) T.size))).drew w.heap.size ⟨#[]⟩ ⟨#[]⟩ ⟨#[]⟩) := bp_off H0.out _ _
            have HB4 : Hid (Below w.heap.size w ((w2.setCell ⟨w.heap.size + 1, 1, none⟩ (.string (T.extract 0 k))).setCell ⟨w.heap.size + 1, 2, none⟩ (.string (T.extract (k + 1) T.size))).drew) := (below_set20 (below_set20 HB.out (by omega) _ _) (by omega) _ _).trans ⟨rfl, rfl, rfl, Nat.le_refl _, fun _ _ => rfl⟩
            generalize ((w2.setCell ⟨w.heap.size + 1, 1, none⟩ (.string (T.extract 0 k))).setCell ⟨w.heap.size + 1, 2, none⟩ (.string (T.extract (k + 1) T.size))).drew = w5 at *
            clear c10 c11 c12 f10 f11 f12 hb1 hb2 hb3 hw9 hks H1 H0 HB hsz
            generalize T.extract 0 k = U at *
            generalize T.extract (k + 1) T.size = R at *
            have HAp : Hid (∀ W, Calls Tryd.prog 58 #[.string R, .func (.func 61) #[] #[]] W fun e w' => e = .returned (.bool (allS plnR R)) ∧ Below W.heap.size W w') := fun W => all_plain R W
            generalize allS plnR R = ap at *
            have m10 := H14.out.c0
            have m11 := H14.out.c1
            have m12 := H14.out.c2
            go_wp2_with fail
            refine (HAp.out _).mono ?_
            rintro e w6 ⟨rfl, bel6⟩
            have HB2 : Hid (Below w.heap.size w w6) := HB4.out.trans (bel6.mono HB4.out.size)
            have H12 : Hid (Bp w6 (w.heap.size + 1) E U R) := H14.out.below bel6 H14.out.lt
            have H02 : Hid (Bp w6 w.heap.size ⟨#[]⟩ ⟨#[]⟩ ⟨#[]⟩) := H04.out.below bel6 H04.out.lt
            clear m10 m11 m12 bel6 HAp H14 H04 HB4
            cases ap
            · have HOk : Hid (okS s = false) := by show _ = _; rw [HO1.out]; rfl
              clear HO1
              have z0 := H02.out.c0
              have zf0 := H02.out.f 0
              have z1 := H02.out.c1
              have zf1 := H02.out.f 1
              have z2 := H02.out.c2
              have zf2 := H02.out.f 2
              have HX : Hid (Bp (((w6.setCell ⟨w.heap.size, 0, none⟩ (.string ⟨#[]⟩)).setCell ⟨w.heap.size, 1, none⟩ (.string ⟨#[]⟩)).setCell ⟨w.heap.size, 2, none⟩ (.string ⟨#[]⟩)) w.heap.size ⟨#[]⟩ ⟨#[]⟩ ⟨#[]⟩ ∧ Below w.heap.size w (((w6.setCell ⟨w.heap.size, 0, none⟩ (.string ⟨#[]⟩)).setCell ⟨w.heap.size, 1, none⟩ (.string ⟨#[]⟩)).setCell ⟨w.heap.size, 2, none⟩ (.string ⟨#[]⟩))) := bp_set3 H02.out HB2.out (Nat.le_refl _) ⟨#[]⟩ ⟨#[]⟩ ⟨#[]⟩
              go_wp2
              all_goals
                generalize ((w6.setCell ⟨w.heap.size, 0, none⟩ (.string ⟨#[]⟩)).setCell ⟨w.heap.size, 1, none⟩ (.string ⟨#[]⟩)).setCell ⟨w.heap.size, 2, none⟩ (.string ⟨#[]⟩) = Wx at *
                refine bodyPost_ret (ret_bp rfl rfl HX.out.1) rfl ?_
                exact ⟨by rw [rdV, HOk.out]; rfl, HX.out.2⟩
            · have HO2 : Hid (okS s = (spn digR U.data.toList != 0 && allS upsR U)) := by show _ = _; rw [HO1.out]; simp
              clear HO1
              have HSp : Hid (∀ W, Calls Tryd.prog 62 #[.string U, .func (.func 59) #[] #[]] W fun e w' => e = .returned (.int .i64 (spn digR U.data.toList)) ∧ Below W.heap.size W w') := fun W => span_digit U W
              have HAl : Hid (∀ W, Calls Tryd.prog 58 #[.string U, .func (.func 63) #[] #[]] W fun e w' => e = .returned (.bool (allS upsR U)) ∧ Below W.heap.size W w') := fun W => all_ups U W
              have c10 := H12.out.c0
              have c11 := H12.out.c1
              have c12 := H12.out.c2
              have HVal : Hid (epS s = E ∧ upS (taS s) = U ∧ reS (taS s) = R) := ⟨HE.out, by rw [HT.out]; exact HU.out, by rw [HT.out]; exact HR.out⟩
              generalize spn digR U.data.toList = n at *
              generalize allS upsR U = au at *
              go_wp2_with fail
              refine (HSp.out _).mono ?_
              rintro e w3 ⟨rfl, bel3⟩
              have HB3 : Hid (Below w.heap.size w w3) := HB2.out.trans (bel3.mono HB2.out.size)
              have H13 : Hid (Bp w3 (w.heap.size + 1) E U R) := H12.out.below bel3 H12.out.lt
              have H03 : Hid (Bp w3 w.heap.size ⟨#[]⟩ ⟨#[]⟩ ⟨#[]⟩) := H02.out.below bel3 H02.out.lt
              have k10 := H13.out.c0
              have k11 := H13.out.c1
              have k12 := H13.out.c2
              clear c10 c11 c12 bel3 HSp H12 H02
              by_cases hn : n = 0
              · have HOk : Hid (okS s = false) := by show _ = _; rw [HO2.out, hn]; rfl
                have hn2 : ((n : Int) == 0) = true := by rw [hn]; rfl
                clear hn
                have z0 := H03.out.c0
                have zf0 := H03.out.f 0
                have z1 := H03.out.c1
                have zf1 := H03.out.f 1
                have z2 := H03.out.c2
                have zf2 := H03.out.f 2
                have HX : Hid (Bp (((w3.setCell ⟨w.heap.size, 0, none⟩ (.string ⟨#[]⟩)).setCell ⟨w.heap.size, 1, none⟩ (.string ⟨#[]⟩)).setCell ⟨w.heap.size, 2, none⟩ (.string ⟨#[]⟩)) w.heap.size ⟨#[]⟩ ⟨#[]⟩ ⟨#[]⟩ ∧ Below w.heap.size w (((w3.setCell ⟨w.heap.size, 0, none⟩ (.string ⟨#[]⟩)).setCell ⟨w.heap.size, 1, none⟩ (.string ⟨#[]⟩)).setCell ⟨w.heap.size, 2, none⟩ (.string ⟨#[]⟩))) := bp_set3 H03.out HB3.out (Nat.le_refl _) ⟨#[]⟩ ⟨#[]⟩ ⟨#[]⟩
                go_wp2
                all_goals
                  generalize ((w3.setCell ⟨w.heap.size, 0, none⟩ (.string ⟨#[]⟩)).setCell ⟨w.heap.size, 1, none⟩ (.string ⟨#[]⟩)).setCell ⟨w.heap.size, 2, none⟩ (.string ⟨#[]⟩) = Wx at *
                  refine bodyPost_ret (ret_bp rfl rfl HX.out.1) rfl ?_
                  exact ⟨by rw [rdV, HOk.out]; rfl, HX.out.2⟩
              · have hn2 : ((n : Int) == 0) = false := by simp; omega
                have HO3 : Hid (okS s = au) := by show _ = _; rw [HO2.out, show (n != 0) = true by simpa using hn]; simp
                clear hn HO2
                go_wp2_with fail
                refine (HAl.out _).mono ?_
                rintro e w4 ⟨rfl, bel4⟩
                have HB4 : Hid (Below w.heap.size w w4) := HB3.out.trans (bel4.mono HB3.out.size)
                have H14 : Hid (Bp w4 (w.heap.size + 1) E U R) := H13.out.below bel4 H13.out.lt
                have H04 : Hid (Bp w4 w.heap.size ⟨#[]⟩ ⟨#[]⟩ ⟨#[]⟩) := H03.out.below bel4 H03.out.lt
                have m10 := H14.out.c0
                have m11 := H14.out.c1
                have m12 := H14.out.c2
                clear k10 k11 k12 bel4 HAl H13 H03 HB3
                cases au
                · have HOk : Hid (okS s = false) := HO3.out
                  have z0 := H04.out.c0
                  have zf0 := H04.out.f 0
                  have z1 := H04.out.c1
                  have zf1 := H04.out.f 1
                  have z2 := H04.out.c2
                  have zf2 := H04.out.f 2
                  have HX : Hid (Bp (((w4.setCell ⟨w.heap.size, 0, none⟩ (.string ⟨#[]⟩)).setCell ⟨w.heap.size, 1, none⟩ (.string ⟨#[]⟩)).setCell ⟨w.heap.size, 2, none⟩ (.string ⟨#[]⟩)) w.heap.size ⟨#[]⟩ ⟨#[]⟩ ⟨#[]⟩ ∧ Below w.heap.size w (((w4.setCell ⟨w.heap.size, 0, none⟩ (.string ⟨#[]⟩)).setCell ⟨w.heap.size, 1, none⟩ (.string ⟨#[]⟩)).setCell ⟨w.heap.size, 2, none⟩ (.string ⟨#[]⟩))) := bp_set3 H04.out HB4.out (Nat.le_refl _) ⟨#[]⟩ ⟨#[]⟩ ⟨#[]⟩
                  go_wp2
                  all_goals
                    generalize ((w4.setCell ⟨w.heap.size, 0, none⟩ (.string ⟨#[]⟩)).setCell ⟨w.heap.size, 1, none⟩ (.string ⟨#[]⟩)).setCell ⟨w.heap.size, 2, none⟩ (.string ⟨#[]⟩) = Wx at *
                    refine bodyPost_ret (ret_bp rfl rfl HX.out.1) rfl ?_
                    exact ⟨by rw [rdV, HOk.out]; rfl, HX.out.2⟩
                · have HOk : Hid (okS s = true) := HO3.out
                  have z0 := H04.out.c0
                  have zf0 := H04.out.f 0
                  have z1 := H04.out.c1
                  have zf1 := H04.out.f 1
                  have z2 := H04.out.c2
                  have zf2 := H04.out.f 2
                  have HX : Hid (Bp (((w4.setCell ⟨w.heap.size, 0, none⟩ (.string E)).setCell ⟨w.heap.size, 1, none⟩ (.string U)).setCell ⟨w.heap.size, 2, none⟩ (.string R)) w.heap.size E U R ∧ Below w.heap.size w (((w4.setCell ⟨w.heap.size, 0, none⟩ (.string E)).setCell ⟨w.heap.size, 1, none⟩ (.string U)).setCell ⟨w.heap.size, 2, none⟩ (.string R))) := bp_set3 H04.out HB4.out (Nat.le_refl _) E U R
                  go_wp2
                  all_goals
                    generalize ((w4.setCell ⟨w.heap.size, 0, none⟩ (.string E)).setCell ⟨w.heap.size, 1, none⟩ (.string U)).setCell ⟨w.heap.size, 2, none⟩ (.string R) = Wx at *
                    refine bodyPost_ret (ret_bp rfl rfl HX.out.1) rfl ?_
                    exact ⟨by rw [rdV, HOk.out, HVal.out.1, HVal.out.2.1, HVal.out.2.2]; rfl, HX.out.2⟩

end Go.Proofs.YtmfcaoacklbkoaaDoor
