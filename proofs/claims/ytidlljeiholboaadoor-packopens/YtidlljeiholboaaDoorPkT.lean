/-
  The document's literal, step and Decode, walked.
  KEEP: box own below mono lt set kept new trans refl app on grown cell out block size os tape output c f c0 c1 f0 f1 len nil form rd rdz low set0 set1 set2 not_row at cut drop row ap bel rk
-/
import Derived.Test.YtidlljeiholboaaDoorPkQ
set_option linter.unusedSimpArgs false
set_option linter.unusedVariables false
namespace Go.Proofs.YtidlljeiholboaaDoor
open Go Go.RowKit

set_option maxRecDepth 100000 in
theorem rLiteral_any (n : Nat) (w : World) (hn : n < 18446744073709551616) :
    Calls Tryd.prog 76 #[.int .u64 n] w fun e w' => e = .returned (.int .i64 (litO n)) ∧ w' = w := by
  by_cases h : n < 2 ∨ 2097153 < n
  · have hx : litO n = 0 := by
      unfold litO; split
      · rfl
      · exact litAt_none (by omega)
    have HX : Hid (litO n = 0) := hx
    clear hx
    rcases h with h | h
    all_goals
      go_enter Tryd.func76, Tryd.ntmps76
      go_wp2
      all_goals (go_ret; exact ⟨ret_int HX.out.symm, rfl⟩)
  · have h1 : 2 ≤ n := by omega
    have h2 : n ≤ 2097153 := by omega
    have hl : litO n = litAt ((n : Int) - 2) := by unfold litO; rw [if_neg (by omega)]
    rcases Int.emod_two_eq (n : Int) with h3 | h3
    · have HX : Hid (litO n = (n : Int) / 2) := by show _ = _; rw [hl, litAt_even (by omega) (by omega) (by omega)]; omega
      have hb : ((n : Int) % 2 == 1) = false := by rw [h3]; rfl
      clear hl h3 h
      go_enter Tryd.func76, Tryd.ntmps76
      go_wp2
      all_goals (go_ret; exact ⟨ret_int HX.out.symm, rfl⟩)
    · have HX : Hid (litO n = -((n : Int) / 2)) := by show _ = _; rw [hl, litAt_odd (by omega) (by omega) (by omega)]; omega
      have hb : ((n : Int) % 2 == 1) = true := by rw [h3]; rfl
      clear hl h3 h
      go_enter Tryd.func76, Tryd.ntmps76
      go_wp2
      all_goals (go_ret; exact ⟨ret_int HX.out.symm, rfl⟩)

theorem ret_st3 {fn : Func} {p u t : Tmp} {tmps : Array Value} {W : World} {E : Nat} {x y : Value} (h : fn.results = #[.cell p 29, .tmp u, .tmp t]) (hp : tmps.getD p undef = .pointer (some ⟨E, 0, none⟩)) (hb : Bx2 W E 29 x y) : (results fn tmps).run Tryd.prog W = .ok (.tuple #[.agg #[x, y], tmps.getD u undef, tmps.getD t undef]) W := by
  have c0 := hb.c0
  have c1 := hb.c1
  have hp' : tmps[p]?.getD undef = .pointer (some ⟨E, 0, none⟩) := by rw [← hp]; simp
  unfold results
  rw [h]
  simp [go_sem, hp', c0, c1]
/-- the step that is being read: the answer's box, its own box, its literals -/
structure Sk (W : World) (wr : World) (E0 E1 : Nat) (d : Bool) (cv : Value) (acc : List Int) : Prop where
  b0 : Bx2 wr E0 29 (.bool false) (.slice none 0 0)
  b1 : Bx2 wr E1 29 (.bool d) cv
  own : Own W.heap.size wr cv acc
  bel : Below W.heap.size W wr
  ne : E0 ≠ E1
  g0 : W.heap.size ≤ E0
  g1 : W.heap.size ≤ E1
theorem Sk.fin {W wr : World} {E0 E1 : Nat} {d : Bool} {cv v : Value} {acc l : List Int} (h : Sk W wr E0 E1 d cv acc) (hv : Own W.heap.size wr v l) (x : Bool) : Bx2 ((wr.setCell ⟨E0, 0, none⟩ (.bool x)).setCell ⟨E0, 1, none⟩ v) E0 29 (.bool x) v ∧ Own W.heap.size ((wr.setCell ⟨E0, 0, none⟩ (.bool x)).setCell ⟨E0, 1, none⟩ v) v l ∧ Below W.heap.size W ((wr.setCell ⟨E0, 0, none⟩ (.bool x)).setCell ⟨E0, 1, none⟩ v) := by
  have b1 := h.b0.set0 (.bool x)
  have o1 : Own W.heap.size (wr.setCell ⟨E0, 0, none⟩ (.bool x)) v l := World.ownsRow.kept hv (grown_set wr ⟨E0, 0, none⟩ _) (.inr (h.b0.not_row (by decide) hv).symm)
  have o2 : Own W.heap.size ((wr.setCell ⟨E0, 0, none⟩ (.bool x)).setCell ⟨E0, 1, none⟩ v) v l := World.ownsRow.kept o1 (grown_set _ ⟨E0, 1, none⟩ _) (.inr (b1.not_row (by decide) o1).symm)
  exact ⟨b1.set1 v, o2, (h.bel.setCell (p := ⟨E0, 0, none⟩) h.g0 _).setCell (p := ⟨E0, 1, none⟩) h.g0 _⟩
theorem Sk.app {W wr w7 : World} {E0 E1 : Nat} {d : Bool} {cv v7 : Value} {acc : List Int} {z : Int} {o : Obj} (h : Sk W wr E0 E1 d cv acc) (own7 : w7.ownsRow W.heap.size 3 1 v7 (acc.length + 1) (acc.map (Value.int .i64) ++ [.int .i64 z])) (gr : (wr.alloc o).grownBy w7 cv.ownBlock) :
    Bx2 w7 E1 29 (.bool d) cv ∧ Sk W (w7.setCell ⟨E1, 1, none⟩ v7) E0 E1 d v7 (acc ++ [z]) := by
  have ba := below_box wr o
  have oa := h.own.below ba
  have b07 : Bx2 w7 E0 29 (.bool false) (.slice none 0 0) := (h.b0.below ba).kept gr ((h.b0.below ba).not_row (by decide) oa)
  have b17 : Bx2 w7 E1 29 (.bool d) cv := (h.b1.below ba).kept gr ((h.b1.below ba).not_row (by decide) oa)
  have o7 : Own W.heap.size w7 v7 (acc ++ [z]) := own_one_more own7
  have bel7 : Below W.heap.size W w7 := (h.bel.alloc h.bel.size o).grown gr (Nat.le_trans h.bel.size (by simp)) (fun k hk => (World.ownsRow.lt oa k hk).1)
  refine ⟨b17, ⟨(Below.heap_setCell _ ⟨E1, 1, none⟩ _ E0 h.ne).trans b07, b17.set1 v7, World.ownsRow.kept o7 (grown_set w7 ⟨E1, 1, none⟩ _) (.inr (b17.not_row (by decide) o7).symm), bel7.setCell (p := ⟨E1, 1, none⟩) h.g1 _, h.ne, h.g0, h.g1⟩⟩
/-- what the document's step leaves -/
def RstP (W : World) (r : Stp × Int × Nat) (e : Ending) (W' : World) : Prop :=
  ∃ d v, e = .returned (.tuple #[.agg #[.bool d, v], .int .i64 r.2.2, .int .i64 r.2.1]) ∧ (r.2.1 = 0 → d = r.1.1) ∧ Own W.heap.size W' v r.1.2 ∧ Below W.heap.size W W'

set_option maxHeartbeats 3200000 in
set_option maxRecDepth 100000 in
theorem rStep_any (W : World) (p : Nat) (all : List UInt8) (bv : Value) (hr : RdY W bv all) (hp : p < all.length) (hbig : all.length ≤ 1099511627776) :
    Calls Tryd.prog 65 #[bv, .int .i64 p] W (RstP W (stB all p)) := by
  obtain ⟨i0, hi, hz0, hz1, hz2⟩ := info_parts Tryd.info3
  have HR : Hid (RdY W bv all) := hr
  obtain ⟨a, c, rfl, hc, hm, hcell⟩ := hr.form
  obtain ⟨b, off, rfl, hbl, hcp⟩ := hcell p hp
  clear hr hcell
  obtain ⟨y, hy0⟩ : ∃ y, all.getD p 0 = y := ⟨_, rfl⟩
  rw [hy0] at hcp
  have hyl : y.toNat < 256 := y.toNat_lt
  have hcy : (W.alloc (.cells #[.bool false, .slice none 0 0] 29)).cell? ⟨b, off + p, none⟩ = some (.int .u8 y.toNat) := ((below_box W _).cell (p := ⟨b, off + p, none⟩) hbl).trans hcp
  clear hcp
  by_cases hk : y = 97 ∨ y = 100
  case neg =>
    have h97 : ¬ y = 97 := fun e => hk (.inl e)
    have h100 : ¬ y = 100 := fun e => hk (.inr e)
    have HX : Hid (stB all p = ((false, []), 100, p)) := by show _ = _; unfold stB; rw [hy0, if_neg h100, if_neg h97]
    have hb100 : ((y.toNat : Int) == 100) = false := beq_eq_false_iff_ne.2 (fun e => h100 (UInt8.toNat_inj.1 ((by omega : y.toNat = 100).trans rfl)))
    have hb97 : ((y.toNat : Int) == 97) = false := beq_eq_false_iff_ne.2 (fun e => h97 (UInt8.toNat_inj.1 ((by omega : y.toNat = 97).trans rfl)))
    have B0 : Hid (Bx2 (W.alloc (.cells #[.bool false, .slice none 0 0] 29)) W.heap.size 29 (.bool false) (.slice none 0 0)) := Bx2.new _ _ _ _
    have hn97 : ¬ (y.toNat : Int) = 97 := by simpa using hb97
    have hq97 : ((y.toNat : Int) != 97) = true := by rw [bne, hb97]; rfl
    have hq100 : ((y.toNat : Int) != 100) = true := by rw [bne, hb100]; rfl
    clear hk hb97 hb100
    go_enter Tryd.func65, Tryd.ntmps65
    go_wp2
    refine bodyPost_ret (ret_st3 rfl rfl B0.out) rfl ?_
    rw [HX.out]
    exact ⟨false, _, rfl, (fun h => by cases h), World.ownsRow_nil _ _ _ _, below_box _ _⟩
  case pos =>
    rcases hk with rfl | rfl
    · have HX0 : Hid (stB all p = ((false, (clB all (all.length + 1) (p + 1) []).1), (clB all (all.length + 1) (p + 1) []).2)) := st_of all p false (by rw [hy0]; rfl)
      have SK0 : Hid (Sk W ((W.alloc (.cells #[.bool false, .slice none 0 0] 29)).alloc (.cells #[.bool false, .slice none 0 0] 29)) W.heap.size (W.heap.size + 1) false (.slice none 0 0) []) := by
        refine ⟨(Bx2.new W _ _ _).below (below_box _ _), ?_, World.ownsRow_nil _ _ _ _, Below.step (below_box _ _) (below_box _ _), by omega, by omega, by omega⟩
        have := Bx2.new (W.alloc (.cells #[.bool false, .slice none 0 0] 29)) 29 (.bool false) (.slice none 0 0)
        rw [World.size_alloc] at this
        exact this
      obtain ⟨X, hX⟩ : ∃ X, X = clB all (all.length + 1) (p + 1) [] := ⟨_, rfl⟩
      rw [← hX] at HX0
      have HX : Hid (clB all (all.length + 1) (p + 1) [] = X) := hX.symm
      have HS : Hid (stB all p = ((false, X.1), X.2)) := HX0.out
      clear hX HX0
      go_enter Tryd.func65, Tryd.ntmps65
      go_wp2
      clear hcy
      generalize (W.alloc (.cells #[.bool false, .slice none 0 0] 29)).alloc (.cells #[.bool false, .slice none 0 0] 29) = W1 at *
      go_loopg [1] (all.length + 1) (fun g x wr => ∃ (q : Nat) (cq : Value) (acc : List Int), x = .int .i64 q ∧ all.length < q + g ∧ q ≤ all.length ∧ acc.length ≤ q ∧ clB all g q acc = X ∧ Hid (Sk W wr W.heap.size (W.heap.size + 1) false cq acc))
      case atStart => exact ⟨p + 1, _, [], by go_num, by omega, by omega, by simp, HX.out, SK0.out⟩
      case round =>
        clear HX SK0
        obtain ⟨q, cq, acc, rfl, hg, hq, hacc, hX, SK⟩ := hrel
        obtain ⟨g, rfl⟩ : ∃ g, gk = g + 1 := ⟨gk - 1, by omega⟩
        have HX : Hid (clB all (g + 1) q acc = X) := hX
        have e0 := SK.out.b0.c0
        have e1 := SK.out.b0.c1
        have j0 := SK.out.b0.f0
        have j1 := SK.out.b0.f1
        have k0 := SK.out.b1.c0
        have k1 := SK.out.b1.c1
        have l1 := SK.out.b1.f1
        have hsr := SK.out.bel.size
        obtain ⟨qa, qc, hcq⟩ := own_form SK.out.own
        generalize acc.length = ql at hcq
        subst hcq
        obtain ⟨A, hA⟩ : ∃ A, (if c = q then some (⟨b, off, none⟩ : Addr) else some ⟨b, off + q, none⟩) = A := ⟨_, rfl⟩
        have HT : Hid (Calls Tryd.prog 75 #[.slice A (all.length - q) (c - q)] wr fun e w' => e = .returned (.tuple #[.int .u64 (tkB 0 0 (all.drop q)).1, .int .i64 (tkB 0 0 (all.drop q)).2.1, .int .i64 (tkB 0 0 (all.drop q)).2.2]) ∧ w' = wr) := rTake_any _ _ _ ((HR.out.drop q hq hA).below SK.out.bel)
        clear hX
        rcases tk_all (all.drop q) with ht | ht | ⟨n, hn, ht, hd⟩
        · rw [ht] at HT
          have hXe : X = ([], 33, all.length) := by rw [← HX.out, clB_step, ht]; rfl
          clear HX
          subst hXe
          go_wp2_with (go_at_call 75; refine HT.out.mono ?_; rintro e w3 ⟨rfl, rfl⟩)
          have F := SK.out.fin (v := .slice none 0 0) (l := []) (World.ownsRow_nil _ _ _ _) false
          refine bodyPost_ret (ret_st3 rfl rfl F.1) rfl ?_
          rw [HS.out]
          exact ⟨false, _, rfl, (fun h => by cases h), F.2.1, F.2.2⟩
        · rw [ht] at HT
          have hXe : X = ([], 101, q) := by rw [← HX.out, clB_step, ht]; rfl
          clear HX
          subst hXe
          go_wp2_with (go_at_call 75; refine HT.out.mono ?_; rintro e w3 ⟨rfl, rfl⟩)
          have F := SK.out.fin (v := .slice none 0 0) (l := []) (World.ownsRow_nil _ _ _ _) false
          refine bodyPost_ret (ret_st3 rfl rfl F.1) rfl ?_
          rw [HS.out]
          exact ⟨false, _, rfl, (fun h => by cases h), F.2.1, F.2.2⟩
        · rw [ht] at HT
          have hXe : X = if n = 0 then (acc, 0, q + (numB n).length) else if litO n = 0 then ([], 32, q) else clB all g (q + (numB n).length) (acc ++ [litO n]) := by rw [← HX.out, clB_step, ht]; simp
          have hLp := numB_pos n
          have hLq : q + (numB n).length ≤ all.length := by
            have h1 := congrArg List.length hd
            simp only [List.length_drop, List.length_append] at h1
            omega
          have h10 := numB_10 hn
          have HLit : Hid (∀ W, Calls Tryd.prog 76 #[.int .u64 n] W fun e w' => e = .returned (.int .i64 (litO n)) ∧ w' = W) := fun W => rLiteral_any n W hn
          clear HX ht hd
          generalize (numB n).length = L at *
          have HLf : Hid (0 < L ∧ q + L ≤ all.length ∧ L ≤ 10) := ⟨hLp, hLq, h10⟩
          clear hLp hLq h10 hn
          by_cases hn0 : n = 0
          · rw [if_pos hn0] at hXe
            subst hn0
            subst hXe
            go_wp2_with fail
            refine HT.out.mono ?_
            rintro e w3 ⟨rfl, hw3⟩
            obtain rfl := hw3.symm
            obtain ⟨hLp, hLq, h10⟩ := HLf.out
            clear hA
            go_wp2
            have F := SK.out.fin (v := .slice qa ql qc) (l := acc) SK.out.own false
            refine bodyPost_ret (ret_st3 rfl rfl F.1) rfl ?_
            rw [HS.out]
            exact ⟨false, _, by simp, fun h => rfl, F.2.1, F.2.2⟩
          · rw [if_neg hn0] at hXe
            have hnb : ((n : Int) == 0) = false := beq_eq_false_iff_ne.2 (by omega)
            by_cases hl0 : litO n = 0
            · rw [if_pos hl0] at hXe
              subst hXe
              have HLit0 : Hid (∀ W, Calls Tryd.prog 76 #[.int .u64 n] W fun e w' => e = .returned (.int .i64 0) ∧ w' = W) := fun W => by have := HLit.out W; rwa [hl0] at this
              clear HLit hl0
              go_wp2_with fail
              refine HT.out.mono ?_
              rintro e w3 ⟨rfl, hw3⟩
              obtain rfl := hw3.symm
              obtain ⟨hLp, hLq, h10⟩ := HLf.out
              clear hA
              go_wp2_with (first
                | (go_at_call 76; refine (HLit0.out _).mono ?_; rintro e w4 ⟨rfl, rfl⟩))
              have F := SK.out.fin (v := .slice none 0 0) (l := []) (World.ownsRow_nil _ _ _ _) false
              refine bodyPost_ret (ret_st3 rfl rfl F.1) rfl ?_
              rw [HS.out]
              exact ⟨false, _, rfl, (fun h => by cases h), F.2.1, F.2.2⟩
            · rw [if_neg hl0] at hXe
              have HX2 : Hid (X = clB all g (q + L) (acc ++ [litO n])) := hXe
              have hzb : (litO n == 0) = false := beq_eq_false_iff_ne.2 hl0
              clear hXe hl0
              generalize litO n = z at *
              go_wp2_with fail
              refine HT.out.mono ?_
              rintro e w3 ⟨rfl, hw3⟩
              obtain rfl := hw3.symm
              obtain ⟨hLp, hLq, h10⟩ := HLf.out
              clear hA
              go_wp2_with (first
                | (go_at_call 76; refine (HLit.out _).mono ?_; rintro e w4 ⟨rfl, rfl⟩)
                | (at_builtin; refine wpList_append_own _ rfl _ _ 27 rfl W.heap.size 3 i0 (.int .i64 0) 1 8 Tryd.underlying27 hi hz0 hz1 hz2 rfl (by decide) _ acc.length (acc.map (Value.int .i64)) rfl (World.ownsRow.alloc SK.out.own _) _ 1 1 [.int .i64 z] rfl rfl (cell_one_new _ _ _) (by simp [Value.oneCell']) (by unfold maxLen; omega) (by omega) (by simp; omega) ?_; intro v7 w7 own7 gr7 hn7; refine Hid.out ?_))
              refine Lib.hid ?_
              obtain ⟨b7, SK7⟩ := SK.out.app own7 gr7
              obtain ⟨a7, x7, rfl⟩ : ∃ a x, v7 = .slice a (acc.length + 1) x := by
                have := own_form (own_one_more own7)
                simpa using this
              have m1 := b7.c1
              have n1 := b7.f1
              clear e0 e1 j0 j1 k0 k1 l1
              go_wp2
              go_roundg g
              case measure => omega
              case rel => exact ⟨q + L, _, acc ++ [z], by go_num, by omega, by omega, by simp; omega, HX2.out.symm, SK7⟩
    · have HX0 : Hid (stB all p = ((true, (clB all (all.length + 1) (p + 1) []).1), (clB all (all.length + 1) (p + 1) []).2)) := st_of all p true (by rw [hy0]; rfl)
      have SK0 : Hid (Sk W ((W.alloc (.cells #[.bool false, .slice none 0 0] 29)).alloc (.cells #[.bool true, .slice none 0 0] 29)) W.heap.size (W.heap.size + 1) true (.slice none 0 0) []) := by
        refine ⟨(Bx2.new W _ _ _).below (below_box _ _), ?_, World.ownsRow_nil _ _ _ _, Below.step (below_box _ _) (below_box _ _), by omega, by omega, by omega⟩
        have := Bx2.new (W.alloc (.cells #[.bool false, .slice none 0 0] 29)) 29 (.bool true) (.slice none 0 0)
        rw [World.size_alloc] at this
        exact this
      obtain ⟨X, hX⟩ : ∃ X, X = clB all (all.length + 1) (p + 1) [] := ⟨_, rfl⟩
      rw [← hX] at HX0
      have HX : Hid (clB all (all.length + 1) (p + 1) [] = X) := hX.symm
      have HS : Hid (stB all p = ((true, X.1), X.2)) := HX0.out
      clear hX HX0
      go_enter Tryd.func65, Tryd.ntmps65
      go_wp2
      clear hcy
      generalize (W.alloc (.cells #[.bool false, .slice none 0 0] 29)).alloc (.cells #[.bool true, .slice none 0 0] 29) = W1 at *
      go_loopg [1] (all.length + 1) (fun g x wr => ∃ (q : Nat) (cq : Value) (acc : List Int), x = .int .i64 q ∧ all.length < q + g ∧ q ≤ all.length ∧ acc.length ≤ q ∧ clB all g q acc = X ∧ Hid (Sk W wr W.heap.size (W.heap.size + 1) true cq acc))
      case atStart => exact ⟨p + 1, _, [], by go_num, by omega, by omega, by simp, HX.out, SK0.out⟩
      case round =>
        clear HX SK0
        obtain ⟨q, cq, acc, rfl, hg, hq, hacc, hX, SK⟩ := hrel
        obtain ⟨g, rfl⟩ : ∃ g, gk = g + 1 := ⟨gk - 1, by omega⟩
        have HX : Hid (clB all (g + 1) q acc = X) := hX
        have e0 := SK.out.b0.c0
        have e1 := SK.out.b0.c1
        have j0 := SK.out.b0.f0
        have j1 := SK.out.b0.f1
        have k0 := SK.out.b1.c0
        have k1 := SK.out.b1.c1
        have l1 := SK.out.b1.f1
        have hsr := SK.out.bel.size
        obtain ⟨qa, qc, hcq⟩ := own_form SK.out.own
        generalize acc.length = ql at hcq
        subst hcq
        obtain ⟨A, hA⟩ : ∃ A, (if c = q then some (⟨b, off, none⟩ : Addr) else some ⟨b, off + q, none⟩) = A := ⟨_, rfl⟩
        have HT : Hid (Calls Tryd.prog 75 #[.slice A (all.length - q) (c - q)] wr fun e w' => e = .returned (.tuple #[.int .u64 (tkB 0 0 (all.drop q)).1, .int .i64 (tkB 0 0 (all.drop q)).2.1, .int .i64 (tkB 0 0 (all.drop q)).2.2]) ∧ w' = wr) := rTake_any _ _ _ ((HR.out.drop q hq hA).below SK.out.bel)
        clear hX
        rcases tk_all (all.drop q) with ht | ht | ⟨n, hn, ht, hd⟩
        · rw [ht] at HT
          have hXe : X = ([], 33, all.length) := by rw [← HX.out, clB_step, ht]; rfl
          clear HX
          subst hXe
          go_wp2_with (go_at_call 75; refine HT.out.mono ?_; rintro e w3 ⟨rfl, rfl⟩)
          have F := SK.out.fin (v := .slice none 0 0) (l := []) (World.ownsRow_nil _ _ _ _) false
          refine bodyPost_ret (ret_st3 rfl rfl F.1) rfl ?_
          rw [HS.out]
          exact ⟨false, _, rfl, (fun h => by cases h), F.2.1, F.2.2⟩
        · rw [ht] at HT
          have hXe : X = ([], 101, q) := by rw [← HX.out, clB_step, ht]; rfl
          clear HX
          subst hXe
          go_wp2_with (go_at_call 75; refine HT.out.mono ?_; rintro e w3 ⟨rfl, rfl⟩)
          have F := SK.out.fin (v := .slice none 0 0) (l := []) (World.ownsRow_nil _ _ _ _) false
          refine bodyPost_ret (ret_st3 rfl rfl F.1) rfl ?_
          rw [HS.out]
          exact ⟨false, _, rfl, (fun h => by cases h), F.2.1, F.2.2⟩
        · rw [ht] at HT
          have hXe : X = if n = 0 then (acc, 0, q + (numB n).length) else if litO n = 0 then ([], 32, q) else clB all g (q + (numB n).length) (acc ++ [litO n]) := by rw [← HX.out, clB_step, ht]; simp
          have hLp := numB_pos n
          have hLq : q + (numB n).length ≤ all.length := by
            have h1 := congrArg List.length hd
            simp only [List.length_drop, List.length_append] at h1
            omega
          have h10 := numB_10 hn
          have HLit : Hid (∀ W, Calls Tryd.prog 76 #[.int .u64 n] W fun e w' => e = .returned (.int .i64 (litO n)) ∧ w' = W) := fun W => rLiteral_any n W hn
          clear HX ht hd
          generalize (numB n).length = L at *
          have HLf : Hid (0 < L ∧ q + L ≤ all.length ∧ L ≤ 10) := ⟨hLp, hLq, h10⟩
          clear hLp hLq h10 hn
          by_cases hn0 : n = 0
          · rw [if_pos hn0] at hXe
            subst hn0
            subst hXe
            go_wp2_with fail
            refine HT.out.mono ?_
            rintro e w3 ⟨rfl, hw3⟩
            obtain rfl := hw3.symm
            obtain ⟨hLp, hLq, h10⟩ := HLf.out
            clear hA
            go_wp2
            have F := SK.out.fin (v := .slice qa ql qc) (l := acc) SK.out.own true
            refine bodyPost_ret (ret_st3 rfl rfl F.1) rfl ?_
            rw [HS.out]
            exact ⟨true, _, by simp, fun h => rfl, F.2.1, F.2.2⟩
          · rw [if_neg hn0] at hXe
            have hnb : ((n : Int) == 0) = false := beq_eq_false_iff_ne.2 (by omega)
            by_cases hl0 : litO n = 0
            · rw [if_pos hl0] at hXe
              subst hXe
              have HLit0 : Hid (∀ W, Calls Tryd.prog 76 #[.int .u64 n] W fun e w' => e = .returned (.int .i64 0) ∧ w' = W) := fun W => by have := HLit.out W; rwa [hl0] at this
              clear HLit hl0
              go_wp2_with fail
              refine HT.out.mono ?_
              rintro e w3 ⟨rfl, hw3⟩
              obtain rfl := hw3.symm
              obtain ⟨hLp, hLq, h10⟩ := HLf.out
              clear hA
              go_wp2_with (first
                | (go_at_call 76; refine (HLit0.out _).mono ?_; rintro e w4 ⟨rfl, rfl⟩))
              have F := SK.out.fin (v := .slice none 0 0) (l := []) (World.ownsRow_nil _ _ _ _) false
              refine bodyPost_ret (ret_st3 rfl rfl F.1) rfl ?_
              rw [HS.out]
              exact ⟨false, _, rfl, (fun h => by cases h), F.2.1, F.2.2⟩
            · rw [if_neg hl0] at hXe
              have HX2 : Hid (X = clB all g (q + L) (acc ++ [litO n])) := hXe
              have hzb : (litO n == 0) = false := beq_eq_false_iff_ne.2 hl0
              clear hXe hl0
              generalize litO n = z at *
              go_wp2_with fail
              refine HT.out.mono ?_
              rintro e w3 ⟨rfl, hw3⟩
              obtain rfl := hw3.symm
              obtain ⟨hLp, hLq, h10⟩ := HLf.out
              clear hA
              go_wp2_with (first
                | (go_at_call 76; refine (HLit.out _).mono ?_; rintro e w4 ⟨rfl, rfl⟩)
                | (at_builtin; refine wpList_append_own _ rfl _ _ 27 rfl W.heap.size 3 i0 (.int .i64 0) 1 8 Tryd.underlying27 hi hz0 hz1 hz2 rfl (by decide) _ acc.length (acc.map (Value.int .i64)) rfl (World.ownsRow.alloc SK.out.own _) _ 1 1 [.int .i64 z] rfl rfl (cell_one_new _ _ _) (by simp [Value.oneCell']) (by unfold maxLen; omega) (by omega) (by simp; omega) ?_; intro v7 w7 own7 gr7 hn7; refine Hid.out ?_))
              refine Lib.hid ?_
              obtain ⟨b7, SK7⟩ := SK.out.app own7 gr7
              obtain ⟨a7, x7, rfl⟩ : ∃ a x, v7 = .slice a (acc.length + 1) x := by
                have := own_form (own_one_more own7)
                simpa using this
              have m1 := b7.c1
              have n1 := b7.f1
              clear e0 e1 j0 j1 k0 k1 l1
              go_wp2
              go_roundg g
              case measure => omega
              case rel => exact ⟨q + L, _, acc ++ [z], by go_num, by omega, by omega, by simp; omega, HX2.out.symm, SK7⟩

end Go.Proofs.YtidlljeiholboaaDoor
