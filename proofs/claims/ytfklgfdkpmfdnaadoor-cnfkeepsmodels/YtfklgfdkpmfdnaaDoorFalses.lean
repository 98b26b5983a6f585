/-
  False, the program's and the document's, and SameInts, walked.
-/
import Derived.Test.YtfklgfdkpmfdnaaDoorTell
set_option linter.unusedSimpArgs false
set_option linter.unusedVariables false
namespace Go.Proofs.YtfklgfdkpmfdnaaDoor
open Go.RowKit

/-- the numbers below k of the clauses that the model doesn't make true -/
def flsK (ms : List Bool) (css : List (List Int)) (k : Nat) : List Int := ((List.range k).filter (fun i => !mkT ms (css.getD i []))).map (fun i : Nat => (i : Int))
def flsA (n : Int) (css : List (List Int)) (ms : List Bool) : List Int := if mdl n css ms then flsK ms css css.length else []
theorem flsK_no {ms : List Bool} {css : List (List Int)} {k : Nat} (h : mkT ms (css.getD k []) = true) : flsK ms css (k + 1) = flsK ms css k := by
  unfold flsK; rw [List.range_succ, List.filter_append]; simp only [List.filter_cons, List.filter_nil, h]; simp
theorem flsK_yes {ms : List Bool} {css : List (List Int)} {k : Nat} (h : mkT ms (css.getD k []) = false) : flsK ms css (k + 1) = flsK ms css k ++ [(k : Int)] := by
  unfold flsK; rw [List.range_succ, List.filter_append]; simp only [List.filter_cons, List.filter_nil, h]; simp
theorem flsK_len (ms : List Bool) (css : List (List Int)) (k : Nat) : (flsK ms css k).length ≤ k := by
  unfold flsK; rw [List.length_map]; exact Nat.le_trans (List.length_filter_le _ _) (by simp)
theorem own_more {base : Nat} {w : World} {v : Value} {out : List Int} {x : Int} (h : w.ownsRow base 3 1 v (out.length + 1) (out.map (Value.int .i64) ++ [.int .i64 x])) : Own base w v (out ++ [x]) := by
  unfold Own; simpa using h

set_option maxRecDepth 100000 in
set_option maxHeartbeats 3200000 in
theorem cnfFalse_any (n : Int) (s vm : Value) (css : List (List Int)) (ms : List Bool) (w : World) (hr : Rds w s css) (hm : RdB w vm ms) :
    Calls Tryd.prog 18 #[.agg #[.int .i64 n, s], vm] w fun e w' => ∃ v, e = .returned v ∧ Own w.heap.size w' v (flsA n css ms) ∧ Below w.heap.size w w' := by
  have hl := hr.len
  have HX : Hid (Bx w n s css (w.alloc (.cells #[.int .i64 n, s] 24))) := Bx.new hr _
  have HM : Hid (RdB (w.alloc (.cells #[.int .i64 n, s] 24)) vm ms) := hm.below (below_box _ _)
  obtain ⟨a, c, rfl, hc, hmx, _⟩ := hr.form
  obtain ⟨i0, hi, hz0, hz1, hz2⟩ := info_parts Tryd.info3
  clear hr hm
  cases hd : mdl n css ms
  · have HE : Hid (flsA n css ms = []) := by unfold flsA Hid; rw [hd]; rfl
    go_enter Tryd.func18, Tryd.ntmps18
    go_wp2_with fail
    refine (isModel_any n _ vm css ms _ HX.out.rd HM.out).mono ?_
    rw [hd]
    rintro e w1 ⟨rfl, bel1⟩
    have HX1 := HX.out.on bel1
    have HB : Hid (Below w.heap.size w w1) := HX1.bel
    clear HX HX1 bel1
    go_wp2
    go_ret
    exact ⟨_, rfl, by rw [HE.out]; exact World.ownsRow_nil _ _ _ _, HB.out⟩
  · have HD : Hid (mdl n css ms = true) := hd
    have HE : Hid (flsA n css ms = flsK ms css css.length) := by unfold flsA Hid; rw [hd]; rfl
    go_enter Tryd.func18, Tryd.ntmps18
    go_wp2_with fail
    refine (isModel_any n _ vm css ms _ HX.out.rd HM.out).mono ?_
    rw [hd]
    rintro e w1 ⟨rfl, bel1⟩
    have HX1 : Hid (Bx w n (.slice a css.length c) css w1) := HX.out.on bel1
    have HM1 : Hid (RdB w1 vm ms) := HM.out.below bel1
    have c0 := HX1.out.c0
    have c1 := HX1.out.c1
    clear HX bel1 HM hd
    go_wp2
    go_loopg [5, 15] css.length (fun g v i wr => ∃ k : Nat, k + g = css.length ∧ i = .int .i64 k ∧ Own w1.heap.size wr v (flsK ms css k) ∧ Below w1.heap.size w1 wr)
    case atStart => exact ⟨0, by omega, rfl, World.ownsRow_nil _ _ _ _, Below.refl _ _⟩
    case round =>
      obtain ⟨k, hk, rfl, own, bel⟩ := hrel
      have HK : Hid (k + gk = css.length) := hk
      have hlk := flsK_len ms css k
      have hs := bel.size
      have HXr : Hid (Bx w n (.slice a css.length c) css wr) := HX1.out.on bel
      have HMr : Hid (RdB wr vm ms) := HM1.out.below bel
      by_cases hlt : k < css.length
      · obtain ⟨b, off, u, rfl, hck, hu0⟩ := HXr.out.at hlt
        have HU : Hid (Rd wr u (css.getD k [])) := hu0
        have HG : Hid (fitsP ms.length (css.getD k []) = true) := mdl_fits HD.out hlt
        have HS1 : Hid (mkT ms (css.getD k []) = true → flsK ms css (k + 1) = flsK ms css k) := flsK_no
        have HS2 : Hid (mkT ms (css.getD k []) = false → flsK ms css (k + 1) = flsK ms css k ++ [(k : Int)]) := flsK_yes
        obtain ⟨_, ua, uc, hu, _⟩ := hu0
        clear hk
        generalize css.getD k [] = z at *
        generalize flsK ms css k = out at *
        subst hu
        cases hf : mkT ms z
        · go_wp2_with (first | (go_at_call 40; refine (makesTrue_any _ _ ms z _ HMr.out HU.out HG.out).mono ?_; rw [hf]; rintro e w' ⟨rfl, hw'⟩; obtain rfl := hw'.symm) | (at_builtin; refine wpList_append_own _ rfl _ _ 31 rfl w1.heap.size 3 i0 (.int .i64 0) 1 8 Tryd.underlying31 hi hz0 hz1 hz2 rfl (by decide) _ out.length (out.map (Value.int .i64)) rfl (World.ownsRow.alloc own _) _ 1 1 [.int .i64 (k : Int)] rfl rfl (cell_one_new _ _ _) (by simp [Value.oneCell']) (by unfold maxLen; omega) (by omega) (by simp; omega) ?_; intro v2 w2 own2 gr2 hn2))
          go_roundg (gk - 1)
          case measure => have := HK.out; omega
          case rel => exact ⟨k + 1, by have := HK.out; omega, by go_num, by rw [HS2.out hf]; exact own_more own2, (bel.alloc hs _).grown gr2 (by simp; omega) (fun j hj => (own.lt j hj).1)⟩
        · go_wp2_with (go_at_call 40; refine (makesTrue_any _ _ ms z _ HMr.out HU.out HG.out).mono ?_; rw [hf]; rintro e w' ⟨rfl, hw'⟩; obtain rfl := hw'.symm)
          go_roundg (gk - 1)
          case measure => have := HK.out; omega
          case rel => exact ⟨k + 1, by have := HK.out; omega, by go_num, by rw [HS1.out hf]; exact own, bel⟩
      · obtain rfl : k = css.length := by omega
        clear hk
        have HB : Hid (Below w.heap.size w wr) := HXr.out.bel
        have own' := own.mono HX1.out.bel.size
        rw [← HE.out] at own'
        clear own hlk
        go_wp2
        go_ret
        exact ⟨_, rfl, own', HB.out⟩

set_option maxRecDepth 100000 in
set_option maxHeartbeats 3200000 in
theorem rFalse_any (n : Int) (s vm : Value) (css : List (List Int)) (ms : List Bool) (w : World) (hr : Rds w s css) (hm : RdB w vm ms) :
    Calls Tryd.prog 24 #[.agg #[.int .i64 n, s], vm] w fun e w' => ∃ v, e = .returned v ∧ Own w.heap.size w' v (flsA n css ms) ∧ Below w.heap.size w w' := by
  have hl := hr.len
  have HX : Hid (Bx w n s css (w.alloc (.cells #[.int .i64 n, s] 24))) := Bx.new hr _
  have HM : Hid (RdB (w.alloc (.cells #[.int .i64 n, s] 24)) vm ms) := hm.below (below_box _ _)
  have hlm := hm.len
  obtain ⟨am, cm, rfl, _⟩ := hm.form
  obtain ⟨a, c, rfl, hc, hmx, _⟩ := hr.form
  obtain ⟨i0, hi, hz0, hz1, hz2⟩ := info_parts Tryd.info3
  clear hr hm
  have HQ : Hid (mdl n css ms = (frm n css && ((ms.length : Int) == n))) := rfl
  cases hf0 : frm n css
  · have HE : Hid (flsA n css ms = []) := by unfold flsA Hid; rw [HQ.out, hf0]; rfl
    go_enter Tryd.func24, Tryd.ntmps24
    go_wp2_with fail
    refine (rFormed_any n _ css _ HX.out.rd).mono ?_
    rw [hf0]
    rintro e w1 ⟨rfl, bel1⟩
    have HX1 := HX.out.on bel1
    have HB : Hid (Below w.heap.size w w1) := HX1.bel
    clear HX HX1 bel1
    go_wp2
    go_ret
    exact ⟨_, rfl, by rw [HE.out]; exact World.ownsRow_nil _ _ _ _, HB.out⟩
  cases hq : ((ms.length : Int) == n)
  · have HE : Hid (flsA n css ms = []) := by unfold flsA Hid; rw [HQ.out, hf0, hq]; rfl
    go_enter Tryd.func24, Tryd.ntmps24
    go_wp2_with fail
    refine (rFormed_any n _ css _ HX.out.rd).mono ?_
    rw [hf0]
    rintro e w1 ⟨rfl, bel1⟩
    have HX1 : Hid (Bx w n (.slice a css.length c) css w1) := HX.out.on bel1
    have c0 := HX1.out.c0
    have c1 := HX1.out.c1
    clear HX bel1
    go_wp2
    go_ret
    exact ⟨_, rfl, by rw [HE.out]; exact World.ownsRow_nil _ _ _ _, HX1.out.bel⟩
  · have HD : Hid (mdl n css ms = true) := by rw [hf0, hq] at HQ; exact HQ.out
    have HE : Hid (flsA n css ms = flsK ms css css.length) := by unfold flsA Hid; rw [HD.out]; rfl
    go_enter Tryd.func24, Tryd.ntmps24
    go_wp2_with fail
    refine (rFormed_any n _ css _ HX.out.rd).mono ?_
    rw [hf0]
    rintro e w1 ⟨rfl, bel1⟩
    have HX1 : Hid (Bx w n (.slice a css.length c) css w1) := HX.out.on bel1
    have HM1 : Hid (RdB w1 (.slice am ms.length cm) ms) := HM.out.below bel1
    have c0 := HX1.out.c0
    have c1 := HX1.out.c1
    clear HX bel1 HM
    have hq2 : ((ms.length : Int) != n) = false := by rw [bne, hq]; rfl
    go_wp2
    clear c0 c1 hq
    go_loopg [5, 6] css.length (fun g v i wr => ∃ k : Nat, k + g = css.length ∧ i = .int .i64 k ∧ Own w1.heap.size wr v (flsK ms css k) ∧ Below w1.heap.size w1 wr)
    case atStart => exact ⟨0, by omega, rfl, World.ownsRow_nil _ _ _ _, Below.refl _ _⟩
    case round =>
      obtain ⟨k, hk, rfl, own, bel⟩ := hrel
      have HK : Hid (k + gk = css.length) := hk
      have hlk := flsK_len ms css k
      have hs := bel.size
      have HXr : Hid (Bx w n (.slice a css.length c) css wr) := HX1.out.on bel
      have HMr : Hid (RdB wr (.slice am ms.length cm) ms) := HM1.out.below bel
      have c0 := HXr.out.c0
      have c1 := HXr.out.c1
      by_cases hlt : k < css.length
      · obtain ⟨b, off, u, rfl, hck, hu0⟩ := HXr.out.at hlt
        have HU : Hid (Rd wr u (css.getD k [])) := hu0
        have HG : Hid (fitsP ms.length (css.getD k []) = true) := mdl_fits HD.out hlt
        have HS1 : Hid (mkT ms (css.getD k []) = true → flsK ms css (k + 1) = flsK ms css k) := flsK_no
        have HS2 : Hid (mkT ms (css.getD k []) = false → flsK ms css (k + 1) = flsK ms css k ++ [(k : Int)]) := flsK_yes
        obtain ⟨_, ua, uc, hu, _⟩ := hu0
        clear hk
        generalize css.getD k [] = z at *
        generalize flsK ms css k = out at *
        subst hu
        cases hf : mkT ms z
        · go_wp2_with (first | (go_at_call 42; refine (rTrue_any _ _ ms z _ HMr.out HU.out HG.out).mono ?_; rw [hf]; rintro e w' ⟨rfl, hw'⟩; obtain rfl := hw'.symm) | (at_builtin; refine wpList_append_own _ rfl _ _ 31 rfl w1.heap.size 3 i0 (.int .i64 0) 1 8 Tryd.underlying31 hi hz0 hz1 hz2 rfl (by decide) _ out.length (out.map (Value.int .i64)) rfl (World.ownsRow.alloc own _) _ 1 1 [.int .i64 (k : Int)] rfl rfl (cell_one_new _ _ _) (by simp [Value.oneCell']) (by unfold maxLen; omega) (by omega) (by simp; omega) ?_; intro v2 w2 own2 gr2 hn2))
          go_roundg (gk - 1)
          case measure => have := HK.out; omega
          case rel => exact ⟨k + 1, by have := HK.out; omega, by go_num, by rw [HS2.out hf]; exact own_more own2, (bel.alloc hs _).grown gr2 (by simp; omega) (fun j hj => (own.lt j hj).1)⟩
        · go_wp2_with (go_at_call 42; refine (rTrue_any _ _ ms z _ HMr.out HU.out HG.out).mono ?_; rw [hf]; rintro e w' ⟨rfl, hw'⟩; obtain rfl := hw'.symm)
          go_roundg (gk - 1)
          case measure => have := HK.out; omega
          case rel => exact ⟨k + 1, by have := HK.out; omega, by go_num, by rw [HS1.out hf]; exact own, bel⟩
      · obtain rfl : k = css.length := by omega
        clear hk
        have HB : Hid (Below w.heap.size w wr) := HXr.out.bel
        have own' := own.mono HX1.out.bel.size
        rw [← HE.out] at own'
        clear own hlk
        go_wp2
        go_ret
        exact ⟨_, rfl, own', HB.out⟩

end Go.Proofs.YtfklgfdkpmfdnaaDoor
