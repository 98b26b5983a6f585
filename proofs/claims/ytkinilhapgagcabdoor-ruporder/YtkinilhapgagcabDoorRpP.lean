/-
  rup: Partners, the program's and the document's.
  KEEP: set on app at below new trans refl start ap kept rd rds mono lt add none own nil put len pos setF setV putL putR other neV same_any
-/
import Derived.Test.YtkinilhapgagcabDoorTidy
import Derived.Test.YtkinilhapgagcabDoorRefB
import Derived.Test.YtkinilhapgagcabDoorShape
import Derived.Test.YtkinilhapgagcabDoorNgw
set_option linter.unusedSimpArgs false
set_option linter.unusedVariables false
namespace Go.Proofs.YtkinilhapgagcabDoor
open Go Go.RowKit

/-- the numbers below k of the clauses that hold l -/
def ptnK (css : List (List Int)) (l : Int) (k : Nat) : List Int := ((List.range k).filter (fun i => fmd l && (css.getD i []).contains l)).map (fun i : Nat => (i : Int))
def ptnA (n : Int) (css : List (List Int)) (l : Int) : List Int := if frm n css then ptnK css l css.length else []
theorem ptnK_no {css : List (List Int)} {l : Int} {k : Nat} (h : (fmd l && (css.getD k []).contains l) = false) : ptnK css l (k + 1) = ptnK css l k := by
  unfold ptnK; rw [List.range_succ, List.filter_append]; simp only [List.filter_cons, List.filter_nil, h]; simp
theorem ptnK_yes {css : List (List Int)} {l : Int} {k : Nat} (h : (fmd l && (css.getD k []).contains l) = true) : ptnK css l (k + 1) = ptnK css l k ++ [(k : Int)] := by
  unfold ptnK; rw [List.range_succ, List.filter_append]; simp only [List.filter_cons, List.filter_nil, h]; simp
theorem ptnK_len (css : List (List Int)) (l : Int) (k : Nat) : (ptnK css l k).length ≤ k := by
  unfold ptnK; rw [List.length_map]; exact Nat.le_trans (List.length_filter_le _ _) (by simp)
theorem ptnK_none {css : List (List Int)} {l : Int} (h : fmd l = false) (k : Nat) : ptnK css l k = [] := by
  unfold ptnK; rw [h]; simp
theorem ptnA_len (n : Int) (css : List (List Int)) (l : Int) : (ptnA n css l).length ≤ css.length := by
  unfold ptnA
  split
  · exact ptnK_len _ _ _
  · simp
theorem own_more8 {base : Nat} {w : World} {v : Value} {out : List Int} {x : Int} (h : w.ownsRow base 3 1 v (out.length + 1) (out.map (Value.int .i64) ++ [.int .i64 x])) : Own base w v (out ++ [x]) := by
  unfold Own; simpa using h

set_option maxHeartbeats 3200000 in
theorem partners_any (n : Int) (s : Value) (css : List (List Int)) (l : Int) (w : World) (hr : Rds w s css) :
    Calls Tryd.prog 15 #[.agg #[.int .i64 n, s], .int .i64 l] w fun e w' => ∃ v, e = .returned v ∧ Own w.heap.size w' v (ptnA n css (ngw l)) ∧ Below w.heap.size w w' := by
  have hl := hr.len
  have HX : Hid (Bx w n s css (w.alloc (.cells #[.int .i64 n, s] 24))) := Bx.new hr _
  obtain ⟨a, c, rfl, hc, hmx, _⟩ := hr.form
  obtain ⟨i0, hi, hz0, hz1, hz2⟩ := info_parts Tryd.info3
  have hng : IntKind.i64.wrap (-l) = ngw l := rfl
  clear hr
  cases hd : frm n css
  · have HE : Hid (ptnA n css (ngw l) = []) := by unfold ptnA Hid; rw [hd]; rfl
    go_enter Tryd.func15, Tryd.ntmps15
    go_wp2_with fail
    refine (cnfFormed_any n _ css _ HX.out.rd).mono ?_
    rw [hd]
    rintro e w1 ⟨rfl, bel1⟩
    have HX1 := HX.out.on bel1
    have HB : Hid (Below w.heap.size w w1) := HX1.bel
    clear HX HX1 bel1
    go_wp2
    go_ret
    exact ⟨_, rfl, by rw [HE.out]; exact World.ownsRow_nil _ _ _ _, HB.out⟩
  · have HE : Hid (ptnA n css (ngw l) = ptnK css (ngw l) css.length) := by unfold ptnA Hid; rw [hd]; rfl
    generalize ngw l = nl at *
    go_enter Tryd.func15, Tryd.ntmps15
    go_wp2_with fail
    refine (cnfFormed_any n _ css _ HX.out.rd).mono ?_
    rw [hd]
    rintro e w1 ⟨rfl, bel1⟩
    have HX1 : Hid (Bx w n (.slice a css.length c) css w1) := HX.out.on bel1
    have c0 := HX1.out.c0
    have c1 := HX1.out.c1
    clear HX bel1 hd
    go_wp2
    go_loopg [5, 14] css.length (fun g v i wr => ∃ k : Nat, k + g = css.length ∧ i = .int .i64 k ∧ Own w1.heap.size wr v (ptnK css nl k) ∧ Below w1.heap.size w1 wr)
    case atStart => exact ⟨0, by omega, rfl, World.ownsRow_nil _ _ _ _, Below.refl _ _⟩
    case round =>
      obtain ⟨k, hk, rfl, own, bel⟩ := hrel
      have HK : Hid (k + gk = css.length) := hk
      have hlk := ptnK_len css nl k
      have hs := bel.size
      have HXr : Hid (Bx w n (.slice a css.length c) css wr) := HX1.out.on bel
      by_cases hlt : k < css.length
      · obtain ⟨b, off, u, rfl, hck, hu0⟩ := HXr.out.at hlt
        have HU : Hid (Rd wr u (css.getD k [])) := hu0
        have HS1 : Hid ((fmd nl && (css.getD k []).contains nl) = false → ptnK css nl (k + 1) = ptnK css nl k) := ptnK_no
        have HS2 : Hid ((fmd nl && (css.getD k []).contains nl) = true → ptnK css nl (k + 1) = ptnK css nl k ++ [(k : Int)]) := ptnK_yes
        obtain ⟨_, ua, uc, hu, _⟩ := hu0
        clear hk
        generalize css.getD k [] = z at *
        generalize ptnK css nl k = out at *
        subst hu
        have HHas0 := has_any (.slice ua z.length uc) z nl wr HU.out
        cases hf : (fmd nl && z.contains nl)
        · have HSx : Hid (ptnK css nl (k + 1) = out) := HS1.out hf
          rw [hf] at HHas0
          have HHas : Hid (Calls Tryd.prog 42 #[.slice ua z.length uc, .int .i64 nl] wr fun e w' => e = .returned (.bool false) ∧ w' = wr) := HHas0
          clear HHas0 hf HS1 HS2
          go_wp2_with (go_at_call 42; refine HHas.out.mono ?_; rintro e w' ⟨rfl, hw'⟩; obtain rfl := hw'.symm)
          go_roundg (gk - 1)
          case measure => have := HK.out; omega
          case rel => exact ⟨k + 1, by have := HK.out; omega, by go_num, by rw [HSx.out]; exact own, bel⟩
        · have HSx : Hid (ptnK css nl (k + 1) = out ++ [(k : Int)]) := HS2.out hf
          rw [hf] at HHas0
          have HHas : Hid (Calls Tryd.prog 42 #[.slice ua z.length uc, .int .i64 nl] wr fun e w' => e = .returned (.bool true) ∧ w' = wr) := HHas0
          clear HHas0 hf HS1 HS2
          go_wp2_with (first | (go_at_call 42; refine HHas.out.mono ?_; rintro e w' ⟨rfl, hw'⟩; obtain rfl := hw'.symm) | (at_builtin; refine wpList_append_own _ rfl _ _ 25 rfl w1.heap.size 3 i0 (.int .i64 0) 1 8 Tryd.underlying25 hi hz0 hz1 hz2 rfl (by decide) _ out.length (out.map (Value.int .i64)) rfl (World.ownsRow.alloc own _) _ 1 1 [.int .i64 (k : Int)] rfl rfl (cell_one_new _ _ _) (by simp [Value.oneCell']) (by unfold maxLen; omega) (by omega) (by simp; omega) ?_; intro v2 w2 own2 gr2 hn2))
          go_roundg (gk - 1)
          case measure => have := HK.out; omega
          case rel => exact ⟨k + 1, by have := HK.out; omega, by go_num, by rw [HSx.out]; exact own_more8 own2, (bel.alloc hs _).grown gr2 (by simp; omega) (fun j hj => (own.lt j hj).1)⟩
      · obtain rfl : k = css.length := by omega
        clear hk
        have HB : Hid (Below w.heap.size w wr) := HXr.out.bel
        have own' := own.mono HX1.out.bel.size
        rw [← HE.out] at own'
        clear own hlk
        go_wp2
        go_ret
        exact ⟨_, rfl, own', HB.out⟩
end Go.Proofs.YtkinilhapgagcabDoor
