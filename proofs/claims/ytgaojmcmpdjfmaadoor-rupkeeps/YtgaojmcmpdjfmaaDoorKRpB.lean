/-
  rup: opposed, Blocked.
  KEEP: set on app at below new trans refl start ap kept rd rds mono lt add none own nil put len pos setF setV putL putR other neV same_any get at pos
-/
import Derived.Test.YtgaojmcmpdjfmaaDoorJTidy
import Derived.Test.YtgaojmcmpdjfmaaDoorKRefC
import Derived.Test.YtgaojmcmpdjfmaaDoorKGrow
set_option linter.unusedSimpArgs false
set_option linter.unusedVariables false
namespace Go.Proofs.YtgaojmcmpdjfmaaDoor
open Go Go.RowKit Go.Sort

theorem opp1_any (x y : Int) (w : World) (h1 : -1 ≤ y) (h2 : y < 2097152) :
    Calls Tryd.prog 42 #[.int .i64 x, .int .i64 y] w fun e w' => e = .returned (.int .i64 (idx x - y)) ∧ w' = w := by
  have hx : -1 ≤ idx x ∧ idx x < 2097152 := by
    cases hf : fmd x with
    | true => have := idx_range hf; omega
    | false => have := idx_none hf; omega
  obtain ⟨hx1, hx2⟩ := hx
  have HI : Hid (Calls Tryd.prog 43 #[.int .i64 x] w fun e w' => e = .returned (.int .i64 (idx x)) ∧ w' = w) := index_any x w
  generalize idx x = z at *
  go_enter Tryd.func42, Tryd.ntmps42
  go_wp2_with (go_at_call 43; refine HI.out.mono ?_; rintro e w' ⟨rfl, rfl⟩)
  go_ret
  exact ⟨rfl, rfl⟩
/-- the search for a literal in a tidy list -/
theorem bsf_any (v : Value) (t : List Int) (l : Int) (w : World) (own : Own 0 w v t) (hr : Rises t) :
    ∃ a c, v = .slice a t.length c ∧ Calls Tryd.prog 44 #[v, .int .i64 (idx l), .func (.func 42) #[] #[]] w fun e w' => e = .returned (.tuple #[.int .i64 (pos t l : Nat), .bool (fmd l && t.contains l)]) ∧ Below w.heap.size w w' := by
  have hl := hr.len
  have hI : -1 ≤ idx l ∧ idx l < 2097152 := by
    cases hf : fmd l with
    | true => have := idx_range hf; omega
    | false => have := idx_none hf; omega
  by_cases hne : t = []
  · subst hne
    obtain ⟨_, a, c, rfl, _⟩ := own.rd (by simp)
    refine ⟨a, c, rfl, (Any.slices_BinarySearchFunc_none Tryd.bsf a c _ _ w).mono fun e w' h => ?_⟩
    refine ⟨h.1.trans ?_, by rw [h.2]; exact Below.refl _ _⟩
    simp [pos]
  · obtain ⟨g, cap, rfl, hH, hg, _, hn, hm⟩ := own_holds own hne
    have eg : ∀ args w, (callFunc 42 args).run Tryd.prog w = .ok (.enter 42 args) w := enters_of Tryd.func42 (by kernel_rfl) rfl
    have hcmp : CmpLaysT Tryd.prog 42 #[] (Value.int .i64) (.int .i64 (idx l)) (fun x => idx x - idx l) g 0 t.toArray.size w :=
      fun m os dk _ x => (opp1_any x (idx l) _ hI.1 hI.2).mono fun _ _ ⟨he, hq⟩ => ⟨he, 0, #[], by rw [hq, grow_empty]; rfl⟩
    have hcon := Any.slices_BinarySearchFunc Tryd.bsf (Value.int .i64) (fun _ => rfl) (.int .i64 (idx l)) (fun x => idx x - idx l) 42 #[] g 0 cap t.toArray w eg hcmp hH hg (by simp; omega)
      (fun a b hab hb h => by
        have hb' : b < t.length := by simpa using hb
        rcases Nat.lt_or_ge a b with h3 | h3
        · have := hr.lt h3 hb'
          simp only [List.getElem!_toArray] at h ⊢
          omega
        · obtain rfl : a = b := by omega
          exact h)
    change Calls Tryd.prog 44 _ _ _ at hcon
    have e3 : t.toArray.toList.countP (fun x => decide (idx x - idx l < 0)) = pos t l := by simp [pos]
    rw [e3] at hcon
    have e4 : (decide (pos t l < t.toArray.size) && decide (idx t.toArray[pos t l]! - idx l = 0)) = (fmd l && t.contains l) := by
      rw [← found_eq hr l]; simp
    rw [e4, List.size_toArray] at hcon
    exact ⟨_, cap, rfl, hcon.mono fun e w' h => ⟨h.1, sw_below hH h.2⟩⟩
/-- does a literal of d stand against one of rest? -/
def opd (rest d : List Int) : Bool := d.any (fun l => rest.contains (-l))
theorem opd_take {rest d : List Int} (h : ∀ m ∈ d, -m ∉ rest) : opd rest d = false := by
  unfold opd
  rw [List.any_eq_false]
  intro x hx hc
  exact h x hx (List.contains_iff_mem.1 hc)
theorem opd_yes {rest d : List Int} {m : Int} (h : m ∈ d) (hK : -m ∈ rest) : opd rest d = true := List.any_eq_true.2 ⟨m, h, List.contains_iff_mem.2 hK⟩
theorem mem_take_more8 {c : List Int} {j : Nat} (hj : j < c.length) {x : Int} : x ∈ c.take (j + 1) ↔ x ∈ c.take j ∨ x = c.getD j 0 := by
  rw [List.take_succ_eq_append_getElem hj, List.mem_append, List.mem_singleton, List.getD_eq_getElem?_getD, List.getElem?_eq_getElem hj]; rfl
set_option maxHeartbeats 1600000 in
theorem opposed_any (vr vd : Value) (rest d : List Int) (w : World) (hr : Own 0 w vr rest) (hri : Rises rest) (hd : Rd w vd d) (hf : ∀ l ∈ d, fmd l = true) :
    Calls Tryd.prog 31 #[vr, vd] w fun e w' => e = .returned (.bool (opd rest d)) ∧ Below w.heap.size w w' := by
  have HR : Hid (Own 0 w vr rest ∧ Rises rest ∧ ∀ l ∈ d, fmd l = true) := ⟨hr, hri, hf⟩
  have hlr := hri.len
  have hld := hd.len
  obtain ⟨ar, cr, er⟩ := own_form hr
  obtain ⟨a, cv, rfl, l1, l2, hcell⟩ := hd.form
  have HC : Hid (∀ (W : World) (j : Nat), Below w.heap.size w W → j < d.length → ∃ bb off, a = some ⟨bb, off, none⟩ ∧ W.cell? ⟨bb, off + j, none⟩ = some (.int .i64 (d.getD j 0))) := fun W j hW hj => by
    obtain ⟨bb, off, e, hc⟩ := hcell j hj
    exact ⟨bb, off, e, (hW.cell (p := ⟨bb, off + j, none⟩) (World.block_lt_of_cell? w _ hc)).trans hc⟩
  subst er
  have HBs : Hid (∀ (W : World) (l : Int), Below w.heap.size w W → Calls Tryd.prog 44 #[.slice ar rest.length cr, .int .i64 (idx l), .func (.func 42) #[] #[]] W fun e w' => e = .returned (.tuple #[.int .i64 (pos rest l : Nat), .bool (fmd l && rest.contains l)]) ∧ Below W.heap.size W w') := fun W l hW => by
    obtain ⟨a9, c9, e9, h9⟩ := bsf_any _ rest l W (HR.out.1.below (hW.mono (Nat.le_refl _))) HR.out.2.1
    exact h9
  clear hr hri hd hf hcell
  go_enter Tryd.func31, Tryd.ntmps31
  go_wp2
  go_loopg [12] d.length (fun g j' wr => ∃ j : Nat, j + g = d.length ∧ j' = .int .i64 j ∧ Below w.heap.size w wr ∧ ∀ m ∈ d.take j, -m ∉ rest)
  case atStart => exact ⟨0, by omega, rfl, Below.refl _ _, by simp⟩
  case round =>
    obtain ⟨j, hj, rfl, hb, hall⟩ := hrel
    have HJ : Hid (j + gk = d.length) := hj
    have HB : Hid (Below w.heap.size w wr ∧ ∀ m ∈ d.take j, -m ∉ rest) := ⟨hb, hall⟩
    clear hj hb hall
    by_cases hlt : j < d.length
    · obtain ⟨bb, off, rfl, c1⟩ := HC.out wr j HB.out.1 hlt
      have hlm : d.getD j 0 ∈ d := getD_mem' (d := 0) hlt
      have hlf := HR.out.2.2 _ hlm
      have HTk : Hid (∀ x, x ∈ d.take (j + 1) ↔ x ∈ d.take j ∨ x = d.getD j 0) := fun x => mem_take_more8 hlt
      have HLT : Hid (j < d.length) := hlt
      have HLm : Hid (d.getD j 0 ∈ d) := hlm
      clear hlm
      generalize d.getD j 0 = l at *
      have hrl := fmd_range hlf
      have hwl : IntKind.i64.wrap (-l) = -l := by rw [IntKind.wrap_i64]; omega
      have HX : Hid (∀ W, Calls Tryd.prog 43 #[.int .i64 (-l)] W fun e w' => e = .returned (.int .i64 (idx (-l))) ∧ w' = W) := fun W => index_any (-l) W
      have HB2 := HBs.out wr (-l) HB.out.1
      rw [fmd_neg hlf, Bool.true_and] at HB2
      have HB2 : Hid (Calls Tryd.prog 44 #[.slice ar rest.length cr, .int .i64 (idx (-l)), .func (.func 42) #[] #[]] wr fun e w' => e = .returned (.tuple #[.int .i64 (pos rest (-l) : Nat), .bool (rest.contains (-l))]) ∧ Below wr.heap.size wr w') := HB2
      generalize idx (-l) = il at *
      generalize pos rest (-l) = pl at *
      cases hin : rest.contains (-l)
      · have HIn : Hid (-l ∉ rest) := fun h9 => by rw [List.contains_iff_mem.2 h9] at hin; cases hin
        rw [hin] at HB2
        clear hin
        go_wp2_with (first | (go_at_call 43; refine (HX.out _).mono ?_; rintro e w' ⟨rfl, hw'⟩; obtain rfl := hw'.symm; clear hw') | (go_at_call 44; refine HB2.out.mono ?_; rintro e w' ⟨rfl, hb9⟩; have H9 : Hid (Below w.heap.size w w') := Below.step HB.out.1 hb9; clear hb9))
        go_roundg (gk - 1)
        case measure => have := HJ.out; have := HLT.out; omega
        case rel => exact ⟨j + 1, by have := HJ.out; have := HLT.out; omega, by go_num, H9.out, fun m hm => ((HTk.out m).1 hm).elim (HB.out.2 m) (fun e => e ▸ HIn.out)⟩
      · have HIn : Hid (opd rest d = true) := opd_yes HLm.out (List.contains_iff_mem.1 hin)
        rw [hin] at HB2
        clear hin
        go_wp2_with (first | (go_at_call 43; refine (HX.out _).mono ?_; rintro e w' ⟨rfl, hw'⟩; obtain rfl := hw'.symm; clear hw') | (go_at_call 44; refine HB2.out.mono ?_; rintro e w' ⟨rfl, hb9⟩; have H9 : Hid (Below w.heap.size w w') := Below.step HB.out.1 hb9; clear hb9))
        go_ret
        exact ⟨(congrArg (fun x => Ending.returned (.bool x)) HIn.out).symm, H9.out⟩
    · have hje : j = d.length := by have := HJ.out; omega
      have HA : Hid (opd rest d = false) := opd_take (by
        have := HB.out.2
        rw [hje, List.take_length] at this
        exact this)
      go_wp2
      go_ret
      exact ⟨(congrArg (fun x => Ending.returned (.bool x)) HA.out).symm, HB.out.1⟩
end Go.Proofs.YtgaojmcmpdjfmaaDoor
