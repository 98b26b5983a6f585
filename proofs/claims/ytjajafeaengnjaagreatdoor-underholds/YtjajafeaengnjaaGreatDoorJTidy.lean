/-
  joined: Tidy AdjC RefB RpP RefW
-/
import Derived.Test.YtjajafeaengnjaaGreatDoorKJoin
import Derived.Test.YtjajafeaengnjaaGreatDoorShelf
import Derived.Test.YtjajafeaengnjaaGreatDoorJPlain
import Derived.Test.YtjajafeaengnjaaGreatDoorJForms
import Derived.Test.YtjajafeaengnjaaGreatDoorKNgw
set_option linter.unusedSimpArgs false
set_option linter.unusedVariables false
namespace Go.Proofs.YtjajafeaengnjaaGreatDoor
open Go.RowKit Go.Sort

theorem sortSaid : SortSaid := fun blk off cap zs w h1 h2 h3 => Tryz.slices_Sort_int blk off cap zs w h1 h2 h3
theorem compactSaid : CompactSaid := fun blk off cap zs w h1 h2 h3 => Tryz.slices_Compact_int blk off cap zs w h1 h2 h3

theorem tid8 (zs : List Int) : (tid zs).length * 8 ≤ 140737488351232 := by have := tid_len zs; omega

theorem tidy_any (v : Value) (zs : List Int) (w : World) (hr : Rd w v zs) :
    Calls Tryz.prog 35 #[v] w fun e w' => ∃ v', e = .returned v' ∧ Own w.heap.size w' v' (tid zs) ∧ Below w.heap.size w w' := by
  go_enter Tryz.func35, Tryz.ntmps35
  go_wp2_with fail
  refine (join_any sortSaid compactSaid v (.slice none 0 0) zs [] w hr (Rd.nil w)).mono ?_
  rintro e w' ⟨v', rfl, ho, hb⟩
  rw [List.append_nil] at ho
  go_wp2
  go_ret
  exact ⟨_, rfl, ho, hb⟩

theorem contains_any (v : Value) (zs : List Int) (l : Int) (w : World) (hr : Rd w v zs) :
    Calls Tryz.prog 133 #[v, .int .i64 l] w fun e w' => e = .returned (.bool (zs.contains l)) ∧ w' = w := by
  have hl := hr.len
  rcases hr.cases with ⟨rfl, a, c, rfl, _, _⟩ | ⟨b, off, c, rfl, hpos, hc, hm, hb, hcell⟩
  · exact Tryz.slices_Contains_int_empty a c l w
  · have := Tryz.slices_Contains_int b off zs.length c zs l w (Nat.le_refl _) (by omega) hcell
    rw [List.take_length] at this
    exact this

theorem has_any (v : Value) (zs : List Int) (l : Int) (w : World) (hr : Rd w v zs) :
    Calls Tryz.prog 115 #[v, .int .i64 l] w fun e w' => e = .returned (.bool (fmd l && zs.contains l)) ∧ w' = w := by
  have hc := contains_any v zs l w hr
  have HC : Hid (Calls Tryz.prog 133 #[v, .int .i64 l] w fun e w' => e = .returned (.bool (zs.contains l)) ∧ w' = w) := hc
  clear hc hr
  generalize zs.contains l = q at *
  cases hf : fmd l
  all_goals
    go_enter Tryz.func115, Tryz.ntmps115
    go_wp2_with (first | (go_at_call 22; refine (formed_any _ _).mono ?_; rintro e w' ⟨rfl, hw⟩; subst hw) | (go_at_call 133; refine HC.out.mono ?_; rintro e w' ⟨rfl, hw⟩; subst hw))
    go_ret
    exact ⟨by simp, rfl⟩

/-- two neighbours are opposites -/
def adj : List Int → Bool
  | a :: b :: r => (b == -a) || adj (b :: r)
  | _ => false
theorem adj_iff : ∀ l : List Int, adj l = true ↔ ∃ j, j + 1 < l.length ∧ l.getD (j + 1) 0 = -l.getD j 0
  | [] => by simp [adj]
  | [a] => by simp [adj]
  | a :: b :: r => by
    rw [adj, Bool.or_eq_true, adj_iff (b :: r)]
    constructor
    · rintro (h | ⟨j, h1, h2⟩)
      · exact ⟨0, by simp, by simpa using h⟩
      · exact ⟨j + 1, by simpa using h1, by simpa using h2⟩
    · rintro ⟨j, h1, h2⟩
      cases j with
      | zero => exact .inl (by simpa using h2)
      | succ j => exact .inr ⟨j, by simpa using h1, by simpa using h2⟩
theorem adj_false {l : List Int} (h : ∀ j, j + 1 < l.length → l.getD (j + 1) 0 ≠ -l.getD j 0) : adj l = false := by
  cases hc : adj l with
  | false => rfl
  | true => obtain ⟨j, h1, h2⟩ := (adj_iff l).1 hc; exact absurd h2 (h j h1)
theorem adj_true {l : List Int} {j : Nat} (h1 : j + 1 < l.length) (h2 : l.getD (j + 1) 0 = -l.getD j 0) : adj l = true := (adj_iff l).2 ⟨j, h1, h2⟩

/-- the one ahead of place k; 0 ahead of the first -/
def ahead1 (t : List Int) : Nat → Int
  | 0 => 0
  | k + 1 => t.getD k 0

theorem getD_fmd {zs : List Int} {k : Nat} (h : k < (tid zs).length) : fmd ((tid zs).getD k 0) = true := by
  rw [List.getD_eq_getElem?_getD, List.getElem?_eq_getElem h]
  exact tid_fmd _ (List.getElem_mem h)
theorem ahead1_range {zs : List Int} {k : Nat} (h : k < (tid zs).length) : -1048576 ≤ ahead1 (tid zs) k ∧ ahead1 (tid zs) k ≤ 1048576 := by
  cases k with
  | zero => simp [ahead1]
  | succ k => have := fmd_range (getD_fmd (zs := zs) (k := k) (by omega)); exact this.2

theorem taut_any (v : Value) (zs : List Int) (w : World) (hr : Rd w v zs) :
    Calls Tryz.prog 83 #[v] w fun e w' => e = .returned (.bool (adj (tid zs))) ∧ Below w.heap.size w w' := by
  have HT : Hid (Calls Tryz.prog 35 #[v] w fun e w' => ∃ v', e = .returned v' ∧ Own w.heap.size w' v' (tid zs) ∧ Below w.heap.size w w') := tidy_any v zs w hr
  have hl := tid_len zs
  have HF : Hid (∀ k, k < (tid zs).length → fmd ((tid zs).getD k 0) = true) := fun k h => getD_fmd h
  have HR : Hid (∀ k, k < (tid zs).length → -1048576 ≤ ahead1 (tid zs) k ∧ ahead1 (tid zs) k ≤ 1048576) := fun k h => ahead1_range h
  clear hr
  generalize tid zs = t at *
  go_enter Tryz.func83, Tryz.ntmps83
  go_wp2_with fail
  refine HT.out.mono ?_
  rintro e w1 ⟨v1, rfl, own, bel⟩
  have hrd := own.rd (by omega)
  clear own HT
  rcases hrd.cases with ⟨rfl, a, c, rfl, _, _⟩ | ⟨b, off, c, rfl, hpos, hc, hm, hb, hcell⟩
  · go_wp2
    refine wp_loop_rounds 1 ?_
    rw [rounds_succ]
    go_wp2
    go_ret
    exact ⟨rfl, bel⟩
  · have HC : Hid (∀ j, j < t.length → w1.cell? ⟨b, off + j, none⟩ = some (.int .i64 (t.getD j 0))) := hcell
    clear hcell hrd
    go_wp2
    go_loopg [3, 9] t.length (fun g l i wr => ∃ k : Nat, k + g = t.length ∧ i = .int .i64 k ∧ l = .int .i64 (ahead1 t k) ∧ (∀ j, j + 1 < k → t.getD (j + 1) 0 ≠ -t.getD j 0) ∧ wr = w1)
    case atStart => exact ⟨0, by omega, rfl, rfl, fun j h => absurd h (by omega), rfl⟩
    case round =>
      obtain ⟨k, hk, rfl, rfl, hno, rfl⟩ := hrel
      have HN : Hid (∀ j, j + 1 < k → t.getD (j + 1) 0 ≠ -t.getD j 0) := hno
      have HK : Hid (k + gk = t.length) := hk
      clear hno
      by_cases hlt : k < t.length
      · have hck := HC.out k hlt
        obtain ⟨r1, r2⟩ := HR.out k hlt
        have hz := fmd_range (HF.out k hlt)
        have hz1 := hz.2.1
        have hz2 := hz.2.2
        by_cases he : t.getD k 0 = -ahead1 t k
        · have hk1 : 0 < k := by
            rcases Nat.eq_zero_or_pos k with e | e
            · subst e; exfalso; rw [show ahead1 t 0 = 0 from rfl] at he; exact hz.1 (by simpa using he)
            · exact e
          have HA : Hid (adj t = true) := by
            obtain ⟨m, rfl⟩ : ∃ m, k = m + 1 := ⟨k - 1, by omega⟩
            exact adj_true hlt he
          have hb1 : (t.getD k 0 == -ahead1 t k) = true := beq_iff_eq.2 he
          clear he hz hk
          generalize t.getD k 0 = z at *
          generalize ahead1 t k = y at *
          go_wp2
          go_ret
          exact ⟨ret_bool HA.out.symm, bel⟩
        · have hb1 : (t.getD k 0 == -ahead1 t k) = false := beq_eq_false_iff_ne.2 he
          have HE : Hid (t.getD k 0 ≠ -ahead1 t k) := he
          have HAH : Hid (ahead1 t (k + 1) = t.getD k 0) := rfl
          clear he hz hk
          generalize hgz : t.getD k 0 = z at *
          generalize hgy : ahead1 t k = y at *
          have HZ : Hid (t.getD k 0 = z) := hgz
          have HY : Hid (ahead1 t k = y) := hgy
          clear hgz hgy
          go_wp2
          go_roundg (gk - 1)
          case measure => have := HK.out; omega
          case rel =>
            refine ⟨k + 1, by have := HK.out; omega, by go_num, by rw [HAH.out], fun j hj => ?_, rfl⟩
            by_cases hjk : j + 1 < k
            · exact HN.out j hjk
            · obtain rfl : k = j + 1 := by omega
              rw [HZ.out, show t.getD j 0 = y from HY.out]
              exact HE.out
      · obtain rfl : k = t.length := by omega
        have HA : Hid (adj t = false) := adj_false HN.out
        clear hk
        go_wp2
        go_ret
        exact ⟨ret_bool HA.out.symm, bel⟩

theorem equal_any (va vb : Value) (a b : List Int) (w : World) (ha : Rd w va a) (hb : Rd w vb b) :
    Calls Tryz.prog 34 #[va, vb] w fun e w' => e = .returned (.bool (a == b)) ∧ Below w.heap.size w w' := by
  have hla := ha.len
  have hlb := hb.len
  rcases ha.cases with ⟨rfl, aa, ca, rfl, _, _⟩ | ⟨ba, oa, ca, rfl, pa, hca, hma, hba, cela⟩
  · obtain ⟨_, ab, cb, rfl, _⟩ := hb
    refine (Tryz.slices_Equal_int_empty aa ab ca b.length cb w (by omega)).mono ?_
    rintro e w' ⟨rfl, rfl⟩
    refine ⟨ret_bool ?_, Below.refl _ _⟩
    cases b <;> simp
  · rcases hb.cases with ⟨rfl, ab, cb, rfl, _, _⟩ | ⟨bb, ob, cb, rfl, pb, hcb, hmb, hbb, celb⟩
    · refine (Tryz.slices_Equal_int_lens _ ab a.length ca 0 cb w (by omega)).mono ?_
      rintro e w' ⟨rfl, rfl⟩
      refine ⟨ret_bool ?_, Below.refl _ _⟩
      cases a with
      | nil => simp at pa
      | cons x r => rfl
    · refine (Tryz.slices_Equal_int ba oa a.length ca bb ob b.length cb a b w (Nat.le_refl _) (Nat.le_refl _) (by omega) (by omega) cela celb).mono ?_
      rintro e w' ⟨rfl, q, rfl⟩
      rw [List.take_length, List.take_length]
      exact ⟨rfl, below_drewN _ _⟩

theorem same_any (va vb : Value) (a b : List Int) (w : World) (ha : Rd w va a) (hb : Rd w vb b) :
    Calls Tryz.prog 23 #[va, vb] w fun e w' => e = .returned (.bool (a.all fmd && b.all fmd && (tid a == tid b))) ∧ Below w.heap.size w w' := by
  cases hfa : a.all fmd
  · go_enter Tryz.func23, Tryz.ntmps23
    go_wp2_with fail
    refine (sound_any va a w ha).mono ?_
    rintro e w' ⟨rfl, hw⟩
    rw [hw, hfa]
    clear hw w'
    go_wp2
    go_ret
    exact ⟨by simp, Below.refl _ _⟩
  · cases hfb : b.all fmd
    · go_enter Tryz.func23, Tryz.ntmps23
      go_wp2_with fail
      refine (sound_any va a w ha).mono ?_
      rintro e w' ⟨rfl, hw⟩
      rw [hw, hfa]
      clear hw w'
      go_wp2_with fail
      refine (sound_any vb b w hb).mono ?_
      rintro e w' ⟨rfl, hw⟩
      rw [hw, hfb]
      clear hw w'
      go_wp2
      go_ret
      exact ⟨by simp, Below.refl _ _⟩
    · go_enter Tryz.func23, Tryz.ntmps23
      go_wp2_with fail
      refine (sound_any va a w ha).mono ?_
      rintro e w' ⟨rfl, hw⟩
      rw [hw, hfa]
      clear hw w'
      go_wp2_with fail
      refine (sound_any vb b w hb).mono ?_
      rintro e w' ⟨rfl, hw⟩
      rw [hw, hfb]
      clear hw w'
      go_wp2_with fail
      refine (tidy_any va a w ha).mono ?_
      rintro e w1 ⟨v1, rfl, own1, bel1⟩
      go_wp2_with fail
      refine (tidy_any vb b w1 (hb.below bel1)).mono ?_
      rintro e w2 ⟨v2, rfl, own2, bel2⟩
      go_wp2_with fail
      refine (equal_any v1 v2 (tid a) (tid b) w2 ((own1.rd (tid8 a)).below bel2) (own2.rd (tid8 b))).mono ?_
      rintro e w3 ⟨rfl, bel3⟩
      go_wp2
      go_ret
      exact ⟨by simp, Below.step (Below.step bel1 bel2) bel3⟩

end Go.Proofs.YtjajafeaengnjaaGreatDoor
set_option linter.unusedSimpArgs false
set_option linter.unusedVariables false
namespace Go.Proofs.YtjajafeaengnjaaGreatDoor
open Go Go.RowKit

theorem adj_con8 {facts : List Int} (hf : facts.all fmd = true) : adj (tid facts) = false ↔ Con facts := by
  have hmem : ∀ x, x ∈ tid facts ↔ x ∈ facts := fun x => by rw [mem_tid]; exact ⟨fun h => h.1, fun h => ⟨h, List.all_eq_true.1 hf x h⟩⟩
  constructor
  · intro h l h1 h2
    have hfl : fmd l = true := List.all_eq_true.1 hf l h1
    -- the positive one and its opposite stand side by side
    have key : ∀ p : Int, 0 < p → p ∈ facts → -p ∈ facts → False := by
      intro p hp a b
      have hfp : fmd p = true := List.all_eq_true.1 hf p a
      obtain ⟨i, hi, ei⟩ := List.getElem_of_mem ((hmem p).2 a)
      obtain ⟨j, hj, ej⟩ := List.getElem_of_mem ((hmem (-p)).2 b)
      have ip : idx p = 2 * p - 2 := (there_pos hfp hp).1
      have jp : idx (-p) = 2 * p - 1 := by rw [(there_neg (fmd_neg hfp) (by omega)).1]; omega
      have hr := List.pairwise_iff_getElem.1 (tid_rising facts)
      have hij : j = i + 1 := by
        rcases Nat.lt_trichotomy i j with c | c | c
        · refine Classical.byContradiction fun hne => ?_
          have h3 := hr i (i + 1) hi (by omega) (by omega)
          have h4 := hr (i + 1) j (by omega) hj (by omega)
          rw [ei] at h3; rw [ej] at h4
          omega
        · subst c; rw [ei] at ej; omega
        · have h3 := hr j i hj hi c
          rw [ei, ej] at h3; omega
      subst hij
      have : adj (tid facts) = true := adj_true hj (by
        rw [List.getD_eq_getElem?_getD, List.getElem?_eq_getElem hj, List.getD_eq_getElem?_getD, List.getElem?_eq_getElem hi]
        show (tid facts)[i + 1] = -(tid facts)[i]
        rw [ei, ej])
      rw [h] at this; cases this
    have h0 := (fmd_range hfl).1
    rcases (show 0 < l ∨ l < 0 by omega) with c | c
    · exact key l c h1 h2
    · exact key (-l) (by omega) h2 (by rw [Int.neg_neg]; exact h1)
  · intro hc
    cases h : adj (tid facts)
    · rfl
    · exfalso
      obtain ⟨j, hj, e⟩ := (adj_iff _).1 h
      have m1 : (tid facts).getD j 0 ∈ facts := (hmem _).1 (getD_mem' (by omega))
      have m2 : (tid facts).getD (j + 1) 0 ∈ facts := (hmem _).1 (getD_mem' hj)
      rw [e] at m2
      exact hc _ m1 m2

theorem adj_or {a b : List Int} (ha : a.all fmd = true) (hb : b.all fmd = true) : adj (tid (a ++ b)) = (adj (tid a) || (adj (tid b) || b.any (fun l => a.contains (-l)))) := by
  have hab : (a ++ b).all fmd = true := by rw [List.all_append, ha, hb]; rfl
  have f : ∀ {z : List Int}, z.all fmd = true → (adj (tid z) = true ↔ ¬ Con z) := fun {z} hz => by
    cases h : adj (tid z)
    · simp [(adj_con8 hz).1 h]
    · simp
      intro hc
      rw [(adj_con8 hz).2 hc] at h; cases h
  rw [Bool.eq_iff_iff, Bool.or_eq_true, Bool.or_eq_true, f hab, f ha, f hb, List.any_eq_true]
  constructor
  · intro h
    refine Classical.byContradiction fun hn => h ?_
    have h1 : Con a := Classical.byContradiction fun h2 => hn (.inl h2)
    have h2 : Con b := Classical.byContradiction fun h3 => hn (.inr (.inl h3))
    have h3 : ∀ l ∈ b, -l ∉ a := fun l hl hc => hn (.inr (.inr ⟨l, hl, List.contains_iff_mem.2 hc⟩))
    intro l hl hm
    rcases List.mem_append.1 hl with x | x <;> rcases List.mem_append.1 hm with y | y
    · exact h1 l x y
    · exact h3 _ y (by simpa using x)
    · exact h3 _ x y
    · exact h2 l x y
  · rintro (h | h | ⟨l, hl, hc⟩) hab
    · exact h fun l x y => hab l (List.mem_append.2 (.inl x)) (List.mem_append.2 (.inl y))
    · exact h fun l x y => hab l (List.mem_append.2 (.inr x)) (List.mem_append.2 (.inr y))
    · exact hab l (List.mem_append.2 (.inr hl)) (List.mem_append.2 (.inl (List.contains_iff_mem.1 hc)))
end Go.Proofs.YtjajafeaengnjaaGreatDoor
set_option linter.unusedSimpArgs false
set_option linter.unusedVariables false
namespace Go.Proofs.YtjajafeaengnjaaGreatDoor
open Go.RowKit

theorem refSound_any (v : Value) (zs : List Int) (w : World) (hr : Rd w v zs) :
    Calls Tryz.prog 16 #[v] w fun e w' => e = .returned (.bool (zs.all fmd)) ∧ w' = w := by
  have hl := hr.len
  rcases hr.cases with ⟨rfl, a, c, rfl, _, _⟩ | ⟨b, off, c, rfl, hpos, hc, hm, hb, hcell⟩
  · go_enter Tryz.func16, Tryz.ntmps16
    go_wp2
    refine wp_loop_rounds 1 ?_
    rw [rounds_succ]
    go_wp2
    go_ret
    exact ⟨rfl, rfl⟩
  · have HC : Hid (∀ j, j < zs.length → w.cell? ⟨b, off + j, none⟩ = some (.int .i64 (zs.getD j 0))) := hcell
    clear hcell hr
    go_enter Tryz.func16, Tryz.ntmps16
    go_wp2
    go_loopg [3] zs.length (fun g i wr => ∃ k : Nat, k + g = zs.length ∧ i = .int .i64 k ∧ (zs.take k).all fmd = true ∧ wr = w)
    case atStart => exact ⟨0, by omega, rfl, by simp, rfl⟩
    case round =>
      obtain ⟨k, hk, rfl, hall, rfl⟩ := hrel
      have HA : Hid ((zs.take k).all fmd = true) := hall
      have HK : Hid (k + gk = zs.length) := hk
      clear hall
      by_cases hlt : k < zs.length
      · have hck := HC.out k hlt
        have HS : Hid ((zs.take (k + 1)).all fmd = ((zs.take k).all fmd && fmd (zs.getD k 0))) := all_take_succ zs k hlt
        cases hf : fmd (zs.getD k 0)
        · have HF : Hid (zs.all fmd = false) := all_false_of hlt hf
          clear hk
          generalize zs.getD k 0 = z at *
          go_wp2_with (go_at_call 27; refine (refFormed_any _ _).mono ?_; rintro e w' ⟨rfl, rfl⟩)
          go_ret
          exact ⟨ret_bool HF.out.symm, rfl⟩
        · clear hk
          generalize zs.getD k 0 = z at *
          go_wp2_with (go_at_call 27; refine (refFormed_any _ _).mono ?_; rintro e w' ⟨rfl, rfl⟩)
          go_roundg (gk - 1)
          case measure => have := HK.out; omega
          case rel => exact ⟨k + 1, by have := HK.out; omega, by go_num, by rw [HS.out, HA.out, hf]; rfl, rfl⟩
      · obtain rfl : k = zs.length := by omega
        have HE : Hid (zs.all fmd = true) := by have := HA.out; rw [List.take_length] at this; exact this
        clear hk
        go_wp2
        go_ret
        exact ⟨ret_bool HE.out.symm, rfl⟩

theorem contains_take_succ (zs : List Int) (l : Int) (k : Nat) (h : k < zs.length) : (zs.take (k + 1)).contains l = ((zs.take k).contains l || (zs.getD k 0 == l)) := by
  rw [Bool.eq_iff_iff, Bool.or_eq_true, List.contains_iff_mem, List.contains_iff_mem, beq_iff_eq, mem_take_succ h l]
  constructor
  · rintro (p | p)
    · exact .inl p
    · exact .inr p.symm
  · rintro (p | p)
    · exact .inl p
    · exact .inr p.symm
theorem contains_true_of {zs : List Int} {l : Int} {k : Nat} (h : k < zs.length) (hf : (zs.getD k 0 == l) = true) : zs.contains l = true := by
  rw [List.contains_iff_mem]
  have e : zs[k] = l := by simpa [List.getD_eq_getElem?_getD, List.getElem?_eq_getElem h] using hf
  rw [← e]; exact List.getElem_mem h

theorem refHas_any (v : Value) (zs : List Int) (l : Int) (w : World) (hr : Rd w v zs) :
    Calls Tryz.prog 57 #[v, .int .i64 l] w fun e w' => e = .returned (.bool (fmd l && zs.contains l)) ∧ w' = w := by
  have hl := hr.len
  cases hfl : fmd l
  · go_enter Tryz.func57, Tryz.ntmps57
    go_wp2_with (go_at_call 27; refine (refFormed_any _ _).mono ?_; rintro e w' ⟨rfl, rfl⟩)
    go_ret
    exact ⟨by simp, rfl⟩
  rcases hr.cases with ⟨rfl, a, c, rfl, _, _⟩ | ⟨b, off, c, rfl, hpos, hc, hm, hb, hcell⟩
  · go_enter Tryz.func57, Tryz.ntmps57
    go_wp2_with (go_at_call 27; refine (refFormed_any _ _).mono ?_; rintro e w' ⟨rfl, rfl⟩)
    refine wp_loop_rounds 1 ?_
    rw [rounds_succ]
    go_wp2
    go_ret
    exact ⟨rfl, rfl⟩
  · have HC : Hid (∀ j, j < zs.length → w.cell? ⟨b, off + j, none⟩ = some (.int .i64 (zs.getD j 0))) := hcell
    clear hcell hr
    go_enter Tryz.func57, Tryz.ntmps57
    go_wp2_with fail
    refine (refFormed_any _ _).mono ?_
    rintro e w' ⟨rfl, hw⟩
    rw [hw, hfl]
    clear hw w'
    go_wp2
    go_loopg [5] zs.length (fun g i wr => ∃ k : Nat, k + g = zs.length ∧ i = .int .i64 k ∧ (zs.take k).contains l = false ∧ wr = w)
    case atStart => exact ⟨0, by omega, rfl, by simp, rfl⟩
    case round =>
      obtain ⟨k, hk, rfl, hall, rfl⟩ := hrel
      have HA : Hid ((zs.take k).contains l = false) := hall
      have HK : Hid (k + gk = zs.length) := hk
      clear hall
      by_cases hlt : k < zs.length
      · have hck := HC.out k hlt
        have HS : Hid ((zs.take (k + 1)).contains l = ((zs.take k).contains l || (zs.getD k 0 == l))) := contains_take_succ zs l k hlt
        cases hf : (zs.getD k 0 == l)
        · clear hk
          generalize zs.getD k 0 = z at *
          go_wp2
          go_roundg (gk - 1)
          case measure => have := HK.out; omega
          case rel => exact ⟨k + 1, by have := HK.out; omega, by go_num, by rw [HS.out, HA.out, hf]; rfl, rfl⟩
        · have HF : Hid (zs.contains l = true) := contains_true_of hlt hf
          clear hk
          generalize zs.getD k 0 = z at *
          go_wp2
          go_ret
          exact ⟨ret_bool (by rw [HF.out]; rfl), rfl⟩
      · obtain rfl : k = zs.length := by omega
        have HE : Hid (zs.contains l = false) := by have := HA.out; rw [List.take_length] at this; exact this
        clear hk
        go_wp2
        go_ret
        exact ⟨ret_bool (by rw [HE.out]; rfl), rfl⟩

theorem take_eq_succ {a b : List Int} {k : Nat} (ha : k < a.length) (hb : k < b.length) (h : a.take k = b.take k) (he : a.getD k 0 = b.getD k 0) : a.take (k + 1) = b.take (k + 1) := by
  have e : a[k] = b[k] := by simpa [List.getD_eq_getElem?_getD, List.getElem?_eq_getElem ha, List.getElem?_eq_getElem hb] using he
  rw [List.take_succ_eq_append_getElem ha, List.take_succ_eq_append_getElem hb, h, e]
theorem beq_false_at {a b : List Int} {k : Nat} (h : a.getD k 0 ≠ b.getD k 0) : (a == b) = false := by
  rw [beq_eq_false_iff_ne]; intro e; exact h (by rw [e])
theorem beq_false_len {a b : List Int} (h : a.length ≠ b.length) : (a == b) = false := by
  rw [beq_eq_false_iff_ne]; intro e; exact h (by rw [e])

theorem refEqual_any (va vb : Value) (a b : List Int) (w : World) (ha : Rd w va a) (hb : Rd w vb b) :
    Calls Tryz.prog 31 #[va, vb] w fun e w' => e = .returned (.bool (a == b)) ∧ Below w.heap.size w w' := by
  have hla := ha.len
  have hlb := hb.len
  by_cases hne : a.length = b.length
  · rcases ha.cases with ⟨rfl, aa, ca, rfl, _, _⟩ | ⟨ba, oa, ca, rfl, pa, hca, hma, hba, cela⟩
    · obtain rfl : b = [] := List.length_eq_zero_iff.1 hne.symm
      obtain ⟨_, ab, cb, rfl, _⟩ := hb
      go_enter Tryz.func31, Tryz.ntmps31
      go_wp2
      refine wp_loop_rounds 1 ?_
      rw [rounds_succ]
      go_wp2
      go_ret
      exact ⟨rfl, Below.refl _ _⟩
    · rcases hb.cases with ⟨rfl, ab, cb, rfl, _, _⟩ | ⟨bb, ob, cb, rfl, pb, hcb, hmb, hbb, celb⟩
      · exfalso; rw [List.length_nil] at hne; omega
      · have HCA : Hid (∀ j, j < a.length → w.cell? ⟨ba, oa + j, none⟩ = some (.int .i64 (a.getD j 0))) := cela
        have HCB : Hid (∀ j, j < b.length → w.cell? ⟨bb, ob + j, none⟩ = some (.int .i64 (b.getD j 0))) := celb
        have HN : Hid (a.length = b.length) := hne
        clear cela celb ha hb
        have hnb : ((a.length : Int) == (b.length : Int)) = true := beq_iff_eq.2 (by omega)
        have hnb' : ((a.length : Int) != (b.length : Int)) = false := by simp [hne]
        clear hne
        go_enter Tryz.func31, Tryz.ntmps31
        go_wp2
        go_loopg [5] a.length (fun g i wr => ∃ k : Nat, k + g = a.length ∧ i = .int .i64 k ∧ a.take k = b.take k ∧ Below w.heap.size w wr)
        case atStart => exact ⟨0, by omega, rfl, by simp, Below.refl _ _⟩
        case round =>
          obtain ⟨k, hk, rfl, hall, bel⟩ := hrel
          have HA : Hid (a.take k = b.take k) := hall
          have HK : Hid (k + gk = a.length) := hk
          clear hall
          by_cases hlt : k < a.length
          · have hlt2 : k < b.length := by have := HN.out; omega
            have hca' : wr.cell? ⟨ba, oa + k, none⟩ = some (.int .i64 (a.getD k 0)) := cell_in hba bel HCA.out hlt
            have hcb' : wr.cell? ⟨bb, ob + k, none⟩ = some (.int .i64 (b.getD k 0)) := cell_in hbb bel HCB.out hlt2
            clear hk
            by_cases he : a.getD k 0 = b.getD k 0
            · have HT : Hid (a.take (k + 1) = b.take (k + 1)) := take_eq_succ hlt hlt2 HA.out he
              rw [← he] at hcb'
              clear he
              generalize a.getD k 0 = x at *
              go_wp2
              go_quiet (fail)
              go_wp2
              go_roundg (gk - 1)
              case measure => have := HK.out; omega
              case rel => exact ⟨k + 1, by have := HK.out; omega, by go_num, HT.out, bel.trans ((below_drewN _ _).mono bel.size)⟩
            · have HT : Hid ((a == b) = false) := beq_false_at he
              have hx : (a.getD k 0 == b.getD k 0) = false := beq_eq_false_iff_ne.2 he
              have hx' : (a.getD k 0 != b.getD k 0) = true := by rw [bne_iff_ne]; exact he
              clear he
              generalize a.getD k 0 = x at *
              generalize b.getD k 0 = y at *
              go_wp2
              go_quiet (fail)
              go_wp2
              go_ret
              exact ⟨ret_bool HT.out.symm, bel.trans ((below_drewN _ _).mono bel.size)⟩
          · obtain rfl : k = a.length := by omega
            have HE : Hid ((a == b) = true) := by have := HA.out; rw [List.take_length, HN.out, List.take_length] at this; exact beq_iff_eq.2 this
            clear hk
            go_wp2
            go_ret
            exact ⟨ret_bool HE.out.symm, bel⟩
  · have HF : Hid ((a == b) = false) := beq_false_len hne
    obtain ⟨_, aa, ca, rfl, _⟩ := ha
    obtain ⟨_, ab, cb, rfl, _⟩ := hb
    have hnb : ((a.length : Int) == (b.length : Int)) = false := beq_eq_false_iff_ne.2 (by omega)
    have hnb' : ((a.length : Int) != (b.length : Int)) = true := by rw [bne_iff_ne]; omega
    clear hne
    go_enter Tryz.func31, Tryz.ntmps31
    go_wp2
    go_ret
    exact ⟨ret_bool HF.out.symm, Below.refl _ _⟩

theorem rd_take {w : World} {b off c : Nat} {zs : List Int} (h : Nat) (hh : h ≤ zs.length) (hl : zs.length * 8 ≤ 140737488351232) (hc : zs.length ≤ c) (hm : c ≤ maxLen) (hb : b < w.heap.size) (hcell : ∀ j, j < zs.length → w.cell? ⟨b, off + j, none⟩ = some (.int .i64 (zs.getD j 0))) : Rd w (.slice (some ⟨b, off, none⟩) h c) (zs.take h) := by
  have e : (zs.take h).length = h := by simp; omega
  refine ⟨by rw [e]; omega, _, c, by rw [e], by rw [e]; omega, hm, fun h => (by cases h), fun _ => ⟨b, off, rfl, hb, fun j hj => ?_⟩⟩
  rw [e] at hj
  rw [hcell j (by omega)]
  simp [List.getD_eq_getElem?_getD, List.getElem?_take, hj]
theorem rd_drop {w : World} {b off c : Nat} {zs : List Int} (h : Nat) (hh : h ≤ zs.length) (hl : zs.length * 8 ≤ 140737488351232) (hc : zs.length ≤ c) (hm : c ≤ maxLen) (hb : b < w.heap.size) (hcell : ∀ j, j < zs.length → w.cell? ⟨b, off + j, none⟩ = some (.int .i64 (zs.getD j 0))) : Rd w (.slice (some ⟨b, off + h, none⟩) (zs.length - h) (c - h)) (zs.drop h) := by
  have e : (zs.drop h).length = zs.length - h := by simp
  refine ⟨by rw [e]; omega, _, c - h, by rw [e], by rw [e]; omega, by omega, fun h => (by cases h), fun _ => ⟨b, off + h, rfl, hb, fun j hj => ?_⟩⟩
  rw [e] at hj
  rw [Nat.add_assoc, hcell (h + j) (by omega)]
  simp [List.getD_eq_getElem?_getD, List.getElem?_drop]
theorem tid_one_yes {z : Int} (h : fmd z = true) : tid [z] = [z] := by simp [tid, h, ins]
theorem tid_one_no {z : Int} (h : fmd z = false) : tid [z] = [] := by simp [tid, h]
theorem own_one (w : World) (z : Int) : Own w.heap.size (w.alloc (.cells #[.int .i64 z] 3)) (.slice (some ⟨w.heap.size, 0, none⟩) 1 1) [z] :=
  World.ownsRow_lit w #[.int .i64 z] 1 (Nat.le_refl _) (by unfold maxLen; omega) (by simp)

set_option maxHeartbeats 800000 in
theorem refTidy_any : ∀ (n : Nat) (v : Value) (zs : List Int) (w : World), zs.length = n → Rd w v zs →
    Calls Tryz.prog 32 #[v] w fun e w' => ∃ v', e = .returned v' ∧ Own w.heap.size w' v' (tid zs) ∧ Below w.heap.size w w' := by
  intro n
  induction n using Nat.strongRecOn with
  | _ n ih =>
    intro v zs w hn hr
    have IH : Hid (∀ m, m < n → ∀ (v : Value) (zs : List Int) (w : World), zs.length = m → Rd w v zs → Calls Tryz.prog 32 #[v] w fun e w' => ∃ v', e = .returned v' ∧ Own w.heap.size w' v' (tid zs) ∧ Below w.heap.size w w') := ih
    clear ih
    have hl := hr.len
    rcases hr.cases with ⟨rfl, a, c, rfl, _, _⟩ | ⟨b, off, c, rfl, hpos, hc, hm, hb, hcell⟩
    · go_enter Tryz.func32, Tryz.ntmps32
      go_wp2
      go_ret
      exact ⟨_, rfl, World.ownsRow_nil _ _ _ _, Below.refl _ _⟩
    · by_cases h1 : zs.length = 1
      · obtain ⟨z, rfl⟩ : ∃ z, zs = [z] := List.length_eq_one_iff.1 h1
        have hck : w.cell? ⟨b, off, none⟩ = some (.int .i64 z) := hcell 0 (by simp)
        clear hcell hr
        cases hf : fmd z
        · rw [tid_one_no hf]
          go_enter Tryz.func32, Tryz.ntmps32
          go_wp2_with (go_at_call 27; refine (refFormed_any _ _).mono ?_; rintro e w' ⟨rfl, rfl⟩)
          go_ret
          exact ⟨_, rfl, World.ownsRow_nil _ _ _ _, Below.refl _ _⟩
        · rw [tid_one_yes hf]
          go_enter Tryz.func32, Tryz.ntmps32
          go_wp2_with (go_at_call 27; refine (refFormed_any _ _).mono ?_; rintro e w' ⟨rfl, rfl⟩)
          go_ret
          exact ⟨_, rfl, own_one _ z, (Below.refl _ _).alloc (Nat.le_refl _) _⟩
      · have hn0 : ((zs.length : Int) == 0) = false := beq_eq_false_iff_ne.2 (by omega)
        have hn1 : ((zs.length : Int) == 1) = false := beq_eq_false_iff_ne.2 (by omega)
        have HN : Hid (zs.length = n) := hn
        have h2 : 2 ≤ zs.length := by omega
        have ht := rd_take (zs.length / 2) (by omega) hl hc hm hb hcell
        have hd := rd_drop (zs.length / 2) (by omega) hl hc hm hb hcell
        have c1 := IH.out (zs.length / 2) (by omega) _ (zs.take (zs.length / 2)) w (by simp; omega) ht
        clear hcell hr hn h1
        go_enter Tryz.func32, Tryz.ntmps32
        go_wp2_with fail
        refine c1.mono ?_
        rintro e w1 ⟨v1, rfl, own1, bel1⟩
        have c2 := IH.out (zs.length - zs.length / 2) (by have := HN.out; omega) _ (zs.drop (zs.length / 2)) w1 (by simp) (hd.below bel1)
        go_wp2_with fail
        refine c2.mono ?_
        rintro e w2 ⟨v2, rfl, own2, bel2⟩
        have c3 := merged_any v1 v2 (tid (zs.take (zs.length / 2))) (tid (zs.drop (zs.length / 2))) w2 ((own1.rd (tid8 _)).below bel2) (own2.rd (tid8 _)) (tid_rising _) (tid_rising _) tid_fmd tid_fmd
        rw [tid_halves] at c3
        go_wp2_with fail
        refine c3.mono ?_
        rintro e w3 ⟨v3, rfl, own3, bel3⟩
        go_wp2
        go_ret
        exact ⟨_, rfl, own3.mono (Below.step bel1 bel2).size, Below.step (Below.step bel1 bel2) bel3⟩

theorem refTidy (v : Value) (zs : List Int) (w : World) (hr : Rd w v zs) :
    Calls Tryz.prog 32 #[v] w fun e w' => ∃ v', e = .returned v' ∧ Own w.heap.size w' v' (tid zs) ∧ Below w.heap.size w w' := refTidy_any zs.length v zs w rfl hr

theorem refSame_any (va vb : Value) (a b : List Int) (w : World) (ha : Rd w va a) (hb : Rd w vb b) :
    Calls Tryz.prog 19 #[va, vb] w fun e w' => e = .returned (.bool (a.all fmd && b.all fmd && (tid a == tid b))) ∧ Below w.heap.size w w' := by
  cases hfa : a.all fmd
  · go_enter Tryz.func19, Tryz.ntmps19
    go_wp2_with fail
    refine (refSound_any va a w ha).mono ?_
    rintro e w' ⟨rfl, hw⟩
    rw [hw, hfa]
    clear hw w'
    go_wp2
    go_ret
    exact ⟨by simp, Below.refl _ _⟩
  · cases hfb : b.all fmd
    · go_enter Tryz.func19, Tryz.ntmps19
      go_wp2_with fail
      refine (refSound_any va a w ha).mono ?_
      rintro e w' ⟨rfl, hw⟩
      rw [hw, hfa]
      clear hw w'
      go_wp2_with fail
      refine (refSound_any vb b w hb).mono ?_
      rintro e w' ⟨rfl, hw⟩
      rw [hw, hfb]
      clear hw w'
      go_wp2
      go_ret
      exact ⟨by simp, Below.refl _ _⟩
    · go_enter Tryz.func19, Tryz.ntmps19
      go_wp2_with fail
      refine (refSound_any va a w ha).mono ?_
      rintro e w' ⟨rfl, hw⟩
      rw [hw, hfa]
      clear hw w'
      go_wp2_with fail
      refine (refSound_any vb b w hb).mono ?_
      rintro e w' ⟨rfl, hw⟩
      rw [hw, hfb]
      clear hw w'
      go_wp2_with fail
      refine (refTidy va a w ha).mono ?_
      rintro e w1 ⟨v1, rfl, own1, bel1⟩
      go_wp2_with fail
      refine (refTidy vb b w1 (hb.below bel1)).mono ?_
      rintro e w2 ⟨v2, rfl, own2, bel2⟩
      go_wp2_with fail
      refine (refEqual_any v1 v2 (tid a) (tid b) w2 ((own1.rd (tid8 a)).below bel2) (own2.rd (tid8 b))).mono ?_
      rintro e w3 ⟨rfl, bel3⟩
      go_wp2
      go_ret
      exact ⟨by simp, Below.step (Below.step bel1 bel2) bel3⟩

theorem refJoin_any (va vb : Value) (a b : List Int) (w : World) (ha : Rd w va a) (hb : Rd w vb b) :
    Calls Tryz.prog 58 #[va, vb] w fun e w' => ∃ v', e = .returned v' ∧ Own w.heap.size w' v' (tid (a ++ b)) ∧ Below w.heap.size w w' := by
  go_enter Tryz.func58, Tryz.ntmps58
  go_wp2_with fail
  refine (refTidy va a w ha).mono ?_
  rintro e w1 ⟨v1, rfl, own1, bel1⟩
  go_wp2_with fail
  refine (refTidy vb b w1 (hb.below bel1)).mono ?_
  rintro e w2 ⟨v2, rfl, own2, bel2⟩
  have c3 := merged_any v1 v2 (tid a) (tid b) w2 ((own1.rd (tid8 _)).below bel2) (own2.rd (tid8 _)) (tid_rising _) (tid_rising _) tid_fmd tid_fmd
  rw [tid_join] at c3
  go_wp2_with fail
  refine c3.mono ?_
  rintro e w3 ⟨v3, rfl, own3, bel3⟩
  go_wp2
  go_ret
  exact ⟨_, rfl, own3.mono (Below.step bel1 bel2).size, Below.step (Below.step bel1 bel2) bel3⟩

end Go.Proofs.YtjajafeaengnjaaGreatDoor
set_option linter.unusedSimpArgs false
set_option linter.unusedVariables false
namespace Go.Proofs.YtjajafeaengnjaaGreatDoor
open Go Go.RowKit

/-- the numbers below k of the clauses that hold l -/
def ptnK (css : List (List Int)) (l : Int) (k : Nat) : List Int := ((List.range k).filter (fun i => fmd l && (css.getD i []).contains l)).map (fun i : Nat => (i : Int))
def ptnA (n : Int) (css : List (List Int)) (l : Int) : List Int := if frm n css then ptnK css l css.length else []
theorem ptnK_no {css : List (List Int)} {l : Int} {k : Nat} (h : (fmd l && (css.getD k []).contains l) = false) : ptnK css l (k + 1) = ptnK css l k := by
  unfold ptnK; rw [List.range_succ, List.filter_append]; simp only [List.filter_cons, List.filter_nil, h]; simp
theorem ptnK_yes {css : List (List Int)} {l : Int} {k : Nat} (h : (fmd l && (css.getD k []).contains l) = true) : ptnK css l (k + 1) = ptnK css l k ++ [(k : Int)] := by
  unfold ptnK; rw [List.range_succ, List.filter_append]; simp only [List.filter_cons, List.filter_nil, h]; simp
theorem ptnK_len (css : List (List Int)) (l : Int) (k : Nat) : (ptnK css l k).length ≤ k := by
  unfold ptnK; rw [List.length_map]; exact Nat.le_trans (List.length_filter_le _ _) (by simp)
theorem ptnK_none {css : List (List Int)} {l : Int} (h : fmd l = false) (k : Nat) : ptnK css l k = [] := by
  unfold ptnK; rw [h]; simp
theorem ptnA_len (n : Int) (css : List (List Int)) (l : Int) : (ptnA n css l).length ≤ css.length := by
  unfold ptnA
  split
  · exact ptnK_len _ _ _
  · simp
theorem own_more8 {base : Nat} {w : World} {v : Value} {out : List Int} {x : Int} (h : w.ownsRow base 3 1 v (out.length + 1) (out.map (Value.int .i64) ++ [.int .i64 x])) : Own base w v (out ++ [x]) := by
  unfold Own; simpa using h

set_option maxHeartbeats 3200000 in
theorem partners_any (n : Int) (s : Value) (css : List (List Int)) (l : Int) (w : World) (hr : Rds w s css) :
    Calls Tryz.prog 103 #[.agg #[.int .i64 n, s], .int .i64 l] w fun e w' => ∃ v, e = .returned v ∧ Own w.heap.size w' v (ptnA n css (ngw l)) ∧ Below w.heap.size w w' := by
  have hl := hr.len
  have HX : Hid (Bx w n s css (w.alloc (.cells #[.int .i64 n, s] 24))) := Bx.new hr _
  obtain ⟨a, c, rfl, hc, hmx, _⟩ := hr.form
  obtain ⟨i0, hi, hz0, hz1, hz2⟩ := info_parts Tryz.info3
  have hng : IntKind.i64.wrap (-l) = ngw l := rfl
  clear hr
  cases hd : frm n css
  · have HE : Hid (ptnA n css (ngw l) = []) := by unfold ptnA Hid; rw [hd]; rfl
    go_enter Tryz.func103, Tryz.ntmps103
    go_wp2_with fail
    refine (cnfFormed_any n _ css _ HX.out.rd).mono ?_
    rw [hd]
    rintro e w1 ⟨rfl, bel1⟩
    have HX1 := HX.out.on bel1
    have HB : Hid (Below w.heap.size w w1) := HX1.bel
    clear HX HX1 bel1
    go_wp2
    go_ret
    exact ⟨_, rfl, by rw [HE.out]; exact World.ownsRow_nil _ _ _ _, HB.out⟩
  · have HE : Hid (ptnA n css (ngw l) = ptnK css (ngw l) css.length) := by unfold ptnA Hid; rw [hd]; rfl
    generalize ngw l = nl at *
    go_enter Tryz.func103, Tryz.ntmps103
    go_wp2_with fail
    refine (cnfFormed_any n _ css _ HX.out.rd).mono ?_
    rw [hd]
    rintro e w1 ⟨rfl, bel1⟩
    have HX1 : Hid (Bx w n (.slice a css.length c) css w1) := HX.out.on bel1
    have c0 := HX1.out.c0
    have c1 := HX1.out.c1
    clear HX bel1 hd
    go_wp2
    go_loopg [5, 14] css.length (fun g v i wr => ∃ k : Nat, k + g = css.length ∧ i = .int .i64 k ∧ Own w1.heap.size wr v (ptnK css nl k) ∧ Below w1.heap.size w1 wr)
    case atStart => exact ⟨0, by omega, rfl, World.ownsRow_nil _ _ _ _, Below.refl _ _⟩
    case round =>
      obtain ⟨k, hk, rfl, own, bel⟩ := hrel
      have HK : Hid (k + gk = css.length) := hk
      have hlk := ptnK_len css nl k
      have hs := bel.size
      have HXr : Hid (Bx w n (.slice a css.length c) css wr) := HX1.out.on bel
      by_cases hlt : k < css.length
      · obtain ⟨b, off, u, rfl, hck, hu0⟩ := HXr.out.at hlt
        have HU : Hid (Rd wr u (css.getD k [])) := hu0
        have HS1 : Hid ((fmd nl && (css.getD k []).contains nl) = false → ptnK css nl (k + 1) = ptnK css nl k) := ptnK_no
        have HS2 : Hid ((fmd nl && (css.getD k []).contains nl) = true → ptnK css nl (k + 1) = ptnK css nl k ++ [(k : Int)]) := ptnK_yes
        obtain ⟨_, ua, uc, hu, _⟩ := hu0
        clear hk
        generalize css.getD k [] = z at *
        generalize ptnK css nl k = out at *
        subst hu
        have HHas0 := has_any (.slice ua z.length uc) z nl wr HU.out
        cases hf : (fmd nl && z.contains nl)
        · have HSx : Hid (ptnK css nl (k + 1) = out) := HS1.out hf
          rw [hf] at HHas0
          have HHas : Hid (Calls Tryz.prog 115 #[.slice ua z.length uc, .int .i64 nl] wr fun e w' => e = .returned (.bool false) ∧ w' = wr) := HHas0
          clear HHas0 hf HS1 HS2
          go_wp2_with (go_at_call 115; refine HHas.out.mono ?_; rintro e w' ⟨rfl, hw'⟩; obtain rfl := hw'.symm)
          go_roundg (gk - 1)
          case measure => have := HK.out; omega
          case rel => exact ⟨k + 1, by have := HK.out; omega, by go_num, by rw [HSx.out]; exact own, bel⟩
        · have HSx : Hid (ptnK css nl (k + 1) = out ++ [(k : Int)]) := HS2.out hf
          rw [hf] at HHas0
          have HHas : Hid (Calls Tryz.prog 115 #[.slice ua z.length uc, .int .i64 nl] wr fun e w' => e = .returned (.bool true) ∧ w' = wr) := HHas0
          clear HHas0 hf HS1 HS2
          go_wp2_with (first | (go_at_call 115; refine HHas.out.mono ?_; rintro e w' ⟨rfl, hw'⟩; obtain rfl := hw'.symm) | (at_builtin; refine wpList_append_own _ rfl _ _ 25 rfl w1.heap.size 3 i0 (.int .i64 0) 1 8 Tryz.underlying25 hi hz0 hz1 hz2 rfl (by decide) _ out.length (out.map (Value.int .i64)) rfl (World.ownsRow.alloc own _) _ 1 1 [.int .i64 (k : Int)] rfl rfl (cell_one_new _ _ _) (by simp [Value.oneCell']) (by unfold maxLen; omega) (by omega) (by simp; omega) ?_; intro v2 w2 own2 gr2 hn2))
          go_roundg (gk - 1)
          case measure => have := HK.out; omega
          case rel => exact ⟨k + 1, by have := HK.out; omega, by go_num, by rw [HSx.out]; exact own_more8 own2, (bel.alloc hs _).grown gr2 (by simp; omega) (fun j hj => (own.lt j hj).1)⟩
      · obtain rfl : k = css.length := by omega
        clear hk
        have HB : Hid (Below w.heap.size w wr) := HXr.out.bel
        have own' := own.mono HX1.out.bel.size
        rw [← HE.out] at own'
        clear own hlk
        go_wp2
        go_ret
        exact ⟨_, rfl, own', HB.out⟩
end Go.Proofs.YtjajafeaengnjaaGreatDoor
set_option linter.unusedSimpArgs false
set_option linter.unusedVariables false
namespace Go.Proofs.YtjajafeaengnjaaGreatDoor
open Go.RowKit

def wout (t : List Int) (l : Int) : List Int := t.filter (fun x => x != l)
theorem wout_take_yes {t : List Int} {l : Int} {k : Nat} (h : k < t.length) (hf : (t.getD k 0 == l) = false) : wout (t.take (k + 1)) l = wout (t.take k) l ++ [t.getD k 0] := by
  unfold wout
  rw [List.take_succ_eq_append_getElem h, List.filter_append]
  have e : t.getD k 0 = t[k] := by simp [List.getD_eq_getElem?_getD, List.getElem?_eq_getElem h]
  rw [e] at hf ⊢
  have hb : (t[k] != l) = true := by rw [bne_iff_ne]; exact beq_eq_false_iff_ne.1 hf
  rw [List.filter_cons_of_pos (by exact hb)]
  rfl
theorem wout_take_no {t : List Int} {l : Int} {k : Nat} (h : k < t.length) (hf : (t.getD k 0 == l) = true) : wout (t.take (k + 1)) l = wout (t.take k) l := by
  unfold wout
  rw [List.take_succ_eq_append_getElem h, List.filter_append]
  have e : t.getD k 0 = t[k] := by simp [List.getD_eq_getElem?_getD, List.getElem?_eq_getElem h]
  rw [e] at hf
  have hb : ¬ (t[k] != l) = true := by rw [bne_iff_ne]; simp [beq_iff_eq.1 hf]
  rw [List.filter_cons_of_neg (by exact hb)]
  simp
theorem wout_len (t : List Int) (l : Int) : (wout t l).length ≤ t.length := List.length_filter_le _ _

set_option maxHeartbeats 800000 in
theorem refWithout_any (v : Value) (zs : List Int) (l : Int) (w : World) (hr : Rd w v zs) :
    Calls Tryz.prog 43 #[v, .int .i64 l] w fun e w' => ∃ v', e = .returned v' ∧ Own w.heap.size w' v' (wout (tid zs) l) ∧ Below w.heap.size w w' := by
  have HT : Hid (Calls Tryz.prog 32 #[v] w fun e w' => ∃ v', e = .returned v' ∧ Own w.heap.size w' v' (tid zs) ∧ Below w.heap.size w w') := refTidy v zs w hr
  have hl := tid_len zs
  clear hr
  generalize tid zs = t at *
  obtain ⟨i0, hi, hz0, hz1, hz2⟩ := info_parts Tryz.info3
  go_enter Tryz.func43, Tryz.ntmps43
  go_wp2_with fail
  refine HT.out.mono ?_
  rintro e w1 ⟨v1, rfl, own, bel⟩
  have hrd := own.rd (by omega)
  clear own HT
  rcases hrd.cases with ⟨rfl, a, c, rfl, _, _⟩ | ⟨b, off, c, rfl, hpos, hc, hm, hb, hcell⟩
  · go_wp2
    refine wp_loop_rounds 1 ?_
    rw [rounds_succ]
    go_wp2
    go_ret
    exact ⟨_, rfl, World.ownsRow_nil _ _ _ _, bel⟩
  · have HC : Hid (∀ j, j < t.length → w1.cell? ⟨b, off + j, none⟩ = some (.int .i64 (t.getD j 0))) := hcell
    clear hcell hrd
    go_wp2
    go_loopg [6, 7] t.length (fun g v i wr => ∃ k : Nat, k + g = t.length ∧ i = .int .i64 k ∧ Own w1.heap.size wr v (wout (t.take k) l) ∧ Below w1.heap.size w1 wr)
    case atStart => exact ⟨0, by omega, rfl, World.ownsRow_nil _ _ _ _, Below.refl _ _⟩
    case round =>
      obtain ⟨k, hk, rfl, own, bel2⟩ := hrel
      have HK : Hid (k + gk = t.length) := hk
      by_cases hlt : k < t.length
      · have hck : wr.cell? ⟨b, off + k, none⟩ = some (.int .i64 (t.getD k 0)) := cell_in hb bel2 HC.out hlt
        have hwl : (wout (t.take k) l).length ≤ 2097152 := by have h3 := wout_len (t.take k) l; rw [List.length_take] at h3; omega
        clear hk
        cases hq : (t.getD k 0 == l)
        · have HW : Hid (wout (t.take (k + 1)) l = wout (t.take k) l ++ [t.getD k 0]) := wout_take_yes hlt hq
          have hq' : (t.getD k 0 != l) = true := by rw [bne_iff_ne]; exact beq_eq_false_iff_ne.1 hq
          generalize t.getD k 0 = z at *
          generalize wout (t.take k) l = out at *
          go_wp2_with (at_builtin; refine wpList_append_own _ rfl _ _ 25 rfl w1.heap.size 3 i0 (.int .i64 0) 1 8 Tryz.underlying25 hi hz0 hz1 hz2 rfl (by decide) _ out.length (out.map (Value.int .i64)) rfl (World.ownsRow.alloc own _) _ 1 1 [.int .i64 z] rfl rfl (cell_one_new _ _ _) (by simp [Value.oneCell']) (by unfold maxLen; omega) (by omega) (by have := bel2.size; simp; omega) ?_; intro v2 w2 own2 gr2 hn2)
          go_roundg (gk - 1)
          case measure => have := HK.out; omega
          case rel => exact ⟨k + 1, by have := HK.out; omega, by go_num, by rw [HW.out]; exact own_grow1 own2, (bel2.alloc bel2.size _).grown gr2 (by have := bel2.size; simp; omega) (fun j hj => (own.lt j hj).1)⟩
        · have HW : Hid (wout (t.take (k + 1)) l = wout (t.take k) l) := wout_take_no hlt hq
          have hq' : (t.getD k 0 != l) = false := by rw [bne_eq_false_iff_eq]; exact beq_iff_eq.1 hq
          generalize t.getD k 0 = z at *
          go_wp2
          go_roundg (gk - 1)
          case measure => have := HK.out; omega
          case rel => exact ⟨k + 1, by have := HK.out; omega, by go_num, by rw [HW.out]; exact own, bel2⟩
      · obtain rfl : k = t.length := by omega
        rw [List.take_length] at own
        clear hk
        go_wp2
        go_ret
        exact ⟨_, rfl, own.mono bel.size, Below.step bel bel2⟩

end Go.Proofs.YtjajafeaengnjaaGreatDoor
