/-
  dimacs.ReadAnswer, walked.
  KEEP: set on app at below new trans refl start ap kept rd rds mono one nilA belowA text push bad nil form grown rdz out len row own cons some none h x
-/
import Derived.Test.YtpebpnbikdahkaaDoorAnM
import Derived.Test.YtpebpnbikdahkaaDoorAnB
import Derived.Test.YtpebpnbikdahkaaDoorReadW
set_option linter.unusedSimpArgs false
set_option linter.unusedVariables false
namespace Go.Proofs.YtpebpnbikdahkaaDoor
open Go Go.RowKit

theorem eatA_err : ∀ (ws : List (List UInt8 × Nat)) (p : Nat) (en : Bool) (m : List Bool) {m' : List Bool} {en' : Bool} {e : Int} {j : Nat}, eatA ws p en m = (m', en', some (e, j)) → e ≠ 0 := by
  intro ws
  induction ws with
  | nil => intro p en m m' en' e j h; simp [eatA] at h
  | cons x t ih =>
    intro p en m m' en' e j h
    obtain ⟨w, q⟩ := x
    unfold eatA at h
    split at h
    · split at h
      · exact ih _ _ _ h
      · simp at h; omega
    · split at h
      · simp at h; omega
      · split at h
        · simp at h; omega
        · split at h
          · exact ih _ _ _ h
          · split at h
            · exact ih _ _ _ h
            · simp at h; omega
theorem anF_none {s : List UInt8} (h : nxt 1 (linesOf s) = none) : anF s = ⟨false, [], 35, (linesOf s).length + 1⟩ := by unfold anF; rw [h]
theorem anF_bad {s l : List UInt8} {k : Nat} {r : List (List UInt8)} (h : nxt 1 (linesOf s) = some (l, k, r)) (h2 : vdC l = none) : anF s = ⟨false, [], 35, k⟩ := by unfold anF; rw [h]; simp only [vdC_eq, h2]
theorem anF_no {s l : List UInt8} {k : Nat} {r : List (List UInt8)} (h : nxt 1 (linesOf s) = some (l, k, r)) (h2 : vdC l = some false) (h3 : nxt (k + 1) r = none) : anF s = ⟨false, [], 0, 0⟩ := by
  unfold anF; rw [h]; simp only [vdC_eq, h2, nxt_none h3]
theorem anF_more {s l l' : List UInt8} {k k' : Nat} {r r' : List (List UInt8)} (h : nxt 1 (linesOf s) = some (l, k, r)) (h2 : vdC l = some false) (h3 : nxt (k + 1) r = some (l', k', r')) : anF s = ⟨false, [], 35, k'⟩ := by
  unfold anF; rw [h]; simp only [vdC_eq, h2, (nxt_some h3).1]
  have hw : word1 l' ≠ [] := fun e => idle_words (nxt_idleA h3) (words_none e)
  rw [words_word hw]
  rfl
theorem anF_yes {s l : List UInt8} {k : Nat} {r : List (List UInt8)} (h : nxt 1 (linesOf s) = some (l, k, r)) (h2 : vdC l = some true) :
    anF s = if (moE k (k + 1) r).1 ≠ 0 then ⟨false, [], (moE k (k + 1) r).1, (moE k (k + 1) r).2.1⟩ else ⟨true, (moE k (k + 1) r).2.2, 0, 0⟩ := by
  have hn := (nxt_some h).2.1
  unfold anF
  rw [h]
  simp only [vdC_eq, h2]
  unfold moE
  generalize hE : eatA (spoken (k + 1) r) k false [] = E
  obtain ⟨m, en, x⟩ := E
  cases x with
  | some ej =>
    obtain ⟨e, j⟩ := ej
    have := eatA_err _ _ _ _ hE
    simp [this, finA]
  | none =>
    cases en
    · simp [finA]; omega
    · simp [finA]

set_option maxRecDepth 100000 in
set_option maxHeartbeats 3200000 in
theorem dimAnswer_any (s : ByteArray) (w : World) (hs : s.data.toList.length < 4294967281) :
    Calls Tryd.prog 6 #[.string s] w (AnS w (anF s.data.toList)) := by
  have has : ∀ x ∈ s.data.toList, x.toNat < 256 := fun x _ => x.toNat_lt
  have hlines : (linesOf s.data.toList).length ≤ s.data.toList.length := by
    have : ∀ (n : Nat) (t : List UInt8), t.length ≤ n → (linesOf t).length ≤ t.length := by
      intro n
      induction n with
      | zero => intro t ht; have : t = [] := List.eq_nil_of_length_eq_zero (by omega); subst this; rw [linesOf_nil]; simp
      | succ n ih =>
        intro t ht
        by_cases h : t = []
        · subst h; rw [linesOf_nil]; simp
        · rw [linesOf_cons h]
          have h1 := cutN_lt h
          have := ih (cutN t).2 (by omega)
          simp; omega
    exact this _ _ (Nat.le_refl _)
  have HT0 : Hid (Tb (w.alloc (.cells #[.string s, .string ⟨#[]⟩, .int .i64 0] 34)) w.heap.size s ⟨#[]⟩ ((0 : Nat) : Int)) := Tb.new w s ⟨#[]⟩ 0
  have HB0 : Hid (Below w.heap.size w (w.alloc (.cells #[.string s, .string ⟨#[]⟩, .int .i64 0] 34))) := below_box _ _
  have HV : Hid (Calls Tryd.prog 10 #[.pointer (some ⟨w.heap.size, 0, none⟩)] (w.alloc (.cells #[.string s, .string ⟨#[]⟩, .int .i64 0] 34)) fun e w' => VdR s.data.toList w.heap.size (0 + 1) (linesOf s.data.toList) e w' ∧ (w.alloc (.cells #[.string s, .string ⟨#[]⟩, .int .i64 0] 34)).grownBy w' (some w.heap.size)) := verdict_any w.heap.size s ⟨#[]⟩ 0 _ HT0.out hs has (by omega)
  generalize hA : anF s.data.toList = A
  go_enter Tryd.func6, Tryd.ntmps6
  go_wp2_with fail
  generalize w.alloc (.cells #[.string s, .string ⟨#[]⟩, .int .i64 0] 34) = W0 at *
  refine HV.out.mono ?_
  rintro e w1 ⟨hH, hG⟩
  have HB1 : Hid (Below w.heap.size w w1) := below_by HB0.out hG (Nat.le_refl _)
  clear HT0 HB0 HV
  rcases hH with ⟨q1, rfl, left, rest, q2⟩ | ⟨ln, k', rs, left, rest, q1, q2, q3, q4, q5, q6, q7⟩
  case inl =>
    have c2 := q2.c2
    have HA : Hid (A = ⟨false, [], 35, (linesOf s.data.toList).length + 1⟩) := by show _ = _; rw [← hA]; exact anF_none q1
    have hln : ((0 + 1 + (linesOf s.data.toList).length : Nat) : Int) = (((linesOf s.data.toList).length + 1 : Nat) : Int) := by omega
    rw [hln] at c2
    clear q1 q2 hG hA hln
    generalize (linesOf s.data.toList).length + 1 = N at *
    go_wp2_with fail
    go_region
    all_goals
      go_wp2
      go_returns
      exact AnS.bad HA.out (by first | exact HB1.out | exact HB1.out.drew)
  have c2 := q3.c2
  rcases q7 with ⟨g1, rfl⟩ | ⟨v, g1, rfl⟩
  case inl =>
    have HA : Hid (A = ⟨false, [], 35, k'⟩) := by show _ = _; rw [← hA]; exact anF_bad q1 g1
    clear q1 q2 q3 q4 q5 q6 g1 hG hA
    go_wp2_with fail
    go_region
    all_goals
      go_wp2
      go_returns
      exact AnS.bad HA.out (by first | exact HB1.out | exact HB1.out.drew)
  cases v
  case false =>
    have HN : Hid (Calls Tryd.prog 12 #[.pointer (some ⟨w.heap.size, 0, none⟩)] w1 fun e w' => NxtR left.data.toList w.heap.size (k' + 1) (linesOf left.data.toList) e w' ∧ w1.grownBy w' (some w.heap.size)) := next_any w.heap.size left rest k' w1 q3 (by rw [← ba_lenW]; omega) (by rw [q2]; omega)
    rw [q2] at HN
    have HQ : Hid (nxt 1 (linesOf s.data.toList) = some (ln, k', rs) ∧ vdC ln = some false) := ⟨q1, g1⟩
    clear q1 q2 q3 q4 q5 q6 g1 hG c2
    go_wp2_with fail
    refine HN.out.mono ?_
    rintro e w2 ⟨hN, hG⟩
    have HB2 : Hid (Below w.heap.size w w2) := below_by HB1.out hG (Nat.le_refl _)
    rcases hN with ⟨l2, k2, r2, left2, q1, rfl, q3, q4, q5, q6, q7⟩ | ⟨q1, rfl, rest2, q2⟩
    case inl =>
      have c2 := q4.c2
      have HA : Hid (A = ⟨false, [], 35, k2⟩) := by show _ = _; rw [← hA]; exact anF_more HQ.out.1 HQ.out.2 q1
      clear q1 q3 q4 q5 q6 q7 hG hA HN
      go_wp2_with fail
      go_region
      all_goals
        go_wp2
        go_returns
        exact AnS.bad HA.out (by first | exact HB2.out | exact HB2.out.drew)
    case inr =>
      have HA : Hid (A = ⟨false, [], 0, 0⟩) := by show _ = _; rw [← hA]; exact anF_no HQ.out.1 HQ.out.2 q1
      clear q1 q2 hG hA HN
      go_wp2
      go_returns
      exact AnS.bad HA.out HB2.out
  case true =>
    have HGo : Hid (A = if (moE k' (k' + 1) (linesOf left.data.toList)).1 ≠ 0 then ⟨false, [], (moE k' (k' + 1) (linesOf left.data.toList)).1, (moE k' (k' + 1) (linesOf left.data.toList)).2.1⟩ else ⟨true, (moE k' (k' + 1) (linesOf left.data.toList)).2.2, 0, 0⟩) := by show _ = _; rw [← hA, q2]; exact anF_yes q1 g1
    have HM : Hid (Calls Tryd.prog 11 #[.pointer (some ⟨w.heap.size, 0, none⟩)] w1 fun e w' => MoR w1 w.heap.size k' (k' + 1) (linesOf left.data.toList) e w') := model_any w.heap.size left rest k' w1 q3 (by omega) (fun x hx => has x (q5 x hx)) (by rw [q2]; omega)
    clear q1 q2 q3 q4 q5 q6 g1 hG c2 hA
    go_wp2_with fail
    refine HM.out.mono ?_
    rintro e w2 ⟨s2, left2, rest2, rfl, own2, T2, G2⟩
    generalize moE k' (k' + 1) (linesOf left.data.toList) = E at *
    have HB2 : Hid (Below w.heap.size w w2) := below_by HB1.out G2 (Nat.le_refl _)
    obtain ⟨er, line, ms⟩ := E
    simp only at HGo own2 T2 ⊢
    have HO2 : Hid (OwnBo w.heap.size w2 s2 ms) := ⟨own2.1, own2.2.imp id (fun ⟨g, cap, cur, h1, h2, h3⟩ => ⟨g, cap, cur, h1, Nat.le_trans HB1.out.size h2, h3⟩)⟩
    have c2 := T2.c2
    obtain ⟨a2, k2, rfl⟩ := row_form own2
    clear own2 T2 G2 HM HB1
    by_cases he : er = 0
    · subst he
      rw [if_neg (by simp)] at HGo
      go_wp2
      go_returns
      rw [HGo.out]
      exact ⟨_, rfl, HO2.out, HB2.out⟩
    · rw [if_pos he] at HGo
      go_wp2_with fail
      go_region
      all_goals
        go_wp2
        go_returns
        exact AnS.bad HGo.out (by first | exact HB2.out | exact HB2.out.drew)

end Go.Proofs.YtpebpnbikdahkaaDoor
