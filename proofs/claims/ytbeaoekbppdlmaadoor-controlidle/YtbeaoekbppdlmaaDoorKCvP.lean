/-
  control: letters as a range over a string reads them, against the document's letters; names; pieces of fair texts. No program here.
  KEEP: len below nil form rd mono on app start at new trans refl kept own row out grown rdz set one more lt size cell some none letL tail next step go add put del get look no yes e c f b k n m box
-/
import Derived.Test.YtbeaoekbppdlmaaDoorKCtP
import Derived.Lib.DecodeNEq
import Derived.Laws.RangeAny
set_option linter.unusedSimpArgs false
set_option linter.unusedVariables false
namespace Go.Proofs.YtbeaoekbppdlmaaDoor
open Go Go.RowKit Go.Lib

theorem letS_any (lo hi : Int) (l : List UInt8) : letS 0 lo hi l = letL l := by cases l <;> rfl
/-- a list's byte, as a number; 0 behind the end -/
def nb (l : List UInt8) (k : Nat) : Nat := (l.getD k 0).toNat
theorem nb_lt (l : List UInt8) (k : Nat) : nb l k < 256 := (l.getD k 0).toNat_lt
theorem get_nb (s : ByteArray) (p k : Nat) : (s.get! (p + k)).toNat = nb (s.data.toList.drop p) k := by
  unfold nb
  congr 1
  cases s with | mk d =>
  show d[p + k]! = _
  rw [List.getD_eq_getElem?_getD, List.getElem?_drop, Array.getElem?_toList, Array.getElem!_eq_getD, Array.getD_eq_getD_getElem?]
  rfl
theorem decode_nb (s : ByteArray) (p : Nat) : Utf8.decode s p = decodeN (s.data.toList.drop p).length (nb (s.data.toList.drop p) 0) (nb (s.data.toList.drop p) 1) (nb (s.data.toList.drop p) 2) (nb (s.data.toList.drop p) 3) := by
  rw [decode_at, ← get_nb, ← get_nb, ← get_nb, ← get_nb, List.length_drop]
  rfl
/-- a letter of more bytes than one, or none -/
def Ltr (l : List UInt8) (d : Nat × Nat) : Prop :=
  (∃ n, d.2 = n + 1 ∧ n + 1 ≤ l.length ∧ letL l = letL (l.drop (n + 1)) ∧ (∀ b ∈ l.take (n + 1), 128 ≤ b.toNat) ∧ (d.1 = 65533 → [239, 191, 189] <+: l))
  ∨ (d = (65533, 1) ∧ letL l = false ∧ ¬ [239, 191, 189] <+: l)
theorem pre3 {a b c : UInt8} {l : List UInt8} : [239, 191, 189] <+: a :: b :: c :: l ↔ a = 239 ∧ b = 191 ∧ c = 189 := by
  constructor
  · rintro ⟨t, h⟩
    simp at h
    exact ⟨h.1.symm, h.2.1.symm, h.2.2.1.symm⟩
  · rintro ⟨rfl, rfl, rfl⟩; exact ⟨l, rfl⟩
theorem pre2 {a b : UInt8} : ¬ [239, 191, 189] <+: [a, b] := fun h => absurd h.length_le (by simp)
theorem pre1 {a : UInt8} : ¬ [239, 191, 189] <+: [a] := fun h => absurd h.length_le (by simp)
theorem pre0 {a b : UInt8} {l : List UInt8} (h : ¬ (a.toNat = 239 ∧ b.toNat = 191)) : ¬ [239, 191, 189] <+: a :: b :: l := by
  rintro ⟨t, e⟩
  simp at e
  exact h ⟨by rw [← e.1]; rfl, by rw [← e.2.1]; rfl⟩
theorem preh {a : UInt8} {l : List UInt8} (h : ¬ a.toNat = 239) : ¬ [239, 191, 189] <+: a :: l := by
  rintro ⟨t, e⟩
  simp at e
  exact h (by rw [← e.1]; rfl)
theorem letS_ok {k : Nat} {lo hi : Int} {c : UInt8} {r : List UInt8} (h : 128 ≤ c.toNat ∧ c.toNat ≤ 191) (h2 : lo ≤ c.toNat ∧ (c.toNat : Int) ≤ hi) : letS (k + 1) lo hi (c :: r) = letS k 128 191 r := by
  rw [letS, decide_eq_true (by omega), decide_eq_true h2]; rfl
theorem letS_no {k : Nat} {lo hi : Int} {c : UInt8} {r : List UInt8} (h : ¬ ((128 ≤ c.toNat ∧ c.toNat ≤ 191) ∧ (lo ≤ c.toNat ∧ (c.toNat : Int) ≤ hi))) : letS (k + 1) lo hi (c :: r) = false := by
  rw [letS]
  by_cases g : 128 ≤ (c.toNat : Int) ∧ (c.toNat : Int) ≤ 191
  · rw [decide_eq_false (p := lo ≤ (c.toNat : Int) ∧ (c.toNat : Int) ≤ hi) (fun e => h ⟨by omega, e⟩)]; simp
  · rw [decide_eq_false g]; simp

set_option maxRecDepth 100000 in
set_option maxHeartbeats 4000000 in
theorem ltr1 (b0 : UInt8) (r : List UInt8) (h : 194 ≤ b0.toNat ∧ b0.toNat < 224) : Ltr (b0 :: r) (decodeN (r.length + 1) b0.toNat (nb r 0) (nb r 1) (nb r 2)) := by
  have hm : moreF (b0.toNat : Int) = (1, 128, 191) := by unfold moreF; rw [if_neg (by omega), if_pos (by omega)]
  have hl : letL (b0 :: r) = letS 1 128 191 r := by unfold letL; rw [letS_go (n := 1) (by rw [hm]; rfl), hm]
  rw [← slow_C2 _ _ _ _ _ (by omega) (nb_lt _ _) (nb_lt _ _) (nb_lt _ _) h]
  rcases r with _ | ⟨c1, t⟩
  · refine .inr ⟨?_, by rw [hl]; rfl, pre1⟩
    unfold slowN; rw [if_pos (by simp)]
  · have h1 := c1.toNat_lt
    have e1 : nb (c1 :: t) 0 = c1.toNat := rfl
    have hp : ¬ [239, 191, 189] <+: b0 :: c1 :: t := pre0 (by omega)
    by_cases g : 128 ≤ c1.toNat ∧ c1.toNat ≤ 191
    · refine .inl ⟨1, ?_, by simp, ?_, ?_, fun hd => absurd hd ?_⟩
      · unfold slowN; rw [if_neg (by simp), e1, if_neg (by omega), if_pos (by omega)]
      · rw [hl, letS_ok g (by omega), letS_any]; rfl
      · intro b hb; simp at hb; rcases hb with rfl | rfl <;> omega
      · unfold slowN; rw [if_neg (by simp), e1, if_neg (by omega), if_pos (by omega)]; simp only; omega
    · refine .inr ⟨?_, ?_, hp⟩
      · unfold slowN; rw [if_neg (by simp), e1, if_pos (by omega)]
      · rw [hl, letS_no (by omega)]

set_option maxRecDepth 100000 in
set_option maxHeartbeats 4000000 in
theorem ltr2 (b0 : UInt8) (r : List UInt8) (lo hi : Nat) (hm : moreF (b0.toNat : Int) = (2, (lo : Int), (hi : Int))) (hlo : 128 ≤ lo) (hhi : hi ≤ 191) (hb : 224 ≤ b0.toNat ∧ b0.toNat < 240) (h9 : b0.toNat = 239 → lo = 128 ∧ hi = 191)
    (hs : slowN (r.length + 1) b0.toNat (nb r 0) (nb r 1) (nb r 2) 3 lo hi = decodeN (r.length + 1) b0.toNat (nb r 0) (nb r 1) (nb r 2)) : Ltr (b0 :: r) (decodeN (r.length + 1) b0.toNat (nb r 0) (nb r 1) (nb r 2)) := by
  have hl : letL (b0 :: r) = letS 2 lo hi r := by unfold letL; rw [letS_go (n := 2) (by rw [hm]; rfl), hm]
  rw [← hs]
  rcases r with _ | ⟨c1, t⟩
  · refine .inr ⟨?_, by rw [hl]; rfl, pre1⟩
    unfold slowN; rw [if_pos (by simp)]
  · have h1 := c1.toNat_lt
    have e1 : nb (c1 :: t) 0 = c1.toNat := rfl
    rcases t with _ | ⟨c2, t⟩
    · refine .inr ⟨?_, by rw [hl, letS]; simp [letS], pre2⟩
      unfold slowN; rw [if_pos (by simp)]
    · have h2 := c2.toNat_lt
      have e2 : nb (c1 :: c2 :: t) 1 = c2.toNat := rfl
      by_cases g : lo ≤ c1.toNat ∧ c1.toNat ≤ hi
      · by_cases g2 : 128 ≤ c2.toNat ∧ c2.toNat ≤ 191
        · have hv : slowN ((c1 :: c2 :: t).length + 1) b0.toNat (nb (c1 :: c2 :: t) 0) (nb (c1 :: c2 :: t) 1) (nb (c1 :: c2 :: t) 2) 3 lo hi = (b0.toNat % 16 * 4096 + c1.toNat % 64 * 64 + c2.toNat % 64, 3) := by
            unfold slowN; rw [if_neg (by simp), e1, if_neg (by omega), if_neg (by omega), e2, if_neg (by omega), if_pos (by omega)]
          rw [hv]
          refine .inl ⟨2, rfl, by simp, ?_, ?_, fun hd => ?_⟩
          · rw [hl, letS_ok (by omega) (by omega), letS_ok g2 (by omega), letS_any]; rfl
          · intro b hb; simp at hb; rcases hb with rfl | rfl | rfl <;> omega
          · simp only at hd
            exact pre3.2 ⟨UInt8.toNat_inj.1 (show b0.toNat = 239 by omega), UInt8.toNat_inj.1 (show c1.toNat = 191 by omega), UInt8.toNat_inj.1 (show c2.toNat = 189 by omega)⟩
        · refine .inr ⟨?_, ?_, fun h => ?_⟩
          · unfold slowN; rw [if_neg (by simp), e1, if_neg (by omega), if_neg (by omega), e2, if_pos (by omega)]
          · rw [hl, letS_ok (by omega) (by omega), letS_no (by omega)]
          · obtain ⟨q0, q1, q2⟩ := pre3.1 h
            rw [q2] at g2
            exact g2 (by decide)
      · refine .inr ⟨?_, ?_, fun h => ?_⟩
        · unfold slowN; rw [if_neg (by simp), e1, if_pos (by omega)]
        · rw [hl, letS_no (by omega)]
        · obtain ⟨q0, q1, q2⟩ := pre3.1 h
          have := h9 (by rw [q0]; rfl)
          rw [q1] at g
          exact g ⟨by rw [this.1]; decide, by rw [this.2]; decide⟩

set_option maxRecDepth 100000 in
set_option maxHeartbeats 4000000 in
theorem ltr3 (b0 : UInt8) (r : List UInt8) (lo hi : Nat) (hm : moreF (b0.toNat : Int) = (3, (lo : Int), (hi : Int))) (hlo : 128 ≤ lo) (hhi : hi ≤ 191) (hb : 240 ≤ b0.toNat ∧ b0.toNat < 245) (h9 : b0.toNat = 240 → 144 ≤ lo)
    (hs : slowN (r.length + 1) b0.toNat (nb r 0) (nb r 1) (nb r 2) 4 lo hi = decodeN (r.length + 1) b0.toNat (nb r 0) (nb r 1) (nb r 2)) : Ltr (b0 :: r) (decodeN (r.length + 1) b0.toNat (nb r 0) (nb r 1) (nb r 2)) := by
  have hl : letL (b0 :: r) = letS 3 lo hi r := by unfold letL; rw [letS_go (n := 3) (by rw [hm]; rfl), hm]
  have hnp : ¬ [239, 191, 189] <+: b0 :: r := preh (by omega)
  rw [← hs]
  have short : ∀ k, r.length = k → k < 3 → letS 3 lo hi r = false := fun k e h => letS_short 3 _ _ _ (by omega)
  by_cases h3 : r.length < 3
  · refine .inr ⟨?_, by rw [hl]; exact short _ rfl h3, hnp⟩
    unfold slowN; rw [if_pos (by omega)]
  · obtain ⟨c1, c2, c3, t, rfl⟩ : ∃ c1 c2 c3 t, r = c1 :: c2 :: c3 :: t := by
      rcases r with _ | ⟨c1, _ | ⟨c2, _ | ⟨c3, t⟩⟩⟩
      · simp at h3
      · simp at h3
      · simp at h3
      · exact ⟨c1, c2, c3, t, rfl⟩
    have h1 := c1.toNat_lt
    have h2 := c2.toNat_lt
    have h4 := c3.toNat_lt
    have e1 : nb (c1 :: c2 :: c3 :: t) 0 = c1.toNat := rfl
    have e2 : nb (c1 :: c2 :: c3 :: t) 1 = c2.toNat := rfl
    have e3 : nb (c1 :: c2 :: c3 :: t) 2 = c3.toNat := rfl
    have hlen : ¬ (c1 :: c2 :: c3 :: t).length + 1 < 4 := by simp
    rw [e1, e2, e3]
    clear h3 short hs
    by_cases g : lo ≤ c1.toNat ∧ c1.toNat ≤ hi
    · by_cases g2 : 128 ≤ c2.toNat ∧ c2.toNat ≤ 191
      · by_cases g3 : 128 ≤ c3.toNat ∧ c3.toNat ≤ 191
        · have hv : slowN ((c1 :: c2 :: c3 :: t).length + 1) b0.toNat c1.toNat c2.toNat c3.toNat 4 lo hi = (b0.toNat % 8 * 262144 + c1.toNat % 64 * 4096 + c2.toNat % 64 * 64 + c3.toNat % 64, 4) := by
            unfold slowN; rw [if_neg hlen, if_neg (by omega), if_neg (by omega), if_neg (by omega), if_neg (by omega), if_neg (by omega)]
          rw [hv]
          refine .inl ⟨3, rfl, by simp, ?_, ?_, fun hd => ?_⟩
          · rw [hl, letS_ok (by omega) (by omega), letS_ok g2 (by omega), letS_ok g3 (by omega), letS_any]; rfl
          · intro b hb; simp at hb; rcases hb with rfl | rfl | rfl | rfl <;> omega
          · simp only at hd
            omega
        · refine .inr ⟨?_, ?_, hnp⟩
          · unfold slowN; rw [if_neg hlen, if_neg (by omega), if_neg (by omega), if_neg (by omega), if_neg (by omega), if_pos (by omega)]
          · rw [hl, letS_ok (by omega) (by omega), letS_ok g2 (by omega), letS_no (by omega)]
      · refine .inr ⟨?_, ?_, hnp⟩
        · unfold slowN; rw [if_neg hlen, if_neg (by omega), if_neg (by omega), if_pos (by omega)]
        · rw [hl, letS_ok (by omega) (by omega), letS_no (by omega)]
    · refine .inr ⟨?_, ?_, hnp⟩
      · unfold slowN; rw [if_neg hlen, if_pos (by omega)]
      · rw [hl, letS_no (by omega)]

set_option maxRecDepth 100000 in
set_option maxHeartbeats 4000000 in
theorem dec_let (s : ByteArray) (p : Nat) (hp : p < s.size) (hb : 128 ≤ (s[p]'hp).toNat) : Ltr (s.data.toList.drop p) (Utf8.decode s p) := by
  rw [decode_nb, ba_drop hp]
  generalize s.data.toList.drop (p + 1) = r
  generalize s[p] = b0 at *
  show Ltr (b0 :: r) (decodeN (r.length + 1) b0.toNat (nb r 0) (nb r 1) (nb r 2))
  have h0 := b0.toNat_lt
  by_cases c1 : firstT b0.toNat < 240
  · rcases firstT_low c1 with h | h | h | h | h | h | h
    · exact ltr1 b0 r h
    · exact ltr2 b0 r 160 191 (by unfold moreF; rw [if_neg (by omega), if_neg (by omega), if_pos (by omega)]; rfl) (by omega) (by omega) (by omega) (by omega) (slow_E0 _ _ _ _ _ (by omega) (nb_lt _ _) (nb_lt _ _) (nb_lt _ _) h)
    · exact ltr2 b0 r 128 191 (by unfold moreF; rw [if_neg (by omega), if_neg (by omega), if_neg (by omega), if_neg (by omega), if_pos (by omega)]; rfl) (by omega) (by omega) (by omega) (by omega) (slow_E1 _ _ _ _ _ (by omega) (nb_lt _ _) (nb_lt _ _) (nb_lt _ _) h)
    · exact ltr2 b0 r 128 159 (by unfold moreF; rw [if_neg (by omega), if_neg (by omega), if_neg (by omega), if_pos (by omega)]; rfl) (by omega) (by omega) (by omega) (by omega) (slow_ED _ _ _ _ _ (by omega) (nb_lt _ _) (nb_lt _ _) (nb_lt _ _) h)
    · exact ltr3 b0 r 144 191 (by unfold moreF; rw [if_neg (by omega), if_neg (by omega), if_neg (by omega), if_neg (by omega), if_neg (by omega), if_pos (by omega)]; rfl) (by omega) (by omega) (by omega) (by omega) (slow_F0 _ _ _ _ _ (by omega) (nb_lt _ _) (nb_lt _ _) (nb_lt _ _) h)
    · exact ltr3 b0 r 128 191 (by unfold moreF; rw [if_neg (by omega), if_neg (by omega), if_neg (by omega), if_neg (by omega), if_neg (by omega), if_neg (by omega), if_pos (by omega)]; rfl) (by omega) (by omega) (by omega) (by omega) (slow_F1 _ _ _ _ _ (by omega) (nb_lt _ _) (nb_lt _ _) (nb_lt _ _) h)
    · exact ltr3 b0 r 128 143 (by unfold moreF; rw [if_neg (by omega), if_neg (by omega), if_neg (by omega), if_neg (by omega), if_neg (by omega), if_neg (by omega), if_neg (by omega), if_pos (by omega)]; rfl) (by omega) (by omega) (by omega) (by omega) (slow_F4 _ _ _ _ _ (by omega) (nb_lt _ _) (nb_lt _ _) (nb_lt _ _) h)
  · have hc : firstT b0.toNat = 241 := by
      have hf : firstT b0.toNat = 240 → b0.toNat < 128 := fun e => by
        unfold firstT at e
        repeat' split at e
        all_goals omega
      have hx : firstT b0.toNat ≤ 241 := by
        unfold firstT
        repeat' split
        all_goals omega
      omega
    have hcl : (128 ≤ b0.toNat ∧ b0.toNat < 194) ∨ 244 < b0.toNat := by
      unfold firstT at hc
      repeat' split at hc
      all_goals omega
    rw [bad_eq _ _ _ _ _ h0 hc]
    refine .inr ⟨rfl, ?_, preh (by omega)⟩
    unfold letL
    apply letS_bad
    unfold moreF
    rw [if_neg (by omega), if_neg (by omega), if_neg (by omega), if_neg (by omega), if_neg (by omega), if_neg (by omega), if_neg (by omega), if_neg (by omega)]
    decide

end Go.Proofs.YtbeaoekbppdlmaaDoor
