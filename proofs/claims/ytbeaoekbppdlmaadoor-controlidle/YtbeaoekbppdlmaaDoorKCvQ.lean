/-
  control: the program's questions of a text in plain words, against the document's: trimmed, fair, a name, folded, pieces. No program here.
  KEEP: len below nil form rd mono on app start at new trans refl kept own row out grown rdz set one more lt size cell some none letL tail next step go add put del get look no yes e c f b k n m box Ltr
-/
import Derived.Test.YtbeaoekbppdlmaaDoorKCvP
import Derived.Test.YtbeaoekbppdlmaaDoorKCtV
import Derived.Lib.SplitLaws
import Derived.Lib.SlTrimSet
set_option linter.unusedSimpArgs false
set_option linter.unusedVariables false
namespace Go.Proofs.YtbeaoekbppdlmaaDoor
open Go Go.RowKit Go.Lib

theorem trR_cons (b : UInt8) (r : List UInt8) : trR (b :: r) = if isBl b = true ∧ trR r = [] then [] else b :: trR r := by
  unfold trR
  rw [List.reverse_cons, List.dropWhile_append]
  by_cases h : (List.dropWhile isBl r.reverse).isEmpty = true
  · rw [if_pos h]
    have h2 : List.dropWhile isBl r.reverse = [] := List.isEmpty_iff.1 h
    cases hb : isBl b
    · simp [hb, h2]
    · simp [hb, h2]
  · rw [if_neg h]
    have h2 : List.dropWhile isBl r.reverse ≠ [] := fun e => h (List.isEmpty_iff.2 e)
    simp [h2]
theorem trim_comm : ∀ l : List UInt8, trL (trR l) = trR (trL l)
  | [] => rfl
  | b :: r => by
    have ih := trim_comm r
    rw [trR_cons]
    cases hb : isBl b
    · rw [if_neg (by simp), trL_no hb, trL_no hb, trR_cons, if_neg (by simp [hb])]
    · rw [trL_yes hb]
      by_cases h : trR r = []
      · rw [if_pos ⟨rfl, h⟩, ← ih, h]
      · rw [if_neg (fun e => h e.2), trL_yes hb, ih]
theorem bl_set (b : UInt8) : ([32, 9] : List UInt8).contains b = isBl b := by
  unfold isBl
  simp only [List.contains, List.elem]
  cases (b == 32) <;> cases (b == 9) <;> rfl
theorem trimS_trF (l : List UInt8) : Lib.trimS l [32, 9] = trF l := by
  unfold Lib.trimS Lib.trimLeftS Lib.trimRightS trF
  rw [← trim_comm]
  unfold trL trR
  have e : (fun x => ([32, 9] : List UInt8).contains x) = isBl := funext bl_set
  rw [e]
theorem trL_suf : ∀ l : List UInt8, ∃ a, l = a ++ trL l
  | [] => ⟨[], rfl⟩
  | b :: r => by
    cases hb : isBl b
    · exact ⟨[], by rw [trL_no hb]; rfl⟩
    · obtain ⟨a, h⟩ := trL_suf r
      exact ⟨b :: a, by rw [trL_yes hb, List.cons_append, ← h]⟩
theorem trR_pre (l : List UInt8) : ∃ a, l = trR l ++ a := by
  obtain ⟨a, h⟩ := trL_suf l.reverse
  refine ⟨a.reverse, ?_⟩
  unfold trR
  show l = (trL l.reverse).reverse ++ a.reverse
  rw [← List.reverse_append, ← h, List.reverse_reverse]
theorem trF_same (l : List UInt8) : (trF l).length = l.length ↔ trF l = l := by
  refine ⟨fun h => ?_, fun h => by rw [h]⟩
  obtain ⟨a, ha⟩ := trL_suf l
  obtain ⟨b, hb⟩ := trR_pre (trL l)
  have h1 := congrArg List.length ha
  have h2 := congrArg List.length hb
  rw [List.length_append] at h1 h2
  have e : (trR (trL l)).length = l.length := h
  obtain rfl := List.eq_nil_of_length_eq_zero (show a.length = 0 by omega)
  obtain rfl := List.eq_nil_of_length_eq_zero (show b.length = 0 by omega)
  show trR (trL l) = l
  rw [List.append_nil] at hb
  rw [← hb]; exact ha.symm

/-- fair, letter by letter -/
theorem frB_hi {b : UInt8} {fd : Bool} (h : 128 ≤ b.toNat) : frB fd b.toNat = true := by
  unfold frB
  have h1 : ((b.toNat : Int) == 127) = false := beq_eq_false_iff_ne.2 (by omega)
  rw [h1, decide_eq_false (by omega)]; rfl
theorem let_low {b : UInt8} {r : List UInt8} (h : b.toNat < 128) : letL (b :: r) = letL r := by
  have hm : moreF (b.toNat : Int) = (0, 0, 0) := by unfold moreF; rw [if_pos (by omega)]
  unfold letL
  rw [letS_go (n := 0) (by rw [hm]; rfl), hm]
theorem fair_low {b : UInt8} {r : List UInt8} {fd : Bool} (h : b.toNat < 128) : fairF fd (b :: r) = (frB fd b.toNat && fairF fd r) := by
  unfold fairF
  rw [let_low h, List.all_cons, Bool.and_assoc]
theorem fair_ltr {l : List UInt8} {n : Nat} {fd : Bool} (h1 : letL l = letL (l.drop (n + 1))) (h2 : ∀ b ∈ l.take (n + 1), 128 ≤ b.toNat) : fairF fd l = fairF fd (l.drop (n + 1)) := by
  unfold fairF
  rw [h1]
  congr 1
  have e : l.all (fun b => frB fd b.toNat) = ((l.take (n + 1)).all (fun b => frB fd b.toNat) && (l.drop (n + 1)).all (fun b => frB fd b.toNat)) := by rw [← List.all_append, List.take_append_drop]
  rw [e, List.all_eq_true.2 fun b hb => frB_hi (h2 b hb), Bool.true_and]
theorem fair_bad {l : List UInt8} {fd : Bool} (h : letL l = false) : fairF fd l = false := by unfold fairF; rw [h]; simp

/-- what is left of a name to be asked -/
def nmR (p : Nat) (l : List UInt8) : Bool := if p = 0 then nameF l else l.all (fun b => nmB b.toNat)
theorem nmR_0 (l : List UInt8) : nmR 0 l = nameF l := rfl
theorem nmR_low0 (b : UInt8) (r : List UInt8) : nmR 0 (b :: r) = (nmB b.toNat && ((b.toNat : Int) != 35 && (b.toNat : Int) != 45) && nmR 1 r) := by
  show (_ && _) = _
  rw [List.all_cons]
  show ((_ && _) && _) = _
  simp only [nmR, hdB, if_neg (show ¬ (1 = 0) by decide)]
  cases nmB b.toNat <;> cases ((b.toNat : Int) != 35 && (b.toNat : Int) != 45) <;> simp
theorem nmR_low {p : Nat} (hp : p ≠ 0) (b : UInt8) (r : List UInt8) (q : Nat) (hq : q ≠ 0) : nmR p (b :: r) = (nmB b.toNat && nmR q r) := by
  simp [nmR, hp, hq]
theorem nmR_hi {p : Nat} {b : UInt8} {r : List UInt8} (h : 128 ≤ b.toNat) : nmR p (b :: r) = false := by
  have hb : nmB b.toNat = false := by unfold nmB; rw [decide_eq_true (show (126 : Int) < b.toNat by omega)]; simp
  unfold nmR nameF
  split <;> simp [hb]

/-- small letters -/
def smB (b : UInt8) : UInt8 := UInt8.ofNat (lowZ b.toNat).toNat
theorem smB_nat (b : UInt8) : ((smB b).toNat : Int) = lowZ b.toNat := by
  have h := b.toNat_lt
  unfold smB lowZ
  split <;> first | (simp; done) | (simp; omega)
def fdL (l : List UInt8) : List UInt8 := l.map smB
theorem fdL_len (l : List UInt8) : (fdL l).length = l.length := by simp [fdL]
theorem smB_inj {a b : UInt8} : smB a = smB b ↔ lowZ a.toNat = lowZ b.toNat := by
  rw [← smB_nat, ← smB_nat]
  constructor
  · intro h; rw [h]
  · intro h; exact UInt8.toNat_inj.1 (by omega)
theorem alk_fd : ∀ (a b : List UInt8), alkF a b = decide (fdL a = fdL b)
  | [], [] => rfl
  | [], y :: t => rfl
  | x :: r, [] => rfl
  | x :: r, y :: t => by
    rw [alkF, alk_fd r t]
    rw [Bool.eq_iff_iff]
    simp only [fdL, List.map_cons, List.cons.injEq, smB_inj, Bool.and_eq_true, beq_iff_eq, decide_eq_true_eq]
    exact ⟨fun h => ⟨h.1, of_decide_eq_true h.2⟩, fun h => ⟨h.1, decide_eq_true h.2⟩⟩

/-- a text, cut at its first line feed -/
theorem at10 : ∀ l : List UInt8, (Lib.indexByte l 10 = -1 ∧ hasN l = false ∧ cutN l = (l, [])) ∨ (∃ k : Nat, Lib.indexByte l 10 = k ∧ k < l.length ∧ hasN l = true ∧ cutN l = (l.take k, l.drop (k + 1)))
  | [] => .inl ⟨rfl, rfl, rfl⟩
  | b :: r => by
    by_cases hb : (b == 10) = true
    · refine .inr ⟨0, ?_, by simp, ?_, ?_⟩
      · rw [Lib.indexByte, if_pos hb]; rfl
      · rw [hasN, hb]; rfl
      · rw [cutN, if_pos hb]; rfl
    · have hb2 : (b == 10) = false := by simpa using hb
      rcases at10 r with ⟨h1, h2, h3⟩ | ⟨k, h1, h2, h3, h4⟩
      · refine .inl ⟨?_, ?_, ?_⟩
        · rw [Lib.indexByte, if_neg hb, h1]; rfl
        · rw [hasN, hb2, h2]; rfl
        · rw [cutN, if_neg hb, h3]
      · refine .inr ⟨k + 1, ?_, by simp; omega, ?_, ?_⟩
        · rw [Lib.indexByte, if_neg hb, h1, if_neg (by first | (simp; done) | (simp; omega))]; rfl
        · rw [hasN, h3]; simp
        · rw [cutN, if_neg hb, h4]; rfl
theorem cutN_no : ∀ (l : List UInt8), ∀ b ∈ (cutN l).1, b ≠ 10
  | [], b, h => by cases h
  | c :: r, b, h => by
    by_cases hc : (c == 10) = true
    · rw [cutN, if_pos hc] at h; cases h
    · rw [cutN, if_neg hc] at h
      rcases List.mem_cons.1 h with rfl | h
      · intro e; subst e; exact hc rfl
      · exact cutN_no r b h
theorem pcs_cut : ∀ (l cur : List UInt8), pcs l cur = (cur ++ (cutN l).1) :: (if hasN l = true then pcs (cutN l).2 [] else [])
  | [], cur => by simp [pcs, cutN, hasN]
  | b :: r, cur => by
    by_cases hb : b = 10
    · subst hb; simp [pcs, cutN, hasN]
    · have hb2 : (b == 10) = false := by simpa using hb
      rw [pcs, if_neg hb, pcs_cut r (cur ++ [b])]
      simp [cutN, hasN, hb2, hb]
theorem pcF_cut (l : List UInt8) : pcF l = (cutN l).1 :: (if hasN l = true then pcF (cutN l).2 else []) := by
  show pcs l [] = _
  rw [pcs_cut]; rfl
theorem cut_len (l : List UInt8) (h : hasN l = true) : (cutN l).2.length < l.length := by
  rcases at10 l with ⟨_, h2, _⟩ | ⟨k, _, h2, _, h4⟩
  · rw [h] at h2; cases h2
  · rw [h4, List.length_drop]; omega
theorem cut_glue (l : List UInt8) : l = (cutN l).1 ++ (if hasN l = true then 10 :: (cutN l).2 else []) := by
  rcases at10 l with ⟨_, h2, h3⟩ | ⟨k, h1, h2, h3, h4⟩
  · rw [h2, h3]; simp
  · rw [h3, h4, if_pos rfl]
    have h5 := (Lib.indexByte_some h1).1
    conv => lhs; rw [← List.take_append_drop k l, List.drop_eq_getElem_cons h2]
    rw [List.getElem?_eq_getElem h2] at h5
    rw [Option.some.inj h5]
theorem letS_app : ∀ (a : List UInt8) (k : Nat) (lo hi : Int) (b : List UInt8), letS k lo hi (a ++ 10 :: b) = (letS k lo hi a && letL b)
  | [], 0, lo, hi, b => by
    show letS 0 lo hi (10 :: b) = (true && letL b)
    rw [letS_any, let_low (by decide)]; rfl
  | [], k + 1, lo, hi, b => by
    show letS (k + 1) lo hi (10 :: b) = (false && letL b)
    rw [letS_no (by intro h; have := h.1.1; revert this; decide)]; rfl
  | c :: a, 0, lo, hi, b => by
    show letS 0 lo hi (c :: (a ++ 10 :: b)) = _
    by_cases h : (moreF c.toNat).1 < 0
    · rw [letS_bad h, letS_bad h]; rfl
    · obtain ⟨n, hn⟩ : ∃ n : Nat, (moreF c.toNat).1 = n := ⟨(moreF c.toNat).1.toNat, by omega⟩
      rw [letS_go hn, letS_go hn, letS_app a]
  | c :: a, k + 1, lo, hi, b => by
    show letS (k + 1) lo hi (c :: (a ++ 10 :: b)) = _
    rw [letS, letS, letS_app a]; simp only [Bool.and_assoc]
theorem fair_no10 {l : List UInt8} (h : ∀ b ∈ l, b ≠ 10) : fairF true l = fairF false l := by
  unfold fairF
  congr 1
  induction l with
  | nil => rfl
  | cons b r ih =>
    rw [List.all_cons, List.all_cons, ih fun x hx => h x (List.mem_cons_of_mem _ hx)]
    congr 1
    unfold frB
    have : ((b.toNat : Int) == 10) = false := beq_eq_false_iff_ne.2 fun e => h b (List.mem_cons_self ..) (UInt8.toNat_inj.1 (show b.toNat = 10 by omega))
    rw [this]; simp
theorem fair_app (a b : List UInt8) : fairF true (a ++ 10 :: b) = (fairF true a && fairF true b) := by
  unfold fairF
  rw [List.all_append, List.all_cons]
  unfold letL
  rw [letS_app]
  have : frB true ((10 : UInt8).toNat : Int) = true := by decide
  rw [this]
  show _ = _
  unfold letL
  cases a.all (fun b => frB true b.toNat) <;> cases letS 0 0 0 a <;> simp
theorem fair_pcs : ∀ (n : Nat) (l : List UInt8), l.length ≤ n → (pcF l).all (fairF false) = fairF true l
  | n, l, hn => by
    rw [pcF_cut, List.all_cons]
    cases h : hasN l
    · have hl : (cutN l).1 = l := by have := cut_glue l; rw [h] at this; simpa using this.symm
      rw [hl, fair_no10 (by rw [← hl]; exact cutN_no l)]; simp
    · have h1 := cut_len l h
      match n, hn with
      | 0, hn => omega
      | n + 1, hn =>
        rw [if_pos rfl, fair_pcs n _ (by omega), ← fair_no10 (cutN_no l), ← fair_app]
        have := cut_glue l
        rw [h, if_pos rfl] at this
        rw [← this]
theorem count_cut (l : List UInt8) : l.count 10 = if hasN l = true then (cutN l).2.count 10 + 1 else 0 := by
  have hg := cut_glue l
  have h0 : (cutN l).1.count 10 = 0 := List.count_eq_zero.2 fun h => cutN_no l _ h rfl
  cases h : hasN l
  · rw [h] at hg
    have e : (cutN l).1 = l := by simpa using hg.symm
    rw [e] at h0
    rw [h0]; rfl
  · rw [h, if_pos rfl] at hg
    conv => lhs; rw [hg]
    rw [List.count_append, h0, List.count_cons]; simp
theorem split_pcs : ∀ (n : Nat) (l : List UInt8), l.length ≤ n → Lib.splitK [10] 0 (l.count 10) l = pcF l
  | n, l, hn => by
    rw [pcF_cut, count_cut]
    cases h : hasN l
    · have hl : (cutN l).1 = l := by have := cut_glue l; rw [h] at this; simpa using this.symm
      rw [hl]; rfl
    · have h1 := cut_len l h
      rcases at10 l with ⟨_, h2, _⟩ | ⟨k, hk, h2, _, h4⟩
      · rw [h] at h2; cases h2
      match n, hn with
      | 0, hn => omega
      | n + 1, hn =>
        rw [if_pos rfl, if_pos rfl, Lib.splitK, Lib.index_one, hk, if_neg (by first | (simp; done) | (simp; omega)), ← split_pcs n _ (by omega)]
        rw [h4]
        rfl
/-- the pieces that strings.Split makes -/
def spB (s : ByteArray) : List ByteArray := Lib.splitB ⟨#[10]⟩ 0 (Lib.countB s ⟨#[10]⟩) s
theorem spB_pc (s : ByteArray) : (spB s).map (·.data.toList) = pcF s.data.toList := by
  unfold spB
  rw [Lib.splitB_data, ← split_pcs s.data.toList.length _ (Nat.le_refl _)]
  show Lib.splitK [10] 0 (Lib.count s.data.toList [10]) _ = _
  rw [Lib.count_one]

/-- a piece that a value may have -/
def pcOk (i : Nat) (p : List UInt8) : Bool := fairF false p && decide (trF p = p) && !(decide (0 < i) && p.isEmpty)
/-- pieces from number i on -/
def pcsOk : Nat → List (List UInt8) → Bool
  | _, [] => true
  | i, p :: r => pcOk i p && pcsOk (i + 1) r
theorem pcsOk_eq : ∀ (i : Nat) (l : List (List UInt8)), pcsOk i l = (allP i l && l.all (fairF false))
  | _, [] => rfl
  | i, p :: r => by
    rw [pcsOk, allP, pcsOk_eq (i + 1) r, List.all_cons]
    unfold pcOk pieceB
    have : ((trF p).length == p.length) = decide (trF p = p) := by
      rw [Bool.eq_iff_iff]
      simp [trF_same]
    rw [this]
    cases fairF false p <;> cases decide (trF p = p) <;> cases (!(decide (0 < i) && p.isEmpty)) <;> simp
theorem valF_ok (l : List UInt8) : valF l = pcsOk 0 (pcF l) := by
  rw [pcsOk_eq, valF, fair_pcs l.length l (Nat.le_refl _)]

end Go.Proofs.YtbeaoekbppdlmaaDoor
