/-
  Versions, in plain words: the parts of a text, and whether it is one: as the program tells it and as the document does. No program here.
-/
import Derived.Lib.Bytealg
import Derived.Lib.LastIndexByte
set_option linter.unusedSimpArgs false
set_option linter.unusedVariables false
namespace Go.Proofs.YtmfcaoacklbkoaaDoor
open Go

def digR (r : Int) : Bool := decide (48 ≤ r) && decide (r ≤ 57)
def letR (r : Int) : Bool := (decide (97 ≤ r) && decide (r ≤ 122)) || (decide (65 ≤ r) && decide (r ≤ 90))
def plnR (r : Int) : Bool := letR r || digR r || r == 43 || r == 46 || r == 126
def upsR (r : Int) : Bool := plnR r || r == 45 || r == 58
theorem digR_hi {r : Int} (h : 128 ≤ r) : digR r = false := by simp [digR]; omega
theorem letR_hi {r : Int} (h : 128 ≤ r) : letR r = false := by simp [letR]; omega
theorem plnR_hi {r : Int} (h : 128 ≤ r) : plnR r = false := by simp [plnR, digR_hi h, letR_hi h]; omega
theorem upsR_hi {r : Int} (h : 128 ≤ r) : upsR r = false := by simp [upsR, plnR_hi h]; omega

/-- how many bytes such runes take at the head -/
def spn (p : Int → Bool) : List UInt8 → Nat
  | [] => 0
  | b :: r => if p b.toNat then spn p r + 1 else 0
theorem spn_yes {p : Int → Bool} {b : UInt8} {r : List UInt8} (h : p b.toNat = true) : spn p (b :: r) = spn p r + 1 := by rw [spn, if_pos h]
theorem spn_no {p : Int → Bool} {b : UInt8} {r : List UInt8} (h : p b.toNat = false) : spn p (b :: r) = 0 := by rw [spn, h]; simp
theorem spn_le (p : Int → Bool) : ∀ l, spn p l ≤ l.length
  | [] => Nat.le_refl _
  | b :: r => by
    have := spn_le p r
    cases h : p b.toNat
    · rw [spn_no h]; exact Nat.zero_le _
    · rw [spn_yes h]; simp; omega
theorem spn_all (p : Int → Bool) : ∀ l, (spn p l = l.length ↔ l.all (fun b => p b.toNat) = true)
  | [] => by simp [spn]
  | b :: r => by
    have ih := spn_all p r
    cases h : p b.toNat
    · rw [spn_no h]; simp [h]
    · rw [spn_yes h]; simp only [List.length_cons, List.all_cons, h, Bool.true_and]; rw [← ih]; omega
theorem spn_zero (p : Int → Bool) (l : List UInt8) : spn p l = 0 ↔ (l = [] ∨ ∃ b r, l = b :: r ∧ p b.toNat = false) := by
  cases l with
  | nil => simp [spn]
  | cons b r =>
    cases h : p b.toNat
    · rw [spn_no h]; simp [h]
    · rw [spn_yes h]; simp [h]
/-- has it runes, and such ones alone -/
def allS (p : Int → Bool) (s : ByteArray) : Bool := !s.data.toList.isEmpty && (spn p s.data.toList == s.data.toList.length)
theorem allS_iff (p : Int → Bool) (s : ByteArray) : allS p s = (!s.data.toList.isEmpty && s.data.toList.all (fun b => p b.toNat)) := by
  unfold allS
  cases h : s.data.toList.all (fun b => p b.toNat)
  · have : ¬ spn p s.data.toList = s.data.toList.length := fun e => by rw [(spn_all p _).1 e] at h; cases h
    rw [beq_eq_false_iff_ne.2 this]
  · rw [(spn_all p _).2 h]; simp

/-- where the first colon stands -/
def iC (s : ByteArray) : Int := Lib.indexByte s.data.toList 58
def epS (s : ByteArray) : ByteArray := if iC s < 0 then ⟨#[]⟩ else s.extract 0 (iC s).toNat
def taS (s : ByteArray) : ByteArray := if iC s < 0 then s else s.extract ((iC s).toNat + 1) s.size
/-- where the last minus stands -/
def iM (u : ByteArray) : Int := Lib.lastIndexByte u 45
def upS (u : ByteArray) : ByteArray := if iM u < 0 then u else u.extract 0 (iM u).toNat
def reS (u : ByteArray) : ByteArray := if iM u < 0 then ⟨#[]⟩ else u.extract ((iM u).toNat + 1) u.size

/-- is it a version, as the program tells it -/
def okS (s : ByteArray) : Bool := (decide (iC s < 0) || allS digR (epS s)) && ((decide (iM (taS s) < 0) || allS plnR (reS (taS s))) && (spn digR (upS (taS s)).data.toList != 0 && allS upsR (upS (taS s))))

/-- what may stand in an upstream part, as the document says it -/
def upD (C : Bool) (r : Int) : Bool := letR r || digR r || r == 46 || r == 43 || r == 45 || r == 126 || (r == 58 && C)
def reD (r : Int) : Bool := letR r || digR r || r == 46 || r == 43 || r == 126
def h0B (s : ByteArray) : Bool := match s.data.toList with | [] => false | b :: _ => digR b.toNat
def dOk (C M : Bool) (E U R : ByteArray) : Bool := !((C && E.data.toList.isEmpty) || (M && R.data.toList.isEmpty) || U.data.toList.isEmpty || !h0B U) && (E.data.toList.all (fun b => digR b.toNat) && (U.data.toList.all (fun b => upD C b.toNat) && R.data.toList.all (fun b => reD b.toNat)))

theorem reD_eq (r : Int) : reD r = plnR r := by
  unfold reD plnR
  cases letR r <;> cases digR r <;> cases r == 46 <;> cases r == 43 <;> cases r == 126 <;> rfl
theorem upD_true (r : Int) : upD true r = upsR r := by
  unfold upD upsR plnR
  cases letR r <;> cases digR r <;> cases r == 46 <;> cases r == 43 <;> cases r == 126 <;> cases r == 45 <;> cases r == 58 <;> rfl
theorem upD_false {r : Int} (h : r ≠ 58) : upD false r = upsR r := by
  have : (r == 58) = false := by simpa using h
  unfold upD upsR plnR
  rw [this]
  cases letR r <;> cases digR r <;> cases r == 46 <;> cases r == 43 <;> cases r == 126 <;> cases r == 45 <;> rfl

theorem vx_none {c : UInt8} : ∀ {l : List UInt8}, Lib.indexByte l c < 0 → ∀ b ∈ l, b ≠ c
  | [], _, b, hb => by cases hb
  | x :: r, h, b, hb => by
    unfold Lib.indexByte at h
    cases hx : x == c
    · rw [hx] at h
      have hr : Lib.indexByte r c < 0 := by
        have := Lib.indexByte_ge r c
        cases h2 : Lib.indexByte r c == -1
        · rw [h2] at h; simp at h; omega
        · have := eq_of_beq h2; omega
      rcases List.mem_cons.1 hb with rfl | hb
      · exact fun e => by rw [e] at hx; simp at hx
      · exact vx_none hr b hb
    · rw [hx] at h; simp at h
theorem mem_up {s : ByteArray} {b : UInt8} (hb : b ∈ (upS s).data.toList) : b ∈ s.data.toList := by
  unfold upS at hb
  split at hb
  · exact hb
  · rw [ByteArray.data_extract, Array.toList_extract, List.extract_eq_take_drop] at hb
    exact List.mem_of_mem_drop (List.mem_of_mem_take hb)
theorem all_cong {p q : UInt8 → Bool} : ∀ {l : List UInt8}, (∀ b ∈ l, p b = q b) → l.all p = l.all q
  | [], _ => rfl
  | b :: r, h => by rw [List.all_cons, List.all_cons, h b (List.mem_cons_self ..), all_cong fun x hx => h x (List.mem_cons_of_mem _ hx)]

/-- both tell the same -/
theorem ok_eq (s : ByteArray) : dOk (decide (0 ≤ iC s)) (decide (0 ≤ iM (taS s))) (epS s) (upS (taS s)) (reS (taS s)) = okS s := by
  have hU : (upS (taS s)).data.toList.all (fun b => upD (decide (0 ≤ iC s)) b.toNat) = (upS (taS s)).data.toList.all (fun b => upsR b.toNat) := by
    refine all_cong fun b hb => ?_
    by_cases hc : 0 ≤ iC s
    · rw [decide_eq_true hc]; exact upD_true _
    · rw [decide_eq_false hc]
      refine upD_false fun e => ?_
      have h1 : b ∈ s.data.toList := by
        have := mem_up hb
        rwa [taS, if_pos (by omega)] at this
      refine vx_none (c := 58) (by show iC s < 0; omega) b h1 (UInt8.toNat_inj.1 ?_)
      have : (b.toNat : Int) = 58 := e
      show b.toNat = 58
      omega
  have hR : (reS (taS s)).data.toList.all (fun b => reD b.toNat) = (reS (taS s)).data.toList.all (fun b => plnR b.toNat) := all_cong fun b _ => reD_eq _
  have hs : (spn digR (upS (taS s)).data.toList != 0) = (!(upS (taS s)).data.toList.isEmpty && h0B (upS (taS s))) := by
    unfold h0B
    cases hu : (upS (taS s)).data.toList with
    | nil => rfl
    | cons b r =>
      show (spn digR (b :: r) != 0) = (true && digR b.toNat)
      cases hd : digR b.toNat
      · rw [spn_no hd]; rfl
      · rw [spn_yes hd]; simp
  unfold dOk okS
  rw [hU, hR, hs, allS_iff, allS_iff, allS_iff]
  have hE : iC s < 0 → (epS s).data.toList = [] := fun h => by rw [epS, if_pos h]
  have hRe : iM (taS s) < 0 → (reS (taS s)).data.toList = [] := fun h => by rw [reS, if_pos h]
  generalize (upS (taS s)).data.toList.all (fun b => upsR b.toNat) = bu
  generalize (upS (taS s)).data.toList.isEmpty = eu
  generalize h0B (upS (taS s)) = hu
  by_cases hc : iC s < 0 <;> by_cases hm : iM (taS s) < 0
  · rw [hE hc, hRe hm, decide_eq_true hc, decide_eq_true hm, decide_eq_false (by omega), decide_eq_false (by omega)]
    cases bu <;> cases eu <;> cases hu <;> rfl
  · rw [hE hc, decide_eq_true hc, decide_eq_false hm, decide_eq_false (show ¬ 0 ≤ iC s by omega), decide_eq_true (show 0 ≤ iM (taS s) by omega)]
    generalize (reS (taS s)).data.toList.all (fun b => plnR b.toNat) = br
    generalize (reS (taS s)).data.toList.isEmpty = er
    cases bu <;> cases eu <;> cases hu <;> cases br <;> cases er <;> rfl
  · rw [hRe hm, decide_eq_false hc, decide_eq_true hm, decide_eq_true (show 0 ≤ iC s by omega), decide_eq_false (show ¬ 0 ≤ iM (taS s) by omega)]
    generalize (epS s).data.toList.all (fun b => digR b.toNat) = be
    generalize (epS s).data.toList.isEmpty = ee
    cases bu <;> cases eu <;> cases hu <;> cases be <;> cases ee <;> rfl
  · rw [decide_eq_false hc, decide_eq_false hm, decide_eq_true (show 0 ≤ iC s by omega), decide_eq_true (show 0 ≤ iM (taS s) by omega)]
    generalize (reS (taS s)).data.toList.all (fun b => plnR b.toNat) = br
    generalize (reS (taS s)).data.toList.isEmpty = er
    generalize (epS s).data.toList.all (fun b => digR b.toNat) = be
    generalize (epS s).data.toList.isEmpty = ee
    cases bu <;> cases eu <;> cases hu <;> cases be <;> cases ee <;> cases br <;> cases er <;> rfl

/-- where a byte is found first, from a place on -/
def shI (k : Nat) (x : Int) : Int := if x = -1 then -1 else x + k
theorem shI_zero (x : Int) : shI 0 x = x := by unfold shI; split <;> omega
theorem shI_step {k : Nat} {b c : UInt8} {r : List UInt8} (h : b ≠ c) : shI k (Lib.indexByte (b :: r) c) = shI (k + 1) (Lib.indexByte r c) := by
  have hb : (b == c) = false := by simpa using h
  have := Lib.indexByte_ge r c
  unfold shI
  rw [Lib.indexByte, hb]
  by_cases h1 : Lib.indexByte r c = -1
  · simp [h1]
  · have h2 : (Lib.indexByte r c == -1) = false := by simpa using h1
    rw [h2]
    simp [h1]; omega
theorem shI_here {k : Nat} {b : UInt8} {r : List UInt8} : shI k (Lib.indexByte (b :: r) b) = k := by
  unfold shI; rw [Lib.indexByte]; simp
theorem shI_nil {k : Nat} {c : UInt8} : shI k (Lib.indexByte [] c) = -1 := by unfold shI; simp [Lib.indexByte]
theorem vx_lt {c : UInt8} : ∀ l : List UInt8, Lib.indexByte l c < l.length
  | [] => by simp [Lib.indexByte]
  | b :: r => by
    have := vx_lt (c := c) r
    unfold Lib.indexByte
    split
    · simp
    · split
      · simp; omega
      · simp; omega
theorem lIdx_lt (s : ByteArray) (c : Int) : ∀ k : Nat, Lib.lastIdx s c k < k ∧ -1 ≤ Lib.lastIdx s c k
  | 0 => by simp [Lib.lastIdx]
  | k + 1 => by
    have := lIdx_lt s c k
    unfold Lib.lastIdx
    split
    · omega
    · omega
theorem iC_le (s : ByteArray) : -1 ≤ iC s ∧ iC s < s.size := by
  have h1 := Lib.indexByte_ge s.data.toList 58
  have h2 := vx_lt (c := 58) s.data.toList
  have h3 : s.data.toList.length = s.size := by cases s; simp [ByteArray.size]
  unfold iC
  omega
theorem iM_le (s : ByteArray) : -1 ≤ iM s ∧ iM s < s.size := by
  have := lIdx_lt s 45 s.size
  unfold iM Lib.lastIndexByte
  omega
theorem size20 (s : ByteArray) : s.data.toList.length = s.size := by cases s; simp [ByteArray.size]
theorem drop20 {s : ByteArray} {p : Nat} (h : p < s.size) : s.data.toList.drop p = s[p] :: s.data.toList.drop (p + 1) := by
  have hl : p < s.data.toList.length := by rw [size20]; exact h
  rw [List.drop_eq_getElem_cons hl]; simp [ByteArray.getElem_eq_getElem_data]

end Go.Proofs.YtmfcaoacklbkoaaDoor
