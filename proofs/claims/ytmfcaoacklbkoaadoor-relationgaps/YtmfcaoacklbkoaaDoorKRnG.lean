/-
  Texts with the same pieces are read as the same (pure).
  KEEP: off c0 c1 c2 c3 c4 s0 s1 s2 s3 s4 newS rds lt f t q x len below nil form rd mono on one more out
-/
import Derived.Test.YtmfcaoacklbkoaaDoorKRnQ
set_option linter.unusedSimpArgs false
set_option linter.unusedVariables false
namespace Go.Proofs.YtmfcaoacklbkoaaDoor
open Go Go.RowKit

/-- the word that is being read is done -/
def flC (cur : List UInt8) : List (List UInt8) := if cur = [] then [] else [cur]
/-- the pieces of a text: words, and bytes that are neither word nor gap -/
def tkA : List UInt8 → List UInt8 → List (List UInt8)
  | cur, [] => flC cur
  | cur, b :: r => if gapZ b.toNat = true then flC cur ++ tkA [] r else if wrdZ b.toNat = true then tkA (cur ++ [b]) r else flC cur ++ [b] :: tkA [] r
theorem tk_gap {cur r : List UInt8} {b : UInt8} (h : gapZ b.toNat = true) : tkA cur (b :: r) = flC cur ++ tkA [] r := by rw [tkA, if_pos h]
theorem tk_word {cur r : List UInt8} {b : UInt8} (h : wrdZ b.toNat = true) : tkA cur (b :: r) = tkA (cur ++ [b]) r := by rw [tkA, if_neg (by rw [gap_of_wrd h]; simp), if_pos h]
theorem tk_sign {cur r : List UInt8} {b : UInt8} (h : wrdZ b.toNat = false) (h2 : gapZ b.toNat = false) : tkA cur (b :: r) = flC cur ++ [b] :: tkA [] r := by rw [tkA, if_neg (by rw [h2]; simp), if_neg (by rw [h]; simp)]
theorem tk_words : ∀ (X cur R : List UInt8), (∀ b ∈ X, wrdZ b.toNat = true) → tkA cur (X ++ R) = tkA (cur ++ X) R
  | [], cur, R, h => by simp
  | b :: r, cur, R, h => by
    rw [List.cons_append, tk_word (h b (List.mem_cons_self ..)), tk_words r _ R fun x hx => h x (List.mem_cons_of_mem _ hx)]
    simp
theorem tk_stop {cur R : List UInt8} (h : R = [] ∨ ∃ b r, R = b :: r ∧ wrdZ b.toNat = false) : tkA cur R = flC cur ++ tkA [] R := by
  rcases h with rfl | ⟨b, r, rfl, hb⟩
  · show flC cur = flC cur ++ flC []
    simp [flC]
  · cases hg : gapZ b.toNat
    · rw [tk_sign hb hg, tk_sign hb hg]; simp [flC]
    · rw [tk_gap hg, tk_gap hg]; simp [flC]
theorem tk_skip : ∀ L : List UInt8, tkA [] L = tkA [] (L.drop (spn gapZ L))
  | [] => rfl
  | b :: r => by
    cases hg : gapZ b.toNat
    · rw [spn_no hg]; rfl
    · rw [spn_yes hg, tk_gap hg, tk_skip r]; rfl
/-- the pieces from a place on -/
def Tk (s : ByteArray) (k : Nat) : List (List UInt8) := tkA [] (s.data.toList.drop k)
theorem spn_take (p : Int → Bool) : ∀ L : List UInt8, (∀ b ∈ L.take (spn p L), p b.toNat = true) ∧ (L.drop (spn p L) = [] ∨ ∃ b r, L.drop (spn p L) = b :: r ∧ p b.toNat = false)
  | [] => ⟨fun b hb => (by cases hb), .inl rfl⟩
  | b :: r => by
    cases h : p b.toNat
    · rw [spn_no h]
      exact ⟨fun b hb => (by cases hb), .inr ⟨b, r, rfl, h⟩⟩
    · rw [spn_yes h]
      obtain ⟨h1, h2⟩ := spn_take p r
      refine ⟨fun x hx => ?_, h2⟩
      rw [List.take_succ_cons] at hx
      rcases List.mem_cons.1 hx with rfl | hx
      · exact h
      · exact h1 x hx
theorem run_drop {s : ByteArray} {k : Nat} (p : Int → Bool) : s.data.toList.drop (runF p s.data.toList k) = (s.data.toList.drop k).drop (spn p (s.data.toList.drop k)) := by
  unfold runF
  rw [List.drop_drop]
theorem run_ext {s : ByteArray} {k : Nat} (p : Int → Bool) : (s.extract k (runF p s.data.toList k)).data.toList = (s.data.toList.drop k).take (spn p (s.data.toList.drop k)) := by
  rw [ext_l22]
  unfold runF
  rw [Nat.add_sub_cancel_left]
theorem tk_run_word (s : ByteArray) (k : Nat) : Tk s k = flC (s.extract k (runF wrdZ s.data.toList k)).data.toList ++ Tk s (runF wrdZ s.data.toList k) := by
  unfold Tk
  rw [run_ext, run_drop]
  obtain ⟨h1, h2⟩ := spn_take wrdZ (s.data.toList.drop k)
  rw [← tk_stop h2, ← List.nil_append (List.take _ _), ← tk_words _ _ _ h1, List.take_append_drop]
theorem tk_run_gap (s : ByteArray) (k : Nat) : Tk s k = Tk s (runF gapZ s.data.toList k) := by
  unfold Tk
  rw [run_drop]
  exact tk_skip _
theorem ext_list_len {s : ByteArray} {a b : Nat} (h1 : a ≤ b) (h2 : b ≤ s.size) : (s.extract a b).data.toList.length = b - a := by rw [size20, ByteArray.size_extract]; omega
/-- what stands at a place that is no gap -/
theorem tk_here {s : ByteArray} {a : Nat} (ha : a ≤ s.size) (hg : runF gapZ s.data.toList a = a) :
    (a = s.size ∧ Tk s a = []) ∨ (∃ h : a < s.size, (wrdZ ((s[a]'h).toNat : Int) = true ∧ a < runF wrdZ s.data.toList a ∧ Tk s a = (s.extract a (runF wrdZ s.data.toList a)).data.toList :: Tk s (runF wrdZ s.data.toList a)) ∨ (wrdZ ((s[a]'h).toNat : Int) = false ∧ runF wrdZ s.data.toList a = a ∧ Tk s a = [s[a]'h] :: Tk s (a + 1))) := by
  by_cases h : a < s.size
  · right
    refine ⟨h, ?_⟩
    have hng : gapZ ((s[a]'h).toNat : Int) = false := by
      cases hb : gapZ ((s[a]'h).toNat : Int)
      · rfl
      · rw [runF_yes h hb] at hg
        have := runF_ge gapZ s.data.toList (a + 1)
        omega
    cases hw : wrdZ ((s[a]'h).toNat : Int)
    · right
      refine ⟨rfl, runF_no h hw, ?_⟩
      unfold Tk
      rw [drop20 h, tk_sign hw hng]
      rfl
    · left
      have h1 : runF wrdZ s.data.toList a = runF wrdZ s.data.toList (a + 1) := runF_yes h hw
      have h2 := runF_ge wrdZ s.data.toList (a + 1)
      have h3 := runF_le22 wrdZ s ha
      refine ⟨rfl, by omega, ?_⟩
      have hl := ext_list_len (s := s) (a := a) (b := runF wrdZ s.data.toList a) (by omega) h3
      rw [tk_run_word s a, flC, if_neg (fun e => by rw [e] at hl; simp at hl; omega)]
      rfl
  · left
    have e : a = s.size := by omega
    refine ⟨e, ?_⟩
    unfold Tk
    rw [List.drop_eq_nil_of_le (by rw [size20]; omega)]
    rfl
theorem hd_sign {s : ByteArray} {a : Nat} (z : UInt8) (hz : wrdZ z.toNat = false) (ha : a ≤ s.size) (hg : runF gapZ s.data.toList a = a) :
    ((Tk s a).head? = some [z] ↔ atB s a = z.toNat) ∧ ((Tk s a).head? = some [z] → (Tk s a).tail = Tk s (a + 1)) := by
  rcases tk_here ha hg with ⟨e, h1⟩ | ⟨h, ⟨hw, hlt, h1⟩ | ⟨hw, hr, h1⟩⟩
  · rw [h1, atB_out (by omega)]
    exact ⟨⟨fun h => (by cases h), fun h => (by omega)⟩, fun h => (by cases h)⟩
  · rw [h1, atB_in h]
    have key : ¬ some (s.extract a (runF wrdZ s.data.toList a)).data.toList = some [z] := by
      intro e
      injection e with e
      have hm := (spn_take wrdZ (s.data.toList.drop a)).1
      rw [← run_ext] at hm
      rw [e] at hm
      have := hm z (List.mem_cons_self ..)
      rw [hz] at this; cases this
    refine ⟨⟨fun e => absurd e key, fun e => ?_⟩, fun e => absurd e key⟩
    rw [e, hz] at hw; cases hw
  · rw [h1, atB_in h]
    refine ⟨⟨fun e => ?_, fun e => ?_⟩, fun _ => rfl⟩
    · injection e with e; injection e with e; rw [e]
    · have : s[a]'h = z := UInt8.toNat_inj.1 (by omega)
      rw [this]; rfl

/-- one relation of pieces, from the version on; from the operator on; whole -/
def vsT (n : List UInt8) (o : Int) (v : List UInt8) (t : List (List UInt8)) : Option (Rl × List (List UInt8)) :=
  if okS ⟨v.toArray⟩ = false then none else if t.head? = some [41] then some ((⟨n.toArray⟩, o, ⟨v.toArray⟩), t.tail) else none
def opT (n : List UInt8) (t : List (List UInt8)) : Option (Rl × List (List UInt8)) :=
  match t with
  | [] => none
  | x :: t3 =>
    if opF ⟨(x.take (spn sgnZ x)).toArray⟩ = 0 then none
    else if x.drop (spn sgnZ x) = [] then (match t3 with | [] => none | v :: t4 => vsT n (opF ⟨(x.take (spn sgnZ x)).toArray⟩) v t4)
    else vsT n (opF ⟨(x.take (spn sgnZ x)).toArray⟩) (x.drop (spn sgnZ x)) t3
def oneT (t : List (List UInt8)) : Option (Rl × List (List UInt8)) :=
  match t with
  | [] => none
  | n :: t1 => if rnmF n = false then none else if t1.head? = some [40] then opT n t1.tail else some ((⟨n.toArray⟩, 0, ⟨#[]⟩), t1)
def onT (s : ByteArray) (r : On1) : Option (Rl × List (List UInt8)) := if r.e = 0 then some (rlO r, Tk s r.k) else none
theorem onT_no {s : ByteArray} {e : Int} {k : Nat} (h : e ≠ 0) : onT s (noR e k) = none := if_neg h
theorem ba_l (x : ByteArray) : (⟨x.data.toList.toArray⟩ : ByteArray) = x := by cases x; rfl
theorem vs_tk {s : ByteArray} {n : ByteArray} {o : Int} {v : ByteArray} {f : Nat} (hf : f ≤ s.size) :
    vsT n.data.toList o v.data.toList (Tk s f) = onT s (if okS v = false then noR 200 f else onD s n o v (runF gapZ s.data.toList f)) := by
  unfold vsT
  rw [ba_l, ba_l]
  by_cases hk : okS v = false
  · rw [if_pos hk, if_pos hk]
    exact (onT_no (by decide)).symm
  · rw [if_neg hk, if_neg hk, tk_run_gap s f]
    have hg := runF_le22 gapZ s hf
    have h1 := hd_sign (s := s) (a := runF gapZ s.data.toList f) 41 (by rfl) hg (runF_stop2 hf)
    unfold onD
    by_cases h41 : atB s (runF gapZ s.data.toList f) = 41
    · have h2 := h1.1.2 h41
      rw [if_pos h2, if_pos h41, h1.2 h2, tk_run_gap s (runF gapZ s.data.toList f + 1)]
      rfl
    · rw [if_neg (fun e => h41 (h1.1.1 e)), if_neg h41]
      exact (onT_no (by decide)).symm
theorem spn_len {p : Int → Bool} {s : ByteArray} {k : Nat} : runF p s.data.toList k - k = spn p (s.data.toList.drop k) := by unfold runF; omega
theorem sgn_wrd {z : Int} (h : sgnZ z = true) : wrdZ z = true := by
  unfold sgnZ at h
  unfold wrdZ gapZ
  simp at h ⊢
  omega
theorem spn_sub {p q : Int → Bool} (h : ∀ z, p z = true → q z = true) : ∀ L : List UInt8, spn p L ≤ spn q L ∧ spn p (L.take (spn q L)) = spn p L ∧ spn q (L.drop (spn p L)) = spn q L - spn p L
  | [] => ⟨Nat.le_refl _, rfl, rfl⟩
  | b :: r => by
    obtain ⟨h1, h2, h3⟩ := spn_sub h r
    cases hq : q b.toNat
    · have hp : p b.toNat = false := by cases hp : p b.toNat; rfl; rw [h _ hp] at hq; cases hq
      rw [spn_no hp, spn_no hq]
      exact ⟨Nat.le_refl _, rfl, by show spn q (b :: r) = 0; exact spn_no hq⟩
    · rw [spn_yes hq]
      cases hp : p b.toNat
      · rw [spn_no hp]
        exact ⟨Nat.zero_le _, by rw [List.take_succ_cons]; exact spn_no hp, by show spn q (b :: r) = _; rw [spn_yes hq]; rfl⟩
      · rw [spn_yes hp]
        refine ⟨by omega, by rw [List.take_succ_cons, spn_yes hp, h2], ?_⟩
        rw [List.drop_succ_cons, h3]; omega
theorem ext_nil (s : ByteArray) (b : Nat) : s.extract b b = ⟨#[]⟩ := by
  have h : (s.extract b b).data.toList = [] := by rw [ext_l22]; simp
  rw [← ba_l (s.extract b b), h]
theorem op_tk {s : ByteArray} {n : ByteArray} {b : Nat} (hb : b ≤ s.size) (hg : runF gapZ s.data.toList b = b) : opT n.data.toList (Tk s b) = onT s (onB s n b) := by
  have hop0 : opF ⟨#[]⟩ = 0 := by decide
  have hsub := spn_sub (p := sgnZ) (q := wrdZ) (fun z => sgn_wrd) (s.data.toList.drop b)
  have hcb := runF_ge sgnZ s.data.toList b
  have hcs := runF_le22 sgnZ s hb
  rcases tk_here hb hg with ⟨e, h1⟩ | ⟨h, ⟨hw, hlt, h1⟩ | ⟨hw, hr, h1⟩⟩
  · have hc : runF sgnZ s.data.toList b = b := by omega
    rw [h1]
    unfold onB
    simp only [hc]
    rw [ext_nil s b, if_pos hop0]
    exact (onT_no (by decide)).symm
  · rw [h1]
    have hws := runF_le22 wrdZ s hb
    have hx : (s.extract b (runF wrdZ s.data.toList b)).data.toList = (s.data.toList.drop b).take (spn wrdZ (s.data.toList.drop b)) := run_ext wrdZ
    have hS : (s.extract b (runF sgnZ s.data.toList b)).data.toList = (s.data.toList.drop b).take (spn sgnZ (s.data.toList.drop b)) := run_ext sgnZ
    have hsx : spn sgnZ (s.extract b (runF wrdZ s.data.toList b)).data.toList = spn sgnZ (s.data.toList.drop b) := by rw [hx]; exact hsub.2.1
    have htk : (s.extract b (runF wrdZ s.data.toList b)).data.toList.take (spn sgnZ (s.data.toList.drop b)) = (s.extract b (runF sgnZ s.data.toList b)).data.toList := by
      rw [hx, hS, List.take_take, Nat.min_eq_left hsub.1]
    have hyd : (s.extract b (runF wrdZ s.data.toList b)).data.toList.drop (spn sgnZ (s.data.toList.drop b)) = (s.extract (runF sgnZ s.data.toList b) (runF wrdZ s.data.toList b)).data.toList := by
      rw [ext_l22, ext_l22, List.drop_take]
      have e1 : s.data.toList.drop (runF sgnZ s.data.toList b) = (s.data.toList.drop b).drop (spn sgnZ (s.data.toList.drop b)) := run_drop sgnZ
      rw [e1]
      congr 1
      have := spn_len (p := sgnZ) (s := s) (k := b)
      omega
    unfold opT
    simp only [hsx, htk, hyd, ba_l]
    unfold onB
    simp only []
    by_cases h0 : opF (s.extract b (runF sgnZ s.data.toList b)) = 0
    · rw [if_pos h0, if_pos h0]
      exact (onT_no (by decide)).symm
    · rw [if_neg h0, if_neg h0]
      have hcw : runF sgnZ s.data.toList b ≤ runF wrdZ s.data.toList b := by unfold runF; omega
      generalize opF (s.extract b (runF sgnZ s.data.toList b)) = o at *
      have hyl := ext_list_len (s := s) hcw hws
      by_cases hce : runF sgnZ s.data.toList b = runF wrdZ s.data.toList b
      · rw [if_pos (List.length_eq_zero_iff.1 (by omega)), ← hce]
        generalize runF sgnZ s.data.toList b = c at *
        unfold onC
        simp only []
        rw [tk_run_gap s c]
        have hds := runF_le22 gapZ s hcs
        have hgd := runF_stop2 (p := gapZ) hcs
        generalize runF gapZ s.data.toList c = d at *
        rcases tk_here hds hgd with ⟨e, h2⟩ | ⟨h', ⟨hw', hlt', h2⟩ | ⟨hw', hr', h2⟩⟩
        · have hf : runF wrdZ s.data.toList d = d := by
            have := runF_ge wrdZ s.data.toList d
            have := runF_le22 wrdZ s hds
            omega
          rw [h2, if_pos hf]
          exact (onT_no (by decide)).symm
        · rw [h2, if_neg (by omega)]
          simp only []
          have hfs := runF_le22 wrdZ s hds
          rw [vs_tk hfs]
          by_cases hk : okS (s.extract d (runF wrdZ s.data.toList d)) = false
          · rw [if_pos hk, if_pos hk, onT_no (by decide), onT_no (by decide)]
          · rw [if_neg hk, if_neg hk]
        · rw [h2, if_pos hr']
          have hk : okS ⟨[s[d]'h'].toArray⟩ = false := by
            cases hk : okS ⟨[s[d]'h'].toArray⟩
            · rfl
            · have := (ok_wrd hk).2 (s[d]'h') (by simp)
              rw [this] at hw'; cases hw'
          simp only []
          unfold vsT
          rw [if_pos hk]
          exact (onT_no (by decide)).symm
      · rw [if_neg (fun e => hce (by rw [e] at hyl; simp at hyl; omega))]
        have hf : runF wrdZ s.data.toList (runF sgnZ s.data.toList b) = runF wrdZ s.data.toList b := by
          have e1 : s.data.toList.drop (runF sgnZ s.data.toList b) = (s.data.toList.drop b).drop (spn sgnZ (s.data.toList.drop b)) := run_drop sgnZ
          have e2 : runF wrdZ s.data.toList (runF sgnZ s.data.toList b) = runF sgnZ s.data.toList b + spn wrdZ (s.data.toList.drop (runF sgnZ s.data.toList b)) := rfl
          rw [e2, e1, hsub.2.2]
          unfold runF
          omega
        have hd : runF gapZ s.data.toList (runF sgnZ s.data.toList b) = runF sgnZ s.data.toList b := by
          have hlt2 : runF sgnZ s.data.toList b < s.size := by omega
          refine runF_no hlt2 (gap_of_wrd ?_)
          cases hb : wrdZ ((s[runF sgnZ s.data.toList b]'hlt2).toNat : Int)
          · rw [runF_no hlt2 hb] at hf; omega
          · rfl
        generalize hcd : runF sgnZ s.data.toList b = c at *
        generalize runF wrdZ s.data.toList b = e at *
        unfold onC
        simp only [hd, hf]
        rw [if_neg (by omega), vs_tk hws]
        by_cases hk : okS (s.extract c e) = false
        · rw [if_pos hk, if_pos hk, onT_no (by decide), onT_no (by decide)]
        · rw [if_neg hk, if_neg hk]
  · have hc : runF sgnZ s.data.toList b = b := by
      have := hsub.1
      have e2 : spn wrdZ (s.data.toList.drop b) = 0 := by have := spn_len (p := wrdZ) (s := s) (k := b); omega
      unfold runF; omega
    rw [h1]
    have hs0 : spn sgnZ [s[b]'h] = 0 := by
      refine spn_no ?_
      cases hs : sgnZ ((s[b]'h).toNat : Int)
      · rfl
      · rw [sgn_wrd hs] at hw; cases hw
    unfold onB opT
    simp only [hc]
    rw [ext_nil s b, if_pos hop0, hs0, if_pos (show opF ⟨(List.take 0 [s[b]'h]).toArray⟩ = 0 from hop0)]
    exact (onT_no (by decide)).symm
theorem one_tk {s : ByteArray} {k : Nat} (hk : k ≤ s.size) (hg : runF gapZ s.data.toList k = k) : oneT (Tk s k) = onT s (oneF s k) := by
  have hts := runF_le22 wrdZ s hk
  have htk := runF_ge wrdZ s.data.toList k
  rcases tk_here hk hg with ⟨e, h1⟩ | ⟨h, ⟨hw, hlt, h1⟩ | ⟨hw, hr, h1⟩⟩
  · rw [h1]
    unfold oneF
    simp only []
    rw [if_pos (by omega)]
    exact (onT_no (by decide)).symm
  · rw [h1]
    unfold oneT oneF
    simp only []
    rw [if_neg (show ¬ runF wrdZ s.data.toList k = k by omega)]
    by_cases hn : rnmF (s.extract k (runF wrdZ s.data.toList k)).data.toList = false
    · rw [if_pos hn, if_pos hn]
      exact (onT_no (by decide)).symm
    · rw [if_neg hn, if_neg hn, tk_run_gap s (runF wrdZ s.data.toList k)]
      have has := runF_le22 gapZ s hts
      have h2 := hd_sign (s := s) (a := runF gapZ s.data.toList (runF wrdZ s.data.toList k)) 40 (by rfl) has (runF_stop2 hts)
      unfold onA
      by_cases h40 : atB s (runF gapZ s.data.toList (runF wrdZ s.data.toList k)) = 40
      · have h3 := h2.1.2 h40
        have hlt2 := at_lt22 (by decide) h40
        rw [if_pos h3, if_pos h40, h2.2 h3, tk_run_gap s (runF gapZ s.data.toList (runF wrdZ s.data.toList k) + 1)]
        exact op_tk (runF_le22 gapZ s hlt2) (runF_stop2 hlt2)
      · rw [if_neg (fun e => h40 (h2.1.1 e)), if_neg h40]
        unfold onT
        rw [if_pos rfl, ba_l]
        rfl
  · rw [h1]
    unfold oneT oneF
    simp only []
    rw [if_pos hr, if_pos (by unfold rnmF; rfl)]
    exact (onT_no (by decide)).symm

end Go.Proofs.YtmfcaoacklbkoaaDoor
