/-
  What Write writes of stanzas that are formed is read as the same, but for lines (pure).
  KEEP: below len form out each rd mono nil own row set on app start grown at new one more take none some kept cell refl trans size map made look put blw get step next box lt Ap old weak
-/
import Derived.Test.YtbeaoekbppdlmaaDoorJCvF
import Derived.Test.YtbeaoekbppdlmaaDoorKCtW
import Derived.Test.YtbeaoekbppdlmaaDoorKSmA
import Derived.Test.YtbeaoekbppdlmaaDoorKWtN
set_option linter.unusedSimpArgs false
set_option linter.unusedVariables false
namespace Go.Proofs.YtbeaoekbppdlmaaDoor
open Go Go.RowKit

/-- the lines of a field, of stanzas -/
def fldLn (f : Fld) : List (List UInt8) := (f.1 ++ 58 :: hdT ((pcF f.2).getD 0 [])) :: ((pcF f.2).drop 1).map (fun p => 32 :: p)
def stLn (fs : List Fld) : List (List UInt8) := fs.flatMap fldLn
def wrT (l : List Stz) : List (List UInt8) := l.flatMap (fun s => [] :: stLn s.2)
def wrLn : List Stz → List (List UInt8)
  | [] => []
  | s :: r => stLn s.2 ++ wrT r
def txt (ls : List (List UInt8)) : List UInt8 := ls.flatMap (fun l => l ++ [10])
theorem txt_app (a b : List (List UInt8)) : txt (a ++ b) = txt a ++ txt b := by simp [txt]
theorem lns_line : ∀ (l cur r : List UInt8), (∀ b ∈ l, b ≠ 10) → lnsF (l ++ 10 :: r) cur = (cur ++ l) :: lnsF r []
  | [], cur, r, h => by rw [List.nil_append, lnsF, if_pos rfl, List.append_nil]
  | b :: l, cur, r, h => by
    rw [List.cons_append, lnsF, if_neg (h b (List.mem_cons_self ..)), lns_line l (cur ++ [b]) r (fun x hx => h x (List.mem_cons_of_mem _ hx))]
    simp
theorem lns_txt : ∀ (ls : List (List UInt8)), (∀ l ∈ ls, ∀ b ∈ l, b ≠ 10) → lnsF (txt ls) [] = ls
  | [], h => lns_nil
  | l :: r, h => by
    have e : txt (l :: r) = l ++ 10 :: txt r := by simp [txt]
    rw [e, lns_line l [] _ (h l (List.mem_cons_self ..)), lns_txt r (fun x hx => h x (List.mem_cons_of_mem _ hx))]
    simp
theorem txt_more : ∀ (a : List UInt8) (r : List (List UInt8)), a ++ (pieceT r ++ [10]) = txt (a :: r.map (fun p => 32 :: p))
  | a, [] => by simp [txt, pieceT]
  | a, p :: r => by
    have ih := txt_more (32 :: p) r
    have e : txt (a :: (p :: r).map (fun p => 32 :: p)) = a ++ 10 :: txt ((32 :: p) :: r.map (fun p => 32 :: p)) := by simp [txt]
    rw [e, ← ih]
    simp [pieceT]
theorem fldT_txt (f : Fld) : fldT f = txt (fldLn f) := by
  unfold fldT fldLn
  rw [← txt_more]
  simp
theorem stT_txt : ∀ fs : List Fld, stT fs = txt (stLn fs)
  | [] => rfl
  | f :: r => by
    have e1 : stT (f :: r) = fldT f ++ stT r := by simp [stT]
    have e2 : stLn (f :: r) = fldLn f ++ stLn r := by simp [stLn]
    rw [e1, e2, txt_app, fldT_txt, stT_txt r]
theorem wrR_txt : ∀ (l : List Stz) (k : Nat), wrR (k + 1) l = txt (wrT l)
  | [], k => rfl
  | s :: r, k => by
    have e2 : wrT (s :: r) = ([] :: stLn s.2) ++ wrT r := by simp [wrT]
    rw [wrR, e2, txt_app, wrR_txt r (k + 1), stT_txt]
    simp [txt]
theorem wrtF_txt (l : List Stz) : wrtF l = txt (wrLn l) := by
  unfold wrtF
  cases l with
  | nil => rfl
  | cons s r => rw [wrR, wrLn, txt_app, wrR_txt r 0, stT_txt]
/-- letters, cut at a byte below 128 -/
theorem letS_at : ∀ (a : List UInt8) (k : Nat) (lo hi : Int) (c : UInt8) (b : List UInt8), c.toNat < 128 → letS k lo hi (a ++ c :: b) = (letS k lo hi a && letL b)
  | [], 0, lo, hi, c, b, hc => by
    show letS 0 lo hi (c :: b) = (true && letL b)
    rw [letS_any, let_low hc]; rfl
  | [], k + 1, lo, hi, c, b, hc => by
    show letS (k + 1) lo hi (c :: b) = (false && letL b)
    rw [letS_no (by intro h; have := h.1.1; omega)]; rfl
  | x :: a, 0, lo, hi, c, b, hc => by
    show letS 0 lo hi (x :: (a ++ c :: b)) = _
    by_cases h : (moreF x.toNat).1 < 0
    · rw [letS_bad h, letS_bad h]; rfl
    · obtain ⟨n, hn⟩ : ∃ n : Nat, (moreF x.toNat).1 = n := ⟨(moreF x.toNat).1.toNat, by omega⟩
      rw [letS_go hn, letS_go hn, letS_at a _ _ _ c b hc]
  | x :: a, k + 1, lo, hi, c, b, hc => by
    show letS (k + 1) lo hi (x :: (a ++ c :: b)) = _
    rw [letS, letS, letS_at a _ _ _ c b hc]; simp only [Bool.and_assoc]
theorem fair_at (a b : List UInt8) (c : UInt8) (hc : c.toNat < 128) : fairF false (a ++ c :: b) = (fairF false a && (frB false c.toNat && fairF false b)) := by
  unfold fairF letL
  rw [List.all_append, List.all_cons, letS_at _ _ _ _ _ _ hc]
  unfold letL
  cases a.all (fun b => frB false b.toNat) <;> cases letS 0 0 0 a <;> cases frB false c.toNat <;> simp
theorem fair_cons (b : List UInt8) (c : UInt8) (hc : c.toNat < 128) : fairF false (c :: b) = (frB false c.toNat && fairF false b) := fair_low hc
theorem nmB_lt {b : UInt8} (h : nmB b.toNat = true) : 33 ≤ b.toNat ∧ b.toNat ≤ 126 ∧ b.toNat ≠ 58 := by
  unfold nmB at h
  simp at h
  omega
theorem fair_name : ∀ {n : List UInt8}, (n.all (fun b => nmB b.toNat)) = true → fairF false n = true
  | [], h => rfl
  | b :: r, h => by
    rw [List.all_cons, Bool.and_eq_true] at h
    obtain ⟨h1, h2, h3⟩ := nmB_lt h.1
    rw [fair_cons _ _ (by omega), fair_name h.2, Bool.and_true]
    unfold frB
    have e1 : ((b.toNat : Int) == 127) = false := beq_eq_false_iff_ne.2 (by omega)
    rw [e1, decide_eq_false (by omega)]; rfl
theorem idx_name : ∀ {n r : List UInt8}, (n.all (fun b => nmB b.toNat)) = true → Lib.indexByte (n ++ 58 :: r) 58 = n.length
  | [], r, h => by rw [List.nil_append, Lib.indexByte, if_pos (show ((58 : UInt8) == 58) = true from rfl)]; rfl
  | b :: n, r, h => by
    rw [List.all_cons, Bool.and_eq_true] at h
    obtain ⟨h1, h2, h3⟩ := nmB_lt h.1
    have hb : ¬ (b == 58) = true := by
      intro e
      have : b = 58 := by simpa using e
      subst this
      exact h3 rfl
    rw [List.cons_append, Lib.indexByte, if_neg hb, idx_name h.2]
    rw [if_neg (by simp)]
    simp
theorem tr_blank (p : List UInt8) (b : UInt8) (hb : isBl b = true) : trF (b :: p) = trF p := by unfold trF; rw [trL_yes hb]
theorem tr_head {b : UInt8} {r : List UInt8} (hb : isBl b = false) : trF (b :: r) ≠ [] := by
  unfold trF
  rw [trL_no hb, trR_cons, if_neg (by simp [hb])]
  simp
theorem no10_of_fair {l : List UInt8} (h : fairF false l = true) : ∀ b ∈ l, b ≠ 10 := by
  intro b hb e
  subst e
  unfold fairF at h
  rw [Bool.and_eq_true] at h
  have := List.all_eq_true.1 h.1 10 hb
  revert this; decide
theorem pieces_glue : ∀ (n : Nat) (l : List UInt8), l.length ≤ n → (pcF l).getD 0 [] ++ ((pcF l).drop 1).flatMap (fun p => 10 :: p) = l
  | n, l, hn => by
    rw [pcF_cut]
    have hg := cut_glue l
    cases h : hasN l
    · rw [h] at hg
      simp at hg ⊢
      exact hg.symm
    · rw [h, if_pos rfl] at hg
      have h1 := cut_len l h
      match n, hn with
      | 0, hn => omega
      | n + 1, hn =>
        have ih := pieces_glue n (cutN l).2 (by omega)
        rw [pcF_cut] at ih ⊢
        simp only [if_pos rfl, List.getD_cons_zero, List.drop_succ_cons, List.drop_zero, List.flatMap_cons] at ih ⊢
        conv => rhs; rw [hg, ← ih]
        simp
theorem val_pieces {v : List UInt8} (h : valF v = true) : pcOk 0 ((pcF v).getD 0 []) = true ∧ ∀ p ∈ (pcF v).drop 1, pcOk 1 p = true := by
  rw [valF_ok, pcF_cut] at h
  rw [pcF_cut]
  generalize (if hasN v = true then pcF (cutN v).2 else []) = r at *
  rw [pcsOk, Bool.and_eq_true] at h
  refine ⟨h.1, ?_⟩
  have key : ∀ (r : List (List UInt8)) (k : Nat), pcsOk (k + 1) r = true → ∀ p ∈ r, pcOk 1 p = true := by
    intro r
    induction r with
    | nil => intro k _ p hp; cases hp
    | cons q r ih =>
      intro k h p hp
      rw [pcsOk, Bool.and_eq_true] at h
      rcases List.mem_cons.1 hp with rfl | hp
      · have := h.1
        unfold pcOk at this ⊢
        simpa using this
      · exact ih (k + 1) h.2 p hp
  exact key r 0 h.2
theorem pcOk_parts {k : Nat} {p : List UInt8} (h : pcOk k p = true) : fairF false p = true ∧ trF p = p ∧ (0 < k → p ≠ []) := by
  unfold pcOk at h
  simp only [Bool.and_eq_true, decide_eq_true_eq] at h
  refine ⟨h.1.1, h.1.2, fun h0 e => ?_⟩
  have := h.2
  rw [e] at this
  simp [h0] at this
theorem rd_more : ∀ (r : List (List UInt8)) (rest : List (List UInt8)) (k : Int) (out : List Stz) (ln : Int) (fs : List Fld) (nm v : List UInt8), (∀ p ∈ r, pcOk 1 p = true) →
    ∃ k', rdS (r.map (fun p => 32 :: p) ++ rest) k out (ln, fs ++ [(nm, v)]) = rdS rest k' out (ln, fs ++ [(nm, v ++ r.flatMap (fun p => 10 :: p))])
  | [], rest, k, out, ln, fs, nm, v, h => ⟨k, by simp⟩
  | p :: r, rest, k, out, ln, fs, nm, v, h => by
    obtain ⟨h1, h2, h3⟩ := pcOk_parts (h p (List.mem_cons_self ..))
    obtain ⟨k', ih⟩ := rd_more r rest (k + 1) out ln fs nm (v ++ 10 :: p) (fun q hq => h q (List.mem_cons_of_mem _ hq))
    refine ⟨k', ?_⟩
    rw [List.map_cons, List.cons_append, rdS, if_neg (by rw [fair_cons _ _ (by decide), h1]; decide), if_neg (by rw [tr_blank _ _ (by decide), h2]; exact h3 (by omega)), if_neg (by simp)]
    unfold stepP
    rw [if_pos (show isBl ((32 :: p).headD 0) = true from (by decide : isBl 32 = true)), if_neg (by simp), setL_snoc, tr_blank _ _ (by decide), h2]
    simp only
    rw [ih]
    simp
theorem rd_fldP {k : Int} {out : List Stz} {ln : Int} {fs : List Fld} {f : Fld} (rest : List (List UInt8)) (hn : nameF f.1 = true) (hv : valF f.2 = true) (hg : (getF fs f.1).isSome = false) :
    ∃ k', rdS (fldLn f ++ rest) k out (ln, fs) = rdS rest k' out (if fs = [] then k else ln, fs ++ [f]) := by
  obtain ⟨p1, p2⟩ := val_pieces hv
  obtain ⟨h1, h2, _⟩ := pcOk_parts p1
  obtain ⟨nm, v⟩ := f
  simp only at hn hv hg p1 p2 h1 h2
  unfold nameF at hn
  rw [Bool.and_eq_true] at hn
  obtain ⟨hna, hnh⟩ := hn
  obtain ⟨b, r, rfl⟩ : ∃ b r, nm = b :: r := by
    cases nm with
    | nil => cases hnh
    | cons b r => exact ⟨b, r, rfl⟩
  have hb := hna
  rw [List.all_cons, Bool.and_eq_true] at hb
  obtain ⟨b1, b2, b3⟩ := nmB_lt hb.1
  have hbl : isBl b = false := by
    unfold isBl
    have e1 : (b == 32) = false := beq_eq_false_iff_ne.2 fun e => by subst e; revert b1; decide
    have e2 : (b == 9) = false := beq_eq_false_iff_ne.2 fun e => by subst e; revert b1; decide
    rw [e1, e2]; rfl
  have hb35 : b ≠ 35 := fun e => by subst e; simp [hdB] at hnh
  generalize hp0 : (pcF v).getD 0 [] = p0 at *
  have hfair : fairF false ((b :: r) ++ 58 :: hdT p0) = true := by
    rw [fair_at _ _ _ (by decide), fair_name hna]
    unfold hdT
    split
    · decide
    · rw [fair_cons _ _ (by decide), h1]; decide
  have htr : trF (hdT p0) = p0 := by
    unfold hdT
    split
    · rename_i e; rw [e]; rfl
    · rw [tr_blank _ _ (by decide), h2]
  have hi : Lib.indexByte ((b :: r) ++ 58 :: hdT p0) 58 = (b :: r).length := idx_name hna
  have hst : stepP (ln, fs) ((b :: r) ++ 58 :: hdT p0) k = .ok (if fs = [] then k else ln, fs ++ [(b :: r, p0)]) := by
    unfold stepP
    have e1 : (((b :: r) ++ 58 :: hdT p0).take (Lib.indexByte ((b :: r) ++ 58 :: hdT p0) 58).toNat) = b :: r := by rw [hi, Int.toNat_natCast, List.take_left]
    have e2 : (((b :: r) ++ 58 :: hdT p0).drop ((Lib.indexByte ((b :: r) ++ 58 :: hdT p0) 58).toNat + 1)) = hdT p0 := by
      rw [hi, Int.toNat_natCast, show (b :: r) ++ 58 :: hdT p0 = ((b :: r) ++ [58]) ++ hdT p0 by simp, show (b :: r).length + 1 = ((b :: r) ++ [58]).length by simp, List.drop_left]
    have hnm : nameF (b :: r) = true := by unfold nameF; rw [hna, hnh]; rfl
    rw [e1, e2, if_neg (by show ¬ isBl b = true; rw [hbl]; simp), if_neg (by rw [hi, hnm]; simp; omega), if_neg (by rw [hg]; simp), htr]
  obtain ⟨k', hk⟩ := rd_more ((pcF v).drop 1) rest (k + 1) out (if fs = [] then k else ln) fs (b :: r) p0 p2
  refine ⟨k', ?_⟩
  have hgl := pieces_glue _ v (Nat.le_refl _)
  rw [hp0] at hgl
  rw [hgl] at hk
  rw [← hk]
  have e : fldLn (b :: r, v) ++ rest = ((b :: r) ++ 58 :: hdT p0) :: (((pcF v).drop 1).map (fun p => 32 :: p) ++ rest) := by unfold fldLn; simp only; rw [hp0]; rfl
  rw [e, rdS, if_neg (by rw [hfair]; simp), if_neg (show ¬ trF ((b :: r) ++ 58 :: hdT p0) = [] from tr_head (r := r ++ 58 :: hdT p0) hbl), if_neg (by simpa using hb35), hst]
theorem rd_flds : ∀ (r j : Nat) (fs : List Fld) (rest : List (List UInt8)) (k : Int) (out : List Stz) (ln : Int), j + r = fs.length → fldsOk fs j r = true → ∃ k' ln', rdS (stLn (fs.drop j) ++ rest) k out (ln, fs.take j) = rdS rest k' out (ln', fs)
  | 0, j, fs, rest, k, out, ln, hj, h => ⟨k, ln, by
    rw [List.drop_eq_nil_of_le (by omega), List.take_of_length_le (by omega)]; rfl⟩
  | r + 1, j, fs, rest, k, out, ln, hj, h => by
    rw [fldsOk, Bool.and_eq_true] at h
    have hlt : j < fs.length := by omega
    have h1 := h.1
    unfold fldOk twG at h1
    simp at h1
    obtain ⟨⟨h2, h3⟩, h4⟩ := h1
    have e0 : fs.getD j ([], []) = fs[j] := by simp [List.getD_eq_getElem?_getD, hlt]
    have e : stLn (fs.drop j) ++ rest = fldLn (fs.getD j ([], [])) ++ (stLn (fs.drop (j + 1)) ++ rest) := by
      rw [List.drop_eq_getElem_cons hlt, e0]; unfold stLn; rw [List.flatMap_cons, List.append_assoc]
    obtain ⟨k1, hk1⟩ := rd_fldP (k := k) (out := out) (ln := ln) (fs := fs.take j) (f := fs.getD j ([], [])) (stLn (fs.drop (j + 1)) ++ rest) (by simpa [List.getD_eq_getElem?_getD] using h3) (by simpa [List.getD_eq_getElem?_getD] using h4) (by simpa [List.getD_eq_getElem?_getD] using h2)
    obtain ⟨k2, ln2, hk2⟩ := rd_flds r (j + 1) fs rest k1 out (if fs.take j = [] then k else ln) (by omega) h.2
    exact ⟨k2, ln2, by rw [e, hk1, ← fld_take hlt, hk2]⟩
theorem rd_gap (rest : List (List UInt8)) (k : Int) (out : List Stz) (ln : Int) (fs : List Fld) (h : fs ≠ []) : rdS ([] :: rest) k out (ln, fs) = rdS rest (k + 1) (out ++ [(ln, fs)]) (0, []) := by
  rw [rdS, if_neg (by decide), if_pos (show trF [] = [] from rfl), if_neg h]
theorem rd_wrT : ∀ (l : List Stz) (k : Int) (out : List Stz) (ln : Int) (fs : List Fld), fs ≠ [] → fmdL l = true → ∃ m, rdS (wrT l) k out (ln, fs) = .ok (out ++ (ln, fs) :: m) ∧ m.map Prod.snd = l.map Prod.snd
  | [], k, out, ln, fs, h0, h => ⟨[], by
    show rdS [] k out (ln, fs) = _
    rw [rdS, if_neg h0], rfl⟩
  | s :: l, k, out, ln, fs, h0, h => by
    unfold fmdL at h
    rw [List.all_cons, Bool.and_eq_true] at h
    have hs := h.1
    unfold stzOk at hs
    rw [Bool.and_eq_true] at hs
    have hne : s.2 ≠ [] := by intro e; have := hs.1; rw [e] at this; cases this
    have e : wrT (s :: l) = [] :: (stLn s.2 ++ wrT l) := by simp [wrT]
    obtain ⟨k1, ln1, h1⟩ := rd_flds s.2.length 0 s.2 (wrT l) (k + 1) (out ++ [(ln, fs)]) 0 (by omega) hs.2
    rw [List.drop_zero, List.take_zero] at h1
    obtain ⟨m, h2, h3⟩ := rd_wrT l k1 (out ++ [(ln, fs)]) ln1 s.2 hne h.2
    exact ⟨(ln1, s.2) :: m, by rw [e, rd_gap _ _ _ _ _ h0, h1, h2]; simp, by simp [h3]⟩
theorem rd_wrLn (l : List Stz) (h : fmdL l = true) : ∃ m, rdS (wrLn l) 1 [] (0, []) = .ok m ∧ m.map Prod.snd = l.map Prod.snd := by
  cases l with
  | nil => exact ⟨[], by show rdS [] 1 [] (0, []) = _; rw [rdS, if_pos rfl], rfl⟩
  | cons s l =>
    unfold fmdL at h
    rw [List.all_cons, Bool.and_eq_true] at h
    have hs := h.1
    unfold stzOk at hs
    rw [Bool.and_eq_true] at hs
    have hne : s.2 ≠ [] := by intro e; have := hs.1; rw [e] at this; cases this
    obtain ⟨k1, ln1, h1⟩ := rd_flds s.2.length 0 s.2 (wrT l) 1 [] 0 (by omega) hs.2
    rw [List.drop_zero, List.take_zero] at h1
    obtain ⟨m, h2, h3⟩ := rd_wrT l k1 [] ln1 s.2 hne h.2
    exact ⟨(ln1, s.2) :: m, by rw [wrLn, h1, h2]; simp, by simp [h3]⟩
theorem no10_flds {fs : List Fld} (h : ∀ f ∈ fs, nameF f.1 = true ∧ valF f.2 = true) : ∀ l ∈ stLn fs, ∀ b ∈ l, b ≠ 10 := by
  intro l hl
  unfold stLn at hl
  obtain ⟨f, hf, hl⟩ := List.mem_flatMap.1 hl
  obtain ⟨hn, hv⟩ := h f hf
  obtain ⟨p1, p2⟩ := val_pieces hv
  unfold fldLn at hl
  rcases List.mem_cons.1 hl with rfl | hl
  · unfold nameF at hn
    rw [Bool.and_eq_true] at hn
    refine no10_of_fair ?_
    rw [fair_at _ _ _ (by decide), fair_name hn.1]
    unfold hdT
    split
    · decide
    · rw [fair_cons _ _ (by decide), (pcOk_parts p1).1]; decide
  · obtain ⟨p, hp, rfl⟩ := List.mem_map.1 hl
    refine no10_of_fair ?_
    rw [fair_cons _ _ (by decide), (pcOk_parts (p2 p hp)).1]; decide
theorem formed_flds {l : List Stz} (h : fmdL l = true) : ∀ s ∈ l, ∀ f ∈ s.2, nameF f.1 = true ∧ valF f.2 = true := by
  intro s hs f hf
  unfold fmdL at h
  have h1 := List.all_eq_true.1 h s hs
  unfold stzOk at h1
  rw [Bool.and_eq_true] at h1
  have key : ∀ (r q : Nat), q + r = s.2.length → fldsOk s.2 q r = true → ∀ j, q ≤ j → j < s.2.length → nameF (s.2.getD j ([], [])).1 = true ∧ valF (s.2.getD j ([], [])).2 = true := by
    intro r
    induction r with
    | zero => intro q hq _ j h1 h2; omega
    | succ r ih =>
      intro q hq hh j h1 h2
      rw [fldsOk, Bool.and_eq_true] at hh
      by_cases e : j = q
      · subst e
        have := hh.1
        unfold fldOk at this
        simp at this
        exact ⟨by simpa using this.1.2, by simpa using this.2⟩
      · exact ih (q + 1) (by omega) hh.2 j (by omega) h2
  obtain ⟨j, hj, rfl⟩ := List.getElem_of_mem hf
  have := key s.2.length 0 (by omega) h1.2 j (by omega) hj
  rwa [show s.2.getD j ([], []) = s.2[j] by simp [List.getD_eq_getElem?_getD, hj]] at this
theorem no10_all {l : List Stz} (h : fmdL l = true) : ∀ x ∈ wrLn l, ∀ b ∈ x, b ≠ 10 := by
  have hf := formed_flds h
  have hT : ∀ r : List Stz, (∀ s ∈ r, ∀ f ∈ s.2, nameF f.1 = true ∧ valF f.2 = true) → ∀ x ∈ wrT r, ∀ b ∈ x, b ≠ 10 := by
    intro r hr x hx
    unfold wrT at hx
    obtain ⟨s, hs, hx⟩ := List.mem_flatMap.1 hx
    rcases List.mem_cons.1 hx with rfl | hx
    · intro b hb; cases hb
    · exact no10_flds (hr s hs) x hx
  cases l with
  | nil => intro x hx; cases hx
  | cons s r =>
    intro x hx
    rw [wrLn] at hx
    rcases List.mem_append.1 hx with hx | hx
    · exact no10_flds (hf s (List.mem_cons_self ..)) x hx
    · exact hT r (fun s hs => hf s (List.mem_cons_of_mem _ hs)) x hx
theorem sml_map {l m : List Stz} (h2 : m.map Prod.snd = l.map Prod.snd) : SmL false l m := by
  have hl : m.length = l.length := by have := congrArg List.length h2; simpa using this
  refine ⟨hl.symm, fun k hk => ⟨?_, fun e => (by cases e)⟩⟩
  have h3 := congrArg (fun x => x[k]?) h2
  simp only [List.getElem?_map] at h3
  have hm' : m[k]? = some (m[k]'(by omega)) := List.getElem?_eq_getElem (by omega)
  have hl' : l[k]? = some l[k] := List.getElem?_eq_getElem hk
  rw [hm', hl'] at h3
  rw [List.getD_eq_getElem?_getD, List.getD_eq_getElem?_getD, hm', hl']
  simpa using h3.symm
/-- there and back -/
theorem back21 {l : List Stz} (h : fmdL l = true) : ∃ m, rdF21 (wrtF l) = .ok m ∧ SmL false l m := by
  obtain ⟨m, h1, h2⟩ := rd_wrLn l h
  exact ⟨m, by unfold rdF21; rw [wrtF_txt, lns_txt _ (no10_all h), h1], sml_map h2⟩

end Go.Proofs.YtbeaoekbppdlmaaDoor
