/-
  Texts with the same pieces are read as the same lists; gaps put in and taken away beside signs (pure).
  KEEP: off c0 c1 c2 c3 c4 s0 s1 s2 s3 s4 newS rds lt f t q x len below nil form rd mono on one more out
-/
import Derived.Test.YtmfcaoacklbkoaaDoorKRnG
import Derived.Test.YtmfcaoacklbkoaaDoorJRlF
import Derived.Test.YtmfcaoacklbkoaaDoorKRnR
set_option linter.unusedSimpArgs false
set_option linter.unusedVariables false
namespace Go.Proofs.YtmfcaoacklbkoaaDoor
open Go Go.RowKit

def lsT : Nat → List (List UInt8) → List (List Rl) → List Rl → Option (List (List Rl))
  | 0, _, _, _ => none
  | f + 1, ts, out, now =>
    match oneT ts with
    | none => none
    | some p => if p.2.head? = some [124] then lsT f p.2.tail out (now ++ [p.1]) else if p.2 = [] then some (out ++ [now ++ [p.1]]) else if p.2.head? = some [44] then lsT f p.2.tail (out ++ [now ++ [p.1]]) [] else none
theorem tk_end {s : ByteArray} {a : Nat} (ha : a ≤ s.size) (hg : runF gapZ s.data.toList a = a) : Tk s a = [] ↔ s.size ≤ a := by
  rcases tk_here ha hg with ⟨e, h1⟩ | ⟨h, ⟨hw, hlt, h1⟩ | ⟨hw, hr, h1⟩⟩
  · rw [h1]; exact ⟨fun _ => by omega, fun _ => rfl⟩
  · rw [h1]; exact ⟨fun e => (by cases e), fun e => by omega⟩
  · rw [h1]; exact ⟨fun e => (by cases e), fun e => by omega⟩
theorem lst_tk {s : ByteArray} : ∀ (f k : Nat) (out : List (List Rl)) (now : List Rl) (l : List (List Rl)), k ≤ s.size → runF gapZ s.data.toList k = k → s.size < k + f → (lstS s true f k out now = .ok l ↔ lsT f (Tk s k) out now = some l)
  | 0, k, out, now, l, hk, hg, hf => by omega
  | f + 1, k, out, now, l, hk, hg, hf => by
    rw [lstS, lsT, one_tk hk hg]
    by_cases he : (oneF s k).e ≠ 0
    · rw [if_pos he]
      unfold onT
      rw [if_neg he]
      exact ⟨fun h => (by cases h), fun h => (by cases h)⟩
    have he0 : (oneF s k).e = 0 := Classical.not_not.1 he
    rw [if_neg he]
    have hq := (one_pl hk).2
    have hgq := one_gap hk he0
    unfold onT
    rw [if_pos he0]
    simp only []
    have h124 := hd_sign (s := s) (a := (oneF s k).k) 124 (by rfl) hq hgq
    have h44 := hd_sign (s := s) (a := (oneF s k).k) 44 (by rfl) hq hgq
    have hen := tk_end hq hgq
    by_cases hb : atB s (oneF s k).k = 124
    · obtain ⟨h1, h2⟩ := next22_lt hk he (by decide) hb
      have hlt := at_lt22 (by decide) hb
      have h3 := h124.1.2 hb
      rw [if_pos ⟨hb, trivial⟩, if_pos h3, h124.2 h3, tk_run_gap s ((oneF s k).k + 1)]
      exact lst_tk f _ _ _ l h2 (runF_stop2 hlt) (by omega)
    rw [if_neg (fun h => hb h.1), if_neg (fun h => hb (h124.1.1 h))]
    by_cases hs : s.size ≤ (oneF s k).k
    · rw [if_pos hs, if_pos (hen.2 hs)]
      exact ⟨fun h => by injection h with h; rw [← h]; rfl, fun h => by injection h with h; rw [← h]; rfl⟩
    rw [if_neg hs, if_neg (fun h => hs (hen.1 h))]
    by_cases hc : atB s (oneF s k).k = 44
    · obtain ⟨h1, h2⟩ := next22_lt hk he (by decide) hc
      have hlt := at_lt22 (by decide) hc
      have h3 := h44.1.2 hc
      rw [if_neg (fun h => h hc), if_pos h3, h44.2 h3, tk_run_gap s ((oneF s k).k + 1)]
      exact lst_tk f _ _ _ l h2 (runF_stop2 hlt) (by omega)
    · rw [if_pos hc, if_neg (fun h => hc (h44.1.1 h))]
      exact ⟨fun h => (by cases h), fun h => (by cases h)⟩
theorem tk_all (s : ByteArray) : Tk s 0 = tkA [] s.data.toList := rfl
theorem tk_none (s : ByteArray) : runF gapZ s.data.toList 0 = s.size ↔ tkA [] s.data.toList = [] := by
  have h1 := tk_end (runF_le22 gapZ s (Nat.zero_le _)) (runF_stop2 (p := gapZ) (Nat.zero_le s.size))
  rw [← tk_run_gap, tk_all] at h1
  have h2 := runF_le22 gapZ s (Nat.zero_le s.size)
  exact ⟨fun e => h1.2 (by omega), fun e => by have := h1.1 e; omega⟩
/-- texts of the same pieces are read as the same -/
theorem lst_same {s s' : ByteArray} (h : tkA [] s.data.toList = tkA [] s'.data.toList) {l : List (List Rl)} (hl : lstF s true = .ok l) : lstF s' true = .ok l := by
  unfold lstF at hl ⊢
  by_cases h0 : runF gapZ s.data.toList 0 = s.size
  · rw [if_pos h0] at hl
    have := (tk_none s).1 h0
    rw [h] at this
    rw [if_pos ((tk_none s').2 this)]
    exact hl
  · rw [if_neg h0] at hl
    rw [if_neg (fun e => h0 ((tk_none s).2 (by rw [h]; exact (tk_none s').1 e)))]
    have a1 := runF_le22 gapZ s (Nat.zero_le s.size)
    have a2 := runF_le22 gapZ s' (Nat.zero_le s'.size)
    rw [lst_fuel (s.size + 1) (s.size + s'.size + 1) _ _ _ a1 (by omega) (by omega), lst_tk _ _ _ _ _ a1 (runF_stop2 (Nat.zero_le _)) (by omega), ← tk_run_gap, tk_all, h] at hl
    rw [lst_fuel (s'.size + 1) (s.size + s'.size + 1) _ _ _ a2 (by omega) (by omega), lst_tk _ _ _ _ _ a2 (runF_stop2 (Nat.zero_le _)) (by omega), ← tk_run_gap, tk_all]
    exact hl

/-- a sign -/
def sgZ (z : Int) : Bool := z == 44 || z == 124 || z == 40 || z == 41
theorem sgZ_iff {z : Int} : sgZ z = (!gapZ z && !wrdZ z) := by
  have h : sgZ z = true ↔ (!gapZ z && !wrdZ z) = true := by
    unfold wrdZ gapZ sgZ
    simp only [Bool.and_eq_true, Bool.not_eq_true', Bool.or_eq_true, Bool.or_eq_false_iff, Bool.and_eq_false_iff, beq_iff_eq, bne_iff_ne, beq_eq_false_iff_ne, bne_eq_false_iff_eq, ne_eq, Bool.not_eq_false']
    omega
  exact Bool.eq_iff_iff.2 h
/-- gaps put in -/
def gpF (g : List UInt8) : List UInt8 → List UInt8
  | [] => []
  | b :: r => (if sgZ b.toNat = true then g ++ b :: g else [b]) ++ gpF g r
theorem tk_gaps : ∀ (g cur r : List UInt8), (∀ b ∈ g, gapZ b.toNat = true) → g ≠ [] → tkA cur (g ++ r) = flC cur ++ tkA [] r
  | [], cur, r, h, hne => absurd rfl hne
  | b :: q, cur, r, h, hne => by
    rw [List.cons_append, tk_gap (h b (List.mem_cons_self ..))]
    cases q with
    | nil => rfl
    | cons c q =>
      rw [tk_gaps (c :: q) [] r (fun x hx => h x (List.mem_cons_of_mem _ hx)) (by simp)]
      rfl
theorem flC_nil : flC [] = [] := rfl
theorem tk_gp (g : List UInt8) (hg : ∀ b ∈ g, gapZ b.toNat = true) (hne : g ≠ []) : ∀ (l cur : List UInt8), tkA cur (gpF g l ++ g) = tkA cur l
  | [], cur => by
    have := tk_gaps g cur [] hg hne
    rw [List.append_nil] at this
    rw [gpF, List.nil_append, this]
    show flC cur ++ flC [] = flC cur
    simp [flC]
  | b :: r, cur => by
    rw [gpF]
    cases hs : sgZ b.toNat
    · rw [if_neg (by simp), List.append_assoc]
      show tkA cur (b :: (gpF g r ++ g)) = _
      cases hgp : gapZ b.toNat
      · have hw : wrdZ b.toNat = true := by
          rw [sgZ_iff, hgp] at hs
          simpa using hs
        rw [tk_word hw, tk_word hw, tk_gp g hg hne r]
      · rw [tk_gap hgp, tk_gap hgp, tk_gp g hg hne r]
    · rw [sgZ_iff] at hs
      simp only [Bool.and_eq_true, Bool.not_eq_true'] at hs
      rw [if_pos rfl]
      have e : g ++ b :: g ++ gpF g r ++ g = g ++ (b :: (g ++ (gpF g r ++ g))) := by simp
      rw [e, tk_gaps g cur _ hg hne, tk_sign hs.2 hs.1, tk_gaps g [] _ hg hne, tk_gp g hg hne r, tk_sign hs.2 hs.1]
      rfl
theorem tk_gapped (g l : List UInt8) (hg : ∀ b ∈ g, gapZ b.toNat = true) (hne : g ≠ []) : tkA [] (g ++ gpF g l ++ g) = tkA [] l := by
  rw [List.append_assoc, tk_gaps g [] _ hg hne, tk_gp g hg hne l]; rfl
/-- gaps taken away -/
def brF : List UInt8 → Bool → List UInt8 → List UInt8
  | _, _, [] => []
  | pend, parted, b :: r => if gapZ b.toNat = true then brF (pend ++ [b]) parted r else (if (!parted && !sgZ b.toNat) = true then pend else []) ++ b :: brF [] (sgZ b.toNat) r
theorem tk_br : ∀ (l : List UInt8),
    (∀ pend, tkA [] (brF pend true l) = tkA [] l) ∧ (∀ cur, cur ≠ [] → tkA cur (brF [] false l) = tkA cur l) ∧ (∀ pend cur, (∀ b ∈ pend, gapZ b.toNat = true) → pend ≠ [] → tkA cur (brF pend false l) = flC cur ++ tkA [] l)
  | [] => ⟨fun pend => rfl, fun cur h => rfl, fun pend cur h hne => by show flC cur = flC cur ++ flC []; simp [flC]⟩
  | b :: r => by
    obtain ⟨h1, h2, h3⟩ := tk_br r
    cases hg : gapZ b.toNat
    · cases hs : sgZ b.toNat
      · have hw : wrdZ b.toNat = true := by
          rw [sgZ_iff, hg] at hs
          simpa using hs
        refine ⟨fun pend => ?_, fun cur hc => ?_, fun pend cur hp hne => ?_⟩
        · rw [brF, if_neg (by rw [hg]; simp), if_neg (by simp), List.nil_append, hs, tk_word hw, tk_word hw, h2 _ (by simp)]
        · rw [brF, if_neg (by rw [hg]; simp), if_pos (by rw [hs]; rfl), List.nil_append, hs, tk_word hw, tk_word hw, h2 _ (by simp)]
        · rw [brF, if_neg (by rw [hg]; simp), if_pos (by rw [hs]; rfl), hs, tk_gaps pend cur _ hp hne, tk_word hw, tk_word hw, h2 _ (by simp)]
      · have hs' := hs
        rw [sgZ_iff] at hs'
        simp only [Bool.and_eq_true, Bool.not_eq_true'] at hs'
        refine ⟨fun pend => ?_, fun cur hc => ?_, fun pend cur hp hne => ?_⟩
        · rw [brF, if_neg (by rw [hg]; simp), if_neg (by simp), List.nil_append, hs, tk_sign hs'.2 hs'.1, tk_sign hs'.2 hs'.1, h1]
        · rw [brF, if_neg (by rw [hg]; simp), if_neg (by rw [hs]; simp), List.nil_append, hs, tk_sign hs'.2 hs'.1, tk_sign hs'.2 hs'.1, h1]
        · rw [brF, if_neg (by rw [hg]; simp), if_neg (by rw [hs]; simp), List.nil_append, hs, tk_sign hs'.2 hs'.1, tk_sign hs'.2 hs'.1, h1]; rfl
    · refine ⟨fun pend => ?_, fun cur hc => ?_, fun pend cur hp hne => ?_⟩
      · rw [brF, if_pos hg, h1, tk_gap hg]; rfl
      · rw [brF, if_pos hg, h3 _ cur (by simpa using hg) (by simp), tk_gap hg]
      · rw [brF, if_pos hg, h3 _ cur (fun x hx => by
          rcases List.mem_append.1 hx with hx | hx
          · exact hp x hx
          · obtain rfl := List.mem_singleton.1 hx; exact hg) (by simp), tk_gap hg]
        rfl
theorem tk_bare (l : List UInt8) : tkA [] (brF [] true l) = tkA [] l := (tk_br l).1 []
theorem tk_first_ne : ∀ (l cur : List UInt8), cur ≠ [] → tkA cur l ≠ []
  | [], cur, h => by show flC cur ≠ []; unfold flC; rw [if_neg h]; simp
  | b :: r, cur, h => by
    cases hg : gapZ b.toNat
    · cases hw : wrdZ b.toNat
      · rw [tk_sign hw hg]; simp
      · rw [tk_word hw]; exact tk_first_ne r _ (by simp)
    · rw [tk_gap hg]
      unfold flC
      rw [if_neg h]; simp
/-- the bare text is empty just where there is no piece -/
theorem br_nil : ∀ (l pend : List UInt8), brF pend true l = [] ↔ tkA [] l = []
  | [], pend => ⟨fun _ => rfl, fun _ => rfl⟩
  | b :: r, pend => by
    cases hg : gapZ b.toNat
    · rw [brF, if_neg (by rw [hg]; simp)]
      refine ⟨fun h => by simp at h, fun h => ?_⟩
      cases hw : wrdZ b.toNat
      · rw [tk_sign hw hg] at h; simp [flC] at h
      · rw [tk_word hw] at h
        exact absurd h (tk_first_ne r _ (by simp))
    · rw [brF, if_pos hg, tk_gap hg, br_nil r (pend ++ [b])]
      show _ ↔ flC [] ++ _ = []
      simp [flC]
theorem lst_empty {s : ByteArray} {l : List (List Rl)} (h : lstF s true = .ok l) : l = [] ↔ brF [] true s.data.toList = [] := by
  rw [br_nil, ← tk_none]
  unfold lstF at h
  by_cases h0 : runF gapZ s.data.toList 0 = s.size
  · rw [if_pos h0] at h
    injection h with h
    exact ⟨fun _ => h0, fun _ => h.symm⟩
  · rw [if_neg h0] at h
    obtain ⟨x, x1, _⟩ := lst_grows _ _ _ _ l (runF_le22 gapZ s (Nat.zero_le _)) (by omega) h
    exact ⟨fun e => (by rw [e] at x1; cases x1), fun e => absurd e h0⟩
theorem opF_opK {T : ByteArray} (h : opF T ≠ 0) : opK (opF T) = true := by
  unfold opF at h ⊢
  split
  · rfl
  rename_i h1
  rw [if_neg h1] at h
  split
  · rfl
  rename_i h2
  rw [if_neg h2] at h
  split
  · rfl
  rename_i h3
  rw [if_neg h3] at h
  split
  · rfl
  rename_i h4
  rw [if_neg h4] at h
  split
  · rfl
  rename_i h5
  rw [if_neg h5] at h
  exact absurd rfl h
/-- what is read is well shaped, and no longer than the text -/
theorem one_ok_rel {s : ByteArray} {k : Nat} (h : (oneF s k).e = 0) : relB (oneF s k).n (oneF s k).o (oneF s k).v = true := by
  unfold oneF at h ⊢
  simp only [] at h ⊢
  split at h
  · exact absurd h (show ¬ (220 : Int) = 0 by decide)
  rename_i h1
  rw [if_neg h1]
  split at h
  · exact absurd h (show ¬ (230 : Int) = 0 by decide)
  rename_i h2
  rw [if_neg h2]
  have hn : rnmF (s.extract k (runF wrdZ s.data.toList k)).data.toList = true := by
    cases h3 : rnmF (s.extract k (runF wrdZ s.data.toList k)).data.toList
    · exact absurd h3 h2
    · rfl
  generalize s.extract k (runF wrdZ s.data.toList k) = n at *
  unfold onA at h ⊢
  split at h
  · rename_i e
    rw [if_pos e]
    unfold onB at h ⊢
    simp only [] at h ⊢
    split at h
    · exact absurd h (show ¬ (220 : Int) = 0 by decide)
    rename_i h3
    rw [if_neg h3]
    generalize hO : opF (s.extract _ _) = o at *
    unfold onC at h ⊢
    simp only [] at h ⊢
    split at h
    · exact absurd h (show ¬ (220 : Int) = 0 by decide)
    rename_i h4
    rw [if_neg h4]
    split at h
    · exact absurd h (show ¬ (200 : Int) = 0 by decide)
    rename_i h5
    rw [if_neg h5]
    unfold onD at h ⊢
    split at h
    · rename_i e2
      rw [if_pos e2]
      simp only
      unfold relB
      rw [hn, if_neg h3, sgF_emp, Bool.not_not]
      have hk : opK o = true := by
        rw [← hO] at h3 ⊢
        exact opF_opK h3
      rw [hk]
      simpa using h5
    · exact absurd h (show ¬ (220 : Int) = 0 by decide)
  · rename_i e
    rw [if_neg e]
    unfold relB
    rw [hn]; rfl
theorem lst_rel {s : ByteArray} {bars : Bool} : ∀ (f k : Nat) (out : List (List Rl)) (now : List Rl) (l : List (List Rl)), k ≤ s.size → (∀ r ∈ now, relB r.1 r.2.1 r.2.2 = true ∧ r.1.size ≤ s.size ∧ r.2.2.size ≤ s.size) → (∀ x ∈ out, ∀ r ∈ x, relB r.1 r.2.1 r.2.2 = true ∧ r.1.size ≤ s.size ∧ r.2.2.size ≤ s.size) → lstS s bars f k out now = .ok l → ∀ x ∈ l, ∀ r ∈ x, relB r.1 r.2.1 r.2.2 = true ∧ r.1.size ≤ s.size ∧ r.2.2.size ≤ s.size
  | 0, k, out, now, l, hk, hn, ho, h, x, hx => by
    injection h with h
    subst h
    cases hx
  | f + 1, k, out, now, l, hk, hn, ho, h, x, hx => by
    rw [lstS] at h
    split at h
    · cases h
    rename_i he
    have he0 := Classical.not_not.1 he
    obtain ⟨hz1, hz2, _, _⟩ := one_ok22 hk he0
    have hn2 : ∀ r ∈ now ++ [((oneF s k).n, (oneF s k).o, (oneF s k).v)], relB r.1 r.2.1 r.2.2 = true ∧ r.1.size ≤ s.size ∧ r.2.2.size ≤ s.size := fun r hr => by
      rcases List.mem_append.1 hr with hr | hr
      · exact hn r hr
      · obtain rfl := List.mem_singleton.1 hr
        exact ⟨one_ok_rel he0, hz1, hz2⟩
    have ho2 : ∀ y ∈ out ++ [now ++ [((oneF s k).n, (oneF s k).o, (oneF s k).v)]], ∀ r ∈ y, relB r.1 r.2.1 r.2.2 = true ∧ r.1.size ≤ s.size ∧ r.2.2.size ≤ s.size := fun y hy => by
      rcases List.mem_append.1 hy with hy | hy
      · exact ho y hy
      · obtain rfl := List.mem_singleton.1 hy
        exact hn2
    split at h
    · rename_i hb
      exact lst_rel f _ _ _ l (next22_lt hk he (by decide) hb.1).2 hn2 ho h x hx
    split at h
    · injection h with h
      subst h
      exact ho2 x hx
    split at h
    · cases h
    · rename_i hc
      exact lst_rel f _ _ _ l (next22_lt hk he (by decide) (Classical.not_not.1 hc)).2 (fun r hr => by cases hr) ho2 h x hx
theorem lstF_rel {s : ByteArray} {bars : Bool} {l : List (List Rl)} (h : lstF s bars = .ok l) : ∀ x ∈ l, ∀ r ∈ x, relB r.1 r.2.1 r.2.2 = true ∧ r.1.size ≤ s.size ∧ r.2.2.size ≤ s.size := by
  unfold lstF at h
  split at h
  · injection h with h
    subst h
    intro x hx
    cases hx
  · exact lst_rel _ _ _ _ _ (runF_le22 gapZ s (Nat.zero_le _)) (fun r hr => by cases hr) (fun x hx => by cases hx) h
theorem szR_le {B : Nat} : ∀ rs : List Rl, (∀ r ∈ rs, r.1.size ≤ B ∧ r.2.2.size ≤ B) → szR rs ≤ rs.length * (2 * B + 10)
  | [], h => Nat.zero_le _
  | r :: q, h => by
    have h1 := h r (List.mem_cons_self ..)
    have h2 := szR_le q fun x hx => h x (List.mem_cons_of_mem _ hx)
    simp only [szR, List.length_cons, Nat.add_mul, Nat.one_mul] at h2 ⊢
    omega
theorem szL_le {M : Nat} : ∀ l : List (List Rl), (∀ x ∈ l, szR x ≤ M) → szL l ≤ l.length * (M + 2)
  | [], h => Nat.zero_le _
  | r :: q, h => by
    have h1 := h r (List.mem_cons_self ..)
    have h2 := szL_le q fun x hx => h x (List.mem_cons_of_mem _ hx)
    simp only [szL, List.length_cons, Nat.add_mul, Nat.one_mul] at h2 ⊢
    omega
/-- what is read of a short text can be written, and is no longer than can be -/
theorem read_sz {s : ByteArray} {l : List (List Rl)} (hs : s.size ≤ 4000) (h : lstF s true = .ok l) : szL l ≤ 1099511627776 ∧ nemB l = true ∧ allB l = true := by
  have h1 := lstF_rel h
  have h2 := lstF_each h
  have h3 := lstF_len h
  have h4 := lstF_ne h
  refine ⟨?_, List.all_eq_true.2 fun x hx => decide_eq_true (List.length_pos_iff.2 (h4 x hx)), List.all_eq_true.2 fun x hx => List.all_eq_true.2 fun r hr => (h1 x hx r hr).1⟩
  have h5 : ∀ x ∈ l, szR x ≤ 4000 * 8010 := fun x hx => by
    have q1 := szR_le (B := 4000) x fun r hr => ⟨Nat.le_trans (h1 x hx r hr).2.1 hs, Nat.le_trans (h1 x hx r hr).2.2 hs⟩
    have q2 := h2 x hx
    exact Nat.le_trans q1 (Nat.mul_le_mul (show x.length ≤ 4000 by omega) (by decide))
  exact Nat.le_trans (szL_le l h5) (Nat.le_trans (Nat.mul_le_mul_right _ (show l.length ≤ 4000 by omega)) (by decide))

end Go.Proofs.YtmfcaoacklbkoaaDoor
