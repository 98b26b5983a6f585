/-
  joined: RpG RpY RpZ
-/
import Derived.Test.YtkinilhapgagcabDoorRpD
import Derived.Test.YtkinilhapgagcabDoorJRpF
import Derived.Test.YtkinilhapgagcabDoorRpP
import Derived.Test.YtkinilhapgagcabDoorApp2
import Derived.Deep.RegionHeld
import Derived.BigQuiet
set_option linter.unusedSimpArgs false
set_option linter.unusedVariables false
namespace Go.Proofs.YtkinilhapgagcabDoor
open Go Go.RowKit

theorem shB_shp (v : Int) (css : List (List Int)) (c : List Int) : shB v css c = shp v css c := rfl
theorem shBE_shE (b : Bool) : shBE b = shE b := rfl
theorem fol_own (css : List (List Int)) (d : List Int) : folB (css ++ [d]) d = true := claB_of (.inr ⟨d, by simp, fun m hm => .fact (mem_opp.2 (by simpa using hm))⟩)
theorem sub_css (css : List (List Int)) (d : List Int) : ∀ c ∈ css, ∃ c' ∈ css ++ [d], ∀ x, x ∈ c ↔ x ∈ c' := fun c hc => ⟨c, List.mem_append.2 (.inl hc), fun _ => Iff.rfl⟩
theorem fol_more {css : List (List Int)} {c d : List Int} (h : folB css c = true) : folB (css ++ [d]) c = true := claB_of ((claB_true.1 h).mono (sub_css css d) fun x hx => .fact hx)
theorem fol_long {css : List (List Int)} {c d : List Int} (hc : c.all fmd = true) (h : folB css c = true) : folB css (tid (c ++ d)) = true := claB_of ((claB_true.1 h).trans fun x hx => .fact (mem_opp.2 (mem_tid.2 ⟨List.mem_append.2 (.inl (mem_opp.1 hx)), List.all_eq_true.1 hc _ (mem_opp.1 hx)⟩)))
theorem adj_lit {zs : List Int} (hz : zs.all fmd = true) (h : adj (tid zs) = true) : ∃ l, l ∈ zs ∧ -l ∈ zs := by
  refine Classical.byContradiction fun hn => ?_
  have := (adj_con8 hz).2 (fun l h1 h2 => hn ⟨l, h1, h2⟩)
  rw [this] at h; cases h
theorem blk_safe {v : Int} {css : List (List Int)} {c : List Int} (hs : shp v css c = true) (h : blkB css c = true) : safB css c = true := by
  cases c with
  | nil => cases h
  | cons p r =>
    show parB css (opp (p :: r)) p css = true
    have h : blkA p (p :: r) css = true := h
    unfold parB
    unfold blkA at h
    rw [List.all_eq_true] at h ⊢
    intro d hd
    have h2 := h d hd
    by_cases hm : -p ∈ d
    · rw [decide_eq_true hm] at h2 ⊢
      have h3 : blk1 p (p :: r) d = true := by simpa using h2
      obtain ⟨l, a, b⟩ := adj_lit (by rw [List.all_append, wout_fmd, wout_fmd]; rfl) h3
      have key : ∀ x, x ∈ wout (tid (p :: r)) p ++ wout (tid d) (-p) → -x ∈ opp (p :: r) ++ opp (rst d p) := fun x hx => by
        rw [List.mem_append, mem_opp, mem_opp, Int.neg_neg, mem_rst]
        rcases List.mem_append.1 hx with y | y
        · unfold wout at y
          exact .inl (mem_tid.1 (List.mem_filter.1 y).1).1
        · unfold wout at y
          obtain ⟨y1, y2⟩ := List.mem_filter.1 y
          exact .inr ⟨(mem_tid.1 y1).1, bne_iff_ne.1 y2⟩
      have h4 : Cla css (opp (p :: r) ++ opp (rst d p)) := .inl ⟨-l, .fact (key l a), .fact (key _ b)⟩
      rw [claB_of h4]; rfl
    · rw [decide_eq_false hm]; rfl
theorem mx_ge (a : Int) (c : List Int) : a ≤ mx a c ∧ ∀ l ∈ c, varOf l ≤ mx a c := by
  unfold mx
  induction c generalizing a with
  | nil => exact ⟨Int.le_refl _, by simp⟩
  | cons l r ih =>
    obtain ⟨h1, h2⟩ := ih (max a (varOf l))
    rw [List.foldl_cons]
    refine ⟨by omega, fun x hx => ?_⟩
    rcases List.mem_cons.1 hx with e | e
    · subst e; omega
    · exact h2 x e
theorem mx_le (a : Int) (c : List Int) (h : a ≤ 1048576) : mx a c ≤ 1048576 := by
  unfold mx
  induction c generalizing a with
  | nil => exact h
  | cons l r ih =>
    have hv := varOf_range l
    exact ih (max a (varOf l)) (by omega)
theorem fitsP_mono {n m : Int} {c : List Int} (h : fitsP n c = true) (hm : n ≤ m) : fitsP m c = true := by
  unfold fitsP at h ⊢
  rw [List.all_eq_true] at h ⊢
  intro x hx
  have := h x hx
  rw [Bool.and_eq_true, decide_eq_true_eq] at this ⊢
  exact ⟨this.1, by omega⟩
theorem frm_with {n : Int} {css : List (List Int)} {d : List Int} (h : frm n css = true) (hd : d.all fmd = true) : frm (mx n d) (css ++ [d]) = true := by
  unfold frm at h ⊢
  rw [Bool.and_eq_true, decide_eq_true_eq] at h ⊢
  obtain ⟨g1, g2⟩ := mx_ge n d
  refine ⟨⟨by omega, mx_le n d h.1.2⟩, ?_⟩
  rw [List.all_append, Bool.and_eq_true]
  constructor
  · rw [List.all_eq_true]
    intro c hc
    exact fitsP_mono (List.all_eq_true.1 h.2 c hc) g1
  · rw [List.all_cons, List.all_nil, Bool.and_true]
    unfold fitsP
    rw [List.all_eq_true]
    intro x hx
    rw [Bool.and_eq_true, decide_eq_true_eq]
    exact ⟨List.all_eq_true.1 hd x hx, g2 x hx⟩
theorem shp_with {n : Int} {css : List (List Int)} {c d : List Int} (h : shp n css c = true) (hd : d.all fmd = true) : shp (mx n d) (css ++ [d]) c = true := by
  unfold shp at h ⊢
  rw [Bool.and_eq_true] at h ⊢
  exact ⟨frm_with h.1 hd, h.2⟩
theorem shp_own {n : Int} {css : List (List Int)} {c d : List Int} (h : shp n css c = true) (hd : d.all fmd = true) : shp (mx n d) (css ++ [d]) d = true := by
  unfold shp at h ⊢
  rw [Bool.and_eq_true] at h ⊢
  exact ⟨frm_with h.1 hd, hd⟩
theorem shp_long {n : Int} {css : List (List Int)} {c d : List Int} (h : shp n css c = true) : shp n css (tid (c ++ d)) = true := by
  unfold shp at h ⊢
  rw [Bool.and_eq_true] at h ⊢
  refine ⟨h.1, ?_⟩
  rw [List.all_eq_true]
  intro x hx
  exact (mem_tid.1 hx).2
theorem shp_all {n : Int} {css : List (List Int)} {c : List Int} (h : shp n css c = true) : c.all fmd = true := by unfold shp at h; rw [Bool.and_eq_true] at h; exact h.2
theorem fmd_i64 {x : Int} (h : fmd x = true) : i64 x := by have := fmd_range h; unfold i64; omega
theorem all_i64 {c : List Int} (h : c.all fmd = true) : ∀ x ∈ c, i64 x := fun x hx => fmd_i64 (List.all_eq_true.1 h x hx)
theorem few_with {css : List (List Int)} {d : List Int} (h : css.length + (css.map List.length).sum ≤ 1048576) (hd : d.length ≤ 1048576) : Few (css ++ [d]) := Few.of (by rw [List.length_append, List.length_singleton]; omega) (by unfold lsum; rw [List.map_append, List.sum_append]; simp; omega)
end Go.Proofs.YtkinilhapgagcabDoor
set_option linter.unusedSimpArgs false
set_option linter.unusedVariables false
namespace Go.Proofs.YtkinilhapgagcabDoor
open Go Go.RowKit

/-- turned round, and its own first once more -/
def tw8 (c : List Int) : List Int := c.reverse ++ c.take 1
theorem mem_tw8 {c : List Int} {x : Int} : x ∈ tw8 c ↔ x ∈ c := by
  unfold tw8
  rw [List.mem_append, List.mem_reverse]
  exact ⟨fun h => h.elim id fun h => List.mem_of_mem_take h, .inl⟩
theorem tw8_len (c : List Int) : (tw8 c).length ≤ c.length + 1 := by unfold tw8; simp; omega
/-- the first k clauses, from T on -/
def rot8 (css : List (List Int)) (T k : Nat) : List (List Int) := (List.range k).map fun i => tw8 (css.getD ((i + T) % css.length) [])
theorem rot8_more (css : List (List Int)) (T k : Nat) : rot8 css T (k + 1) = rot8 css T k ++ [tw8 (css.getD ((k + T) % css.length) [])] := by
  unfold rot8; rw [List.range_succ, List.map_append]; rfl
theorem rot8_eq {css : List (List Int)} {T : Nat} (h : T < css.length) : rot8 css T css.length = (css.drop T ++ css.take T).map tw8 := by
  unfold rot8
  apply List.ext_getElem
  · simp; omega
  · intro i h1 h2
    simp only [List.length_map, List.length_range] at h1
    rw [List.getElem_map, List.getElem_map, List.getElem_range, List.getElem_append]
    congr 1
    split
    · rename_i h3
      rw [List.length_drop] at h3
      have e : (i + T) % css.length = T + i := by rw [Nat.mod_eq_of_lt (by omega)]; omega
      rw [e, List.getElem_drop, List.getD_eq_getElem?_getD, List.getElem?_eq_getElem (by omega)]; rfl
    · rename_i h3
      rw [List.length_drop] at h3
      have e : (i + T) % css.length = i - (css.drop T).length := by
        rw [List.length_drop, Nat.mod_eq_sub_mod (by omega), Nat.mod_eq_of_lt (by omega)]; omega
      rw [e, List.getElem_take, List.getD_eq_getElem?_getD, List.getElem?_eq_getElem (by rw [List.length_drop]; omega)]; rfl
theorem lsum_ap8 (a b : List (List Int)) : lsum (a ++ b) = lsum a + lsum b := by unfold lsum; simp
theorem lsum_tw8 (a : List (List Int)) : lsum (a.map tw8) ≤ lsum a + a.length := by
  induction a with
  | nil => simp [lsum]
  | cons c r ih =>
    have := tw8_len c
    unfold lsum at ih ⊢
    simp only [List.map_cons, List.sum_cons, List.length_cons]
    omega
/-- the same clauses, as sets of literals, each as often -/
structure Ro (css gs : List (List Int)) : Prop where
  perm : gs.Perm (css.map tw8)
  sum : lsum gs ≤ lsum css + css.length
theorem Ro.done {css : List (List Int)} {T : Nat} (h : css.length = 0 ∨ T < css.length) : Ro css (rot8 css T css.length) := by
  rcases h with h | h
  · obtain rfl : css = [] := List.length_eq_zero_iff.1 h
    exact ⟨List.Perm.refl _, by simp [rot8, lsum]⟩
  · rw [rot8_eq h]
    refine ⟨?_, ?_⟩
    · refine List.Perm.map _ ?_
      have := List.perm_append_comm (l₁ := css.drop T) (l₂ := css.take T)
      rwa [List.take_append_drop] at this
    · refine Nat.le_trans (lsum_tw8 _) ?_
      have e : lsum css = lsum (css.take T) + lsum (css.drop T) := by rw [← lsum_ap8, List.take_append_drop]
      rw [lsum_ap8, List.length_append, List.length_drop, List.length_take]
      omega
theorem Ro.len {css gs : List (List Int)} (h : Ro css gs) : gs.length = css.length := by rw [h.perm.length_eq, List.length_map]
theorem Ro.of {css gs : List (List Int)} (h : Ro css gs) : ∀ g ∈ gs, ∃ c ∈ css, ∀ x, x ∈ g ↔ x ∈ c := fun g hg => by
  obtain ⟨c, hc, rfl⟩ := List.mem_map.1 (h.perm.mem_iff.1 hg)
  exact ⟨c, hc, fun x => mem_tw8⟩
theorem Ro.all {css gs : List (List Int)} (h : Ro css gs) : ∀ c ∈ css, ∃ g ∈ gs, ∀ x, x ∈ c ↔ x ∈ g := fun c hc => ⟨tw8 c, h.perm.mem_iff.2 (List.mem_map.2 ⟨c, hc, rfl⟩), fun x => mem_tw8.symm⟩
theorem all_set {p : Int → Bool} {a b : List Int} (h : ∀ x, x ∈ a ↔ x ∈ b) : a.all p = b.all p := by
  rw [Bool.eq_iff_iff, List.all_eq_true, List.all_eq_true]
  exact ⟨fun g x hx => g x ((h x).2 hx), fun g x hx => g x ((h x).1 hx)⟩
theorem Ro.allq {css gs : List (List Int)} (h : Ro css gs) {q q' : List Int → Bool} (hq : ∀ a b : List Int, (∀ x, x ∈ a ↔ x ∈ b) → q a = q' b) : css.all q = gs.all q' := by
  rw [Bool.eq_iff_iff, List.all_eq_true, List.all_eq_true]
  constructor
  · intro g d hd
    obtain ⟨c, hc, e⟩ := h.of d hd
    rw [← hq c d fun x => (e x).symm]; exact g c hc
  · intro g c hc
    obtain ⟨d, hd, e⟩ := h.all c hc
    rw [hq c d e]; exact g d hd
theorem Ro.frm {n : Int} {css gs : List (List Int)} (h : Ro css gs) : frm n css = frm n gs := by
  unfold Go.Proofs.YtkinilhapgagcabDoor.frm
  rw [h.allq (q := fitsP n) (q' := fitsP n) fun a b e => all_set e]
/-- c's first twice, and the rest turned round -/
def bk8 (c : List Int) : List Int := (c.take 1 ++ c.take 1) ++ (c.drop 1).reverse
theorem bk8_cons (p : Int) (r : List Int) : bk8 (p :: r) = p :: p :: r.reverse := by unfold bk8; simp
theorem mem_bk8 {c : List Int} {x : Int} : x ∈ bk8 c ↔ x ∈ c := by
  cases c with
  | nil => simp [bk8]
  | cons p r => rw [bk8_cons]; simp
theorem bk8_len (c : List Int) : (bk8 c).length ≤ c.length + 1 := by
  cases c with
  | nil => simp [bk8]
  | cons p r => rw [bk8_cons]; simp
theorem Ro.shp {n : Int} {css gs : List (List Int)} (h : Ro css gs) (c : List Int) : shp n css c = shp n gs (bk8 c) := by
  unfold Go.Proofs.YtkinilhapgagcabDoor.shp
  rw [h.frm, all_set (a := c) (b := bk8 c) fun x => mem_bk8.symm]
theorem opp_set {a b : List Int} (h : ∀ x, x ∈ a ↔ x ∈ b) : ∀ x, x ∈ opp a ↔ x ∈ opp b := fun x => by rw [mem_opp, mem_opp, h]
theorem Ro.cla {css gs : List (List Int)} (h : Ro css gs) {L L' : List Int} (hL : ∀ x, x ∈ L ↔ x ∈ L') : claB css L = claB gs L' :=
  claB_congr ⟨fun hc => hc.mono h.all fun x hx => .fact ((hL x).1 hx), fun hc => hc.mono h.of fun x hx => .fact ((hL x).2 hx)⟩
theorem Ro.fol {css gs : List (List Int)} (h : Ro css gs) (c : List Int) : folB css c = folB gs (bk8 c) := h.cla (opp_set fun x => mem_bk8.symm)
theorem Ro.saf {css gs : List (List Int)} (h : Ro css gs) (c : List Int) : safB css c = safB gs (bk8 c) := by
  cases c with
  | nil => rfl
  | cons p r =>
    have hm : ∀ x, x ∈ p :: r ↔ x ∈ p :: p :: r.reverse := fun x => by rw [← bk8_cons]; exact mem_bk8.symm
    rw [bk8_cons]
    show parB css (opp (p :: r)) p css = parB gs (opp (p :: p :: r.reverse)) p gs
    unfold parB
    refine h.allq fun a b e => ?_
    rw [show decide (-p ∈ a) = decide (-p ∈ b) from decide_eq_decide.2 (e _)]
    congr 1
    refine h.cla fun x => ?_
    rw [List.mem_append, List.mem_append, opp_set hm x, mem_opp (c := rst a p), mem_opp (c := rst b p), mem_rst, mem_rst, e]
theorem Ro.knd {css gs : List (List Int)} (h : Ro css gs) (c : List Int) : kndI css c = kndI gs (bk8 c) := by
  unfold kndI; rw [h.fol, h.saf]
theorem Ro.kn {n : Int} {css gs : List (List Int)} (h : Ro css gs) (c : List Int) : kn8 n css c = kn8 n gs (bk8 c) := by
  unfold kn8; rw [h.shp, h.knd]
theorem Ro.blk {css gs : List (List Int)} (h : Ro css gs) (c : List Int) : blkB css c = blkB gs (bk8 c) := by
  cases c with
  | nil => rfl
  | cons p r =>
    have hm : ∀ x, x ∈ p :: r ↔ x ∈ p :: p :: r.reverse := fun x => by rw [← bk8_cons]; exact mem_bk8.symm
    rw [bk8_cons]
    show blkA p (p :: r) css = blkA p (p :: p :: r.reverse) gs
    unfold blkA
    refine h.allq fun a b e => ?_
    rw [show decide (-p ∈ a) = decide (-p ∈ b) from decide_eq_decide.2 (e _)]
    congr 1
    unfold blk1
    rw [tid_congr (zs := p :: r) (ys := p :: p :: r.reverse) fun x _ => hm x, tid_congr (zs := a) (ys := b) fun x _ => e x]
theorem range_self (css : List (List Int)) : (List.range css.length).map (fun i => css.getD i []) = css := by
  apply List.ext_getElem
  · simp
  · intro i h1 h2
    rw [List.getElem_map, List.getElem_range, List.getD_eq_getElem?_getD, List.getElem?_eq_getElem h2]; rfl
theorem ptnK_num (css : List (List Int)) (l : Int) : (ptnK css l css.length).length = (css.filter fun c => fmd l && c.contains l).length := by
  have h : css.filter (fun c => fmd l && c.contains l) = ((List.range css.length).map (fun i => css.getD i [])).filter (fun c => fmd l && c.contains l) := by rw [range_self]
  rw [h, List.filter_map, List.length_map]
  unfold ptnK
  rw [List.length_map]
  rfl
theorem Ro.ptn {n : Int} {css gs : List (List Int)} (h : Ro css gs) (l : Int) : (ptnA n css l).length = (ptnA n gs l).length := by
  unfold ptnA
  rw [← h.frm (n := n)]
  split
  · rw [ptnK_num, ptnK_num, (h.perm.filter _).length_eq, List.filter_map, List.length_map]
    congr 1
    apply List.filter_congr
    intro c _
    show _ = (fmd l && (tw8 c).contains l)
    congr 1
    rw [Bool.eq_iff_iff, List.contains_iff_mem, List.contains_iff_mem]
    exact mem_tw8.symm
  · rfl
theorem Ro.few {css gs : List (List Int)} (h : Ro css gs) (hb : css.length + (css.map List.length).sum ≤ 1048576) : Few gs := Few.of (by rw [h.len]; omega) (by have := h.sum; unfold lsum at this ⊢; omega)
end Go.Proofs.YtkinilhapgagcabDoor
set_option linter.unusedSimpArgs false
set_option linter.unusedVariables false
namespace Go.Proofs.YtkinilhapgagcabDoor
open Go Go.RowKit
theorem infoL8 : (Tryd.prog.info? 25).map (fun i => (i.zero, i.size, i.bytes)) = some (some (.slice none 0 0), 1, 24) := by kernel_rfl
theorem drop_rev8 {z : List Int} {i : Nat} (h : i < z.length) : (z.drop i).reverse = (z.drop (i + 1)).reverse ++ [z.getD i 0] := by
  rw [List.drop_eq_getElem_cons h, List.reverse_cons, List.getD_eq_getElem?_getD, List.getElem?_eq_getElem h]; rfl
theorem tw8_cons {z : List Int} (h : z ≠ []) : tw8 z = z.reverse ++ [z.getD 0 0] := by
  unfold tw8
  cases z with
  | nil => exact absurd rfl h
  | cons a r => simp
theorem own_onemore8 {B : Nat} {w : World} {v : Value} {zs : List Int} {l : Int} (h : w.ownsRow B 3 1 v (zs.length + 1) (zs.map (Value.int .i64) ++ [.int .i64 l])) : Own B w v (zs ++ [l]) := by
  unfold Own; simpa using h
theorem rd_two8 (w : World) (l : Int) : Rd (w.alloc (.cells #[.int .i64 l, .int .i64 l] 3)) (.slice (some ⟨w.heap.size, 0, none⟩) 2 2) [l, l] := by
  refine ⟨by simp, _, 2, rfl, Nat.le_refl _, by unfold maxLen; decide, by simp, fun _ => ⟨w.heap.size, 0, rfl, by rw [World.size_alloc]; exact Nat.lt_succ_self _, fun j hj => ?_⟩⟩
  have hh := World.alloc_heap_new w (.cells #[.int .i64 l, .int .i64 l] 3)
  show (match (w.alloc (.cells #[.int .i64 l, .int .i64 l] 3)).heap[w.heap.size]? with | some (Obj.cells c elem frozen) => c[0 + j]? | x => none) = _
  rw [hh, Nat.zero_add]
  match j, hj with
  | 0, _ => rfl
  | 1, _ => rfl
theorem rem8 (k T n : Nat) : ((k : Int) + (T : Int)).tmod (n : Int) = (((k + T) % n : Nat) : Int) := by rw [← Int.natCast_add, ← Int.ofNat_tmod]
theorem ne08 {n : Nat} (h : 0 < n) : ((n : Int) == 0) = false := by rw [beq_eq_false_iff_ne]; omega
theorem wq8 {q : Nat} (hq : q ≤ 1048576) : IntKind.i64.wrap (q : Int) = (q : Int) := by rw [IntKind.wrap_i64]; omega
theorem wq9 {q : Nat} (hq : q ≤ 1048576) : wrap64 (q : Int) = (q : Int) := by unfold wrap64; omega
theorem wa8 {k T : Nat} (hk : k ≤ 1048576) (hT : T ≤ 1048576) : wrap64 ((k : Int) + (T : Int)) = (k : Int) + (T : Int) := by unfold wrap64; omega
theorem wa9 {k T : Nat} (hk : k ≤ 1048576) (hT : T ≤ 1048576) : IntKind.i64.wrap ((k : Int) + (T : Int)) = (k : Int) + (T : Int) := by rw [IntKind.wrap_i64]; omega
/-- what Pick answers -/
def pk8 (z : Int) (k : Nat) : Nat := (if z.tmod k < 0 then z.tmod k + k else z.tmod k).toNat
theorem pk8_lt (z : Int) {k : Nat} (hk : 0 < k) : pk8 z k < k := by
  have h1 : z.tmod k < k := Int.tmod_lt_of_pos z (by omega)
  have h2 : -(k : Int) < z.tmod k := by
    have := Int.tmod_lt_of_pos (-z) (show (0 : Int) < k by omega)
    rw [Int.neg_tmod] at this; omega
  unfold pk8; split <;> omega
theorem pick8_any (z : Int) (k : Nat) (w : World) (hk : 0 < k) (hk2 : k ≤ 1048576) :
    Calls Tryd.prog 13 #[.int .i64 z, .int .i64 k] w fun e w' => e = .returned (.int .i64 (pk8 z k)) ∧ w' = w := by
  have h1 : z.tmod k < k := Int.tmod_lt_of_pos z (by omega)
  have h2 : -(k : Int) < z.tmod k := by
    have := Int.tmod_lt_of_pos (-z) (show (0 : Int) < k by omega)
    rw [Int.neg_tmod] at this; omega
  have hk0 : (k : Int) ≠ 0 := by omega
  have hkb : ((k : Int) == 0) = false := by simp; omega
  have hwr : IntKind.i64.wrap (z.tmod k) = z.tmod k := by rw [IntKind.wrap_i64]; omega
  have hsm : wrap64 (z.tmod k + k) = z.tmod k + k := by unfold wrap64; omega
  have HE : Hid ((pk8 z k : Int) = if z.tmod k < 0 then z.tmod k + k else z.tmod k) := by show _ = _; unfold pk8; split <;> omega
  rw [HE.out]
  generalize (k : Int) = kk at *
  by_cases hn : z.tmod kk < 0
  · rw [if_pos hn]
    go_enter Tryd.func13, Tryd.ntmps13
    go_wp2
    go_ret
    exact ⟨by first | rfl | (simp [hsm]; done), rfl⟩
  · rw [if_neg hn]
    go_enter Tryd.func13, Tryd.ntmps13
    go_wp2
    go_ret
    exact ⟨rfl, rfl⟩
theorem bk_end {c : List Int} {m : Nat} (h : (c.length = 0 ∧ m = 0) ∨ m = 1) : (c.take 1 ++ c.take 1) ++ (c.drop m).reverse = bk8 c := by
  unfold bk8
  rcases h with ⟨h, rfl⟩ | rfl
  · obtain rfl : c = [] := List.length_eq_zero_iff.1 h
    rfl
  · rfl
end Go.Proofs.YtkinilhapgagcabDoor
