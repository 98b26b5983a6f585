/-
  depotlaw04.swept, walked.
  KEEP: set on app at below new trans refl start ap kept rd rds mono
-/
import Derived.Test.YtnglgcipjbpgoaaArK
set_option linter.unusedSimpArgs false
set_option linter.unusedVariables false
namespace Go.Proofs.Ytnglgcipjbpgoaa
open Go Go.RowKit Go.Maps

/-- the book behind a Sweep -/
def ren : Int → List Ent → List Ent
  | _, [] => []
  | q, x :: r => if x.2.live then (x.1, { x.2 with pl := q }) :: ren (q + 1 + x.2.lits.length) r else x :: ren q r
theorem ren_len : ∀ (L : List Ent) (q : Int), (ren q L).length = L.length
  | [], _ => rfl
  | x :: r, q => by unfold ren; split <;> simp [ren_len r]
theorem ren_mem : ∀ {L : List Ent} {q : Int} {x : Ent}, x ∈ ren q L → ∃ y ∈ L, x.1 = y.1 ∧ x.2.lits = y.2.lits
  | y :: r, q, x, h => by
    unfold ren at h
    split at h
    · rcases List.mem_cons.1 h with rfl | h
      · exact ⟨y, List.mem_cons_self, rfl, rfl⟩
      · obtain ⟨z, hz, e⟩ := ren_mem h
        exact ⟨z, List.mem_cons_of_mem _ hz, e⟩
    · rcases List.mem_cons.1 h with rfl | h
      · exact ⟨x, List.mem_cons_self, rfl, rfl⟩
      · obtain ⟨z, hz, e⟩ := ren_mem h
        exact ⟨z, List.mem_cons_of_mem _ hz, e⟩
theorem bk_ren : ∀ (L : List Ent) (q : Int), bk (ren q L) = renum q (bk L)
  | [], _ => rfl
  | x :: r, q => by
    unfold ren
    cases hx : x.2.live
    · simp only [Bool.false_eq_true, if_false]
      rw [bk, bk, hx, bk_ren r q]; simp
    · simp only [if_true]
      rw [bk, bk, hx, bk_ren r]
      simp only [if_true, List.singleton_append, renum]
theorem ren_cons (q : Int) (x : Ent) (r : List Ent) : ren q (x :: r) = if x.2.live then (x.1, { x.2 with pl := q }) :: ren (q + 1 + x.2.lits.length) r else x :: ren q r := rfl
theorem ren_append : ∀ (L M : List Ent) (q : Int), ren q (L ++ M) = ren q L ++ ren (q + (wordsL (bk L)).length) M
  | [], M, q => by simp [ren, bk, wordsL]
  | x :: r, M, q => by
    rw [List.cons_append, ren_cons, ren_cons]
    cases hx : x.2.live
    · simp only [Bool.false_eq_true, if_false]
      rw [ren_append r M q, bk, hx]; simp
    · simp only [if_true]
      rw [ren_append r M, bk, hx, List.cons_append]
      have e : q + 1 + (x.2.lits.length : Int) + ((wordsL (bk r)).length : Int) = q + ((wordsL ((if true = true then [(x.2.pl, x.2.lits, x.2.learnt)] else []) ++ bk r)).length : Int) := by
        simp [wordsL]; omega
      rw [e]
theorem went_at : ∀ {M N : LvL} {x : Int × List Int × Bool} {q : Int}, (∀ y ∈ M, y.1 ≠ x.1) → went q (M ++ x :: N) x.1 = some (q + (wordsL M).length)
  | [], N, x, q, _ => by simp [went, wordsL]
  | y :: r, N, x, q, h => by
    rw [List.cons_append]
    unfold went
    rw [if_neg (h y List.mem_cons_self), went_at (fun z hz => h z (List.mem_cons_of_mem _ hz))]
    congr 1
    simp [wordsL]; omega
theorem bk_at {L : List Ent} {i : Nat} (hi : i < L.length) (hl : L[i].2.live = true) : bk L = bk (L.take i) ++ (L[i].2.pl, L[i].2.lits, L[i].2.learnt) :: bk (L.drop (i + 1)) := by
  conv => lhs; rw [← List.take_append_drop i L, List.drop_eq_getElem_cons hi, bk_append, bk, hl]
  simp
theorem went_bk {S : List Seg} {L : List Ent} (he : bk L = lv 0 S) {i : Nat} (hi : i < L.length) (hl : L[i].2.live = true) : went 0 (lv 0 S) L[i].2.pl = some ((wordsL (bk (L.take i))).length : Int) := by
  have hr := lv_rises S 0
  rw [← he, bk_at hi hl] at hr ⊢
  rw [went_at (x := (L[i].2.pl, L[i].2.lits, L[i].2.learnt)) (fun y hy => ?_)]
  · simp
  · have := (List.pairwise_append.1 hr).2.2 y hy _ List.mem_cons_self
    exact Int.ne_of_lt this
theorem rowsK_append (L M : List Ent) : rowsK (L ++ M) = rowsK L ++ rowsK M := by simp [rowsK]
theorem rowsK_len (L : List Ent) : (rowsK L).length = L.length * 4 := by
  induction L with
  | nil => rfl
  | cons x r ih => rw [show rowsK (x :: r) = [.int .i64 x.2.pl, x.1, .bool x.2.learnt, .bool x.2.live] ++ rowsK r from rfl]; simp [ih]; omega
/-- the book as it is in the midst of a Sweep -/
def mid (L : List Ent) (i : Nat) : List Ent := ren 0 (L.take i) ++ L.drop i
theorem mid_len (L : List Ent) (i : Nat) (h : i ≤ L.length) : (mid L i).length = L.length := by simp [mid, ren_len]; omega
theorem mid_zero (L : List Ent) : mid L 0 = L := by simp [mid, ren]
theorem mid_all (L : List Ent) : mid L L.length = ren 0 L := by simp [mid]
theorem mid_at {L : List Ent} {i : Nat} (hi : i < L.length) : (mid L i)[i]? = some L[i] := by
  unfold mid
  rw [List.getElem?_append_right (by simp [ren_len]; omega)]
  simp [ren_len, List.getElem?_drop]
  rw [show i + (i - min i L.length) = i by omega, List.getElem?_eq_getElem hi]
theorem mid_dead {L : List Ent} {i : Nat} (hi : i < L.length) (hl : L[i].2.live = false) : mid L (i + 1) = mid L i := by
  unfold mid
  rw [List.take_succ_eq_append_getElem hi, ren_append, List.drop_eq_getElem_cons hi, List.append_assoc]
  congr 1
  simp [ren, hl]
theorem mid_live {L : List Ent} {i : Nat} (hi : i < L.length) (hl : L[i].2.live = true) : rowsK (mid L (i + 1)) = (rowsK (mid L i)).set (i * 4) (.int .i64 ((wordsL (bk (L.take i))).length : Int)) := by
  unfold mid
  rw [List.take_succ_eq_append_getElem hi, ren_append, List.drop_eq_getElem_cons hi, List.append_assoc, rowsK_append, rowsK_append, rowsK_append, List.set_append_right _ _ (by rw [rowsK_len, ren_len]; simp; omega)]
  congr 1
  rw [rowsK_len, ren_len, List.length_take, show i * 4 - min i L.length * 4 = 0 by omega]
  generalize L.drop (i + 1) = D
  generalize L[i] = x at *
  simp [ren, hl, rowsK]
theorem mid_mem {L : List Ent} {i : Nat} {x : Ent} (h : x ∈ mid L i) : ∃ y ∈ L, x.1 = y.1 ∧ x.2.lits = y.2.lits := by
  unfold mid at h
  rcases List.mem_append.1 h with h | h
  · obtain ⟨y, hy, e⟩ := ren_mem h
    exact ⟨y, List.mem_of_mem_take hy, e⟩
  · exact ⟨x, List.mem_of_mem_drop h, rfl, rfl⟩
theorem TellsAt.grown {W W' : World} {m mb : Nat} {M : LvL} {B K s : Nat} {e : TypeId} {v : Value} {xs : List Value} (h : TellsAt W m mb M) (hr : W.ownsRow B e s v K xs) (hne : 89 ≠ e) (hg : W.grownBy W' v.ownBlock) : TellsAt W' m mb M := by
  obtain ⟨n, D, hD, hT⟩ := h.map
  exact ⟨h.box.kept hg (h.box.not_row hne hr), n, D, World.ownsMap.kept hD hg (mapR_row hD hr), hT⟩
theorem TellsAt.below {W W' : World} {m mb : Nat} {M : LvL} (h : TellsAt W m mb M) (hb : Below W.heap.size W W') : TellsAt W' m mb M := by
  obtain ⟨n, D, hD, hT⟩ := h.map
  exact ⟨h.box.below hb, n, D, World.ownsMap.kept hD (grown_below hb) (by simp), hT⟩
theorem Ar.row {W W' : World} {b : Nat} {v : Value} {S : List Seg} {B K s : Nat} {e : TypeId} {u : Value} {xs : List Value} (h : Ar W b v S) (hr : W.ownsRow B e s u K xs) (h1 : 83 ≠ e) (h2 : 3 ≠ e) (hg : W.grownBy W' u.ownBlock) : Ar W' b v S :=
  ⟨h.box.kept hg (h.box.not_row h1 hr), row_apart h2 h.own hr hg, h.ok⟩
theorem func_not_nil (gf : Nat) (lb : Array Value) (w : World) : (binOp BinOp.eql 70 (Value.func (Fn.func gf) #[] lb) Value.nilFunc).run Try.prog w = .ok (.bool false) w := by rfl

end Go.Proofs.Ytnglgcipjbpgoaa
