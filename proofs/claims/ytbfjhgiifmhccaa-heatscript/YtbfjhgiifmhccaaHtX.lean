/-
  heat: scores stay within 1e100; rows of lists beside a Heat; a script that is read.
  KEEP: set on app at below new trans refl start kept mono lt add none own nil put len pos other cell ty blt fz box k p r pr a0 a1 a2 c0 c1 c2 hb setK setP setR unique grown step fin bij up q1 q2 pl held mk v1 v2 t1 t2 hs few cut root z kl nl sl d1 d2 row down has holds stp bel heat mem srt inn inj out lays ap kind rd rds
-/
import Derived.Test.YtbfjhgiifmhccaaHtW
import Derived.Test.YtbfjhgiifmhccaaHtPk
set_option linter.unusedSimpArgs false
set_option linter.unusedVariables false
namespace Go.Proofs.Ytbfjhgiifmhccaa
open Go Go.RowKit

/-- neither a score nor the step is above 1e100 -/
def Bnd (K : List Nat) (st : Nat) : Prop := (∀ k, gt K k ≤ top) ∧ st ≤ top
theorem top_two : top ≤ fadd top top := (add_ok (Nat.le_of_lt top_lt) (Nat.le_of_lt top_lt)).2.2
theorem scl_two {x : Nat} (h : x ≤ fadd top top) : scl x ≤ top := Nat.le_trans (mul_mono h lim4.1 tny_lt) lim1
theorem scl_four {x : Nat} (h : x ≤ nr (4 * val top)) : scl x ≤ top := Nat.le_trans (mul_mono h lim4.2 tny_lt) lim3
theorem gt_scl {K : List Nat} {B : Nat} (h : ∀ k, gt K k ≤ B) (hB : ∀ x, x ≤ B → scl x ≤ top) (k : Nat) : gt (K.map scl) k ≤ top := by
  by_cases hk : k < K.length
  · rw [gt_map hk]; exact hB _ (h k)
  · unfold gt; rw [List.getD_eq_getElem?_getD, List.getElem?_eq_none (by simpa using hk)]; exact Nat.zero_le _
theorem Bnd.bump {K : List Nat} {st : Nat} (h : Bnd K st) (v : Nat) : Bnd (bmpK K st v) (bmpS K st v) := by
  have hx : fadd (gt K v) st ≤ fadd top top := add_mono (h.1 v) h.2 (Nat.le_of_lt top_lt) (Nat.le_of_lt top_lt)
  have hs : ∀ B, fadd (gt K v) st ≤ B → top ≤ B → ∀ k, gt (K.set v (fadd (gt K v) st)) k ≤ B := fun B h1 h2 k => by
    by_cases hv : v < K.length
    · rw [gt_set hv]; split
      · exact h1
      · exact Nat.le_trans (h.1 k) h2
    · rw [List.set_eq_of_length_le (by omega)]; exact Nat.le_trans (h.1 k) h2
  unfold bmpK bmpS
  by_cases ht : top < fadd (gt K v) st
  · rw [if_pos ht, if_pos ht]
    exact ⟨gt_scl (hs _ hx top_two) fun x hx => scl_two hx, scl_two (Nat.le_trans h.2 top_two)⟩
  · rw [if_neg ht, if_neg ht]
    exact ⟨hs _ (by omega) (Nat.le_refl _), h.2⟩
theorem Bnd.cool {K : List Nat} {st dec : Nat} (h : Bnd K st) (h1 : 4602678819172646912 ≤ dec) (h2 : dec ≤ 4607182418800017408) : Bnd (colK K dec st) (colS dec st) := by
  have hd : dec < infR := Nat.lt_of_le_of_lt h2 (by decide)
  have hx := div_top h.2 top_lt hd h1
  unfold colK colS
  by_cases ht : top < fdiv st dec
  · rw [if_pos ht, if_pos ht]
    exact ⟨gt_scl h.1 fun x hx => scl_two (Nat.le_trans hx top_two), scl_four hx⟩
  · rw [if_neg ht, if_neg ht]
    exact ⟨h.1, by omega⟩
theorem Bnd.start (n : Nat) : Bnd (List.replicate (n + 1) 0) 4607182418800017408 := ⟨fun k => by rw [gt_repl]; exact Nat.zero_le _, by decide⟩

section
variable {B b n dec st : Nat} {v : Hv} {K : List Nat} {H : Nat → Bool} {W W' : World}
/-- a Heat's blocks are of its own types -/
theorem Ht.types (h : Ht B W b v n dec st K H) {k : Nat} (hk : v.own b k) : Tf W k 70 ∨ Tf W k 23 ∨ Tf W k 21 := by
  obtain ⟨P, R, hz, _⟩ := h.z
  rcases hk with rfl | hk | hk | hk
  · exact .inl ⟨_, _, hz.box⟩
  · exact .inr (.inl (row_tf hz.k hk))
  · exact .inr (.inr (row_tf hz.p hk))
  · exact .inr (.inr (row_tf hz.r hk))
theorem Ht.foreign (h : Ht B W b v n dec st K H) {C e sz m : Nat} {u : Value} {xs : List Value} (hr : W.ownsRow C e sz u m xs) (h1 : e ≠ 70) (h2 : e ≠ 23) (h3 : e ≠ 21) {k : Nat} (hk : some k = u.ownBlock) : ¬ v.own b k := fun ho => by
  have ht := row_tf hr hk
  rcases h.types ho with t | t | t
  · exact h1 (ht.unique t)
  · exact h2 (ht.unique t)
  · exact h3 (ht.unique t)
theorem row_heat {C e sz m : Nat} {u : Value} {xs : List Value} {P' : Nat → Prop} (hr : W.ownsRow C e sz u m xs) (h : Ht B W b v n dec st K H) (hm : Mf W (v.own b) W' P') (h1 : e ≠ 70) (h2 : e ≠ 23) (h3 : e ≠ 21) : W'.ownsRow C e sz u m xs :=
  row_kept hr fun k hk => hm.block k (hr.lt k hk.symm).2 (h.foreign hr h1 h2 h3 hk)
theorem own_heat {C : Nat} {u : Value} {zs : List Int} {P' : Nat → Prop} (hr : Own C W u zs) (h : Ht B W b v n dec st K H) (hm : Mf W (v.own b) W' P') : Own C W' u zs := row_heat hr h hm (by decide) (by decide) (by decide)
theorem rows_heat {C : Nat} {u : Value} {L : List Cls} {P' : Nat → Prop} (hr : OwnR C W u L) (h : Ht B W b v n dec st K H) (hm : Mf W (v.own b) W' P') : OwnR C W' u L :=
  ⟨row_heat hr.row h hm (by decide) (by decide) (by decide), fun x hx => own_heat (hr.own x hx) h hm, hr.ap⟩
/-- a Heat stays where a row of lists turns -/
theorem Ht.rows {C e sz m : Nat} {u : Value} {xs : List Value} (h : Ht B W b v n dec st K H) (hr : W.ownsRow C e sz u m xs) (h1 : e ≠ 70) (h2 : e ≠ 23) (h3 : e ≠ 21) (hg : W.grownBy W' u.ownBlock) : Ht B W' b v n dec st K H :=
  h.kept fun k hk => hg.block k (h.lt k hk).2 fun e1 => h.foreign hr h1 h2 h3 e1 hk
end
theorem ord_few {κ : Nat → Nat} {H : Nat → Bool} {n : Nat} {S : List Nat} (h : IsOrd κ H n S) : S.length ≤ n :=
  few_of n S (h.srt.imp fun {a b} hab e => by subst e; rw [ahd_irr] at hab; cases hab) fun x hx => ⟨((h.mem x).1 hx).1, ((h.mem x).1 hx).2.1⟩

/-- a call of a script -/
structure HOp where
  on : Int
  kind : Int
  n : Int
/-- a script that is read -/
def RdH (W : World) (s : Value) (ops : List HOp) : Prop :=
  ∃ a c, s = .slice a ops.length c ∧ ops.length ≤ c ∧ c ≤ maxLen ∧ ops.length * 24 ≤ 140737488351232 ∧ ∀ (j : Nat) (hj : j < ops.length), ∃ b off, a = some ⟨b, off, none⟩ ∧ b < W.heap.size ∧
    W.cell? ⟨b, off + j * 3, none⟩ = some (.int .i64 ops[j].on) ∧ W.cell? ⟨b, off + j * 3 + 1, none⟩ = some (.int .i64 ops[j].kind) ∧ W.cell? ⟨b, off + j * 3 + 2, none⟩ = some (.int .i64 ops[j].n)
theorem RdH.below {W W' : World} {s : Value} {ops : List HOp} (h : RdH W s ops) (hb : Below W.heap.size W W') : RdH W' s ops := by
  obtain ⟨a, c, e, h1, h2, h5, h3⟩ := h
  refine ⟨a, c, e, h1, h2, h5, fun j hj => ?_⟩
  obtain ⟨b, off, e1, hl, c0, c1, c2⟩ := h3 j hj
  have hc : ∀ o, W'.cell? ⟨b, o, none⟩ = W.cell? ⟨b, o, none⟩ := fun o => hb.cell (p := ⟨b, o, none⟩) hl
  exact ⟨b, off, e1, Nat.lt_of_lt_of_le hl hb.size, by rw [hc]; exact c0, by rw [hc]; exact c1, by rw [hc]; exact c2⟩
/-- a Heat behind calls of a script, and the lists that Order answered -/
def RunS (w wx : World) (b n dec : Nat) (u : Value) (k : Nat) : Prop := ∃ v st K H L, Ht w.heap.size wx b v n dec st K H ∧ Bnd K st ∧ OwnR w.heap.size wx u L ∧ L.length ≤ k ∧ (∀ x ∈ L, x.2.length ≤ 60) ∧ (k = 0 → H = fun _ => true) ∧ Below w.heap.size w wx
theorem RunS.heat {w wx w' : World} {b n dec k : Nat} {u : Value} {v v' : Hv} {st st' : Nat} {K K' : List Nat} {H H' : Nat → Bool} {L : List Cls} (h : Ht w.heap.size wx b v n dec st K H) (ho : OwnR w.heap.size wx u L) (hL : L.length ≤ k) (hx : ∀ x ∈ L, x.2.length ≤ 60) (hb : Below w.heap.size w wx) (h' : Ht w.heap.size w' b v' n dec st' K' H') (hB : Bnd K' st') (hm : Mf wx (v.own b) w' (v'.own b)) : RunS w w' b n dec u (k + 1) :=
  ⟨v', st', K', H', L, h', hB, rows_heat ho h hm, by omega, hx, fun e => by omega, Mf.bel hb (fun i hi => (h.lt i hi).1) hm⟩
end Go.Proofs.Ytbfjhgiifmhccaa
