/-
  Entries in memory: what a slice of entries reads; a row of entries of a call's own, its lists apart.
  KEEP: nil below mono grown app rde form len row own ap cells
-/
import Derived.Test.YtgngdohhlhlcpaaLnP
import Derived.Test.YtgngdohhlhlcpaaGrow
import Derived.Test.YtgngdohhlhlcpaaAppK
set_option linter.unusedSimpArgs false
set_option linter.unusedVariables false
namespace Go.Proofs.Ytgngdohhlhlcpaa
open Go.RowKit

theorem infoE : (Try.prog.info? 47).map (fun i => (i.zero, i.size, i.bytes)) = some (some (.agg #[.int .i64 0, .int .i64 0, .slice none 0 0]), 3, 40) := by kernel_rfl

/-- the slice reads the steps l -/
def RdE (w : World) (v : Value) (l : List Ent) : Prop :=
  l.length * 40 ≤ 140737488351232 ∧ ∃ a c, v = .slice a l.length c ∧ l.length ≤ c ∧ c ≤ maxLen ∧
    (l ≠ [] → ∃ b off, a = some ⟨b, off, none⟩ ∧ b < w.heap.size ∧ ∀ j, j < l.length → ∃ u, w.cell? ⟨b, off + j * 3, none⟩ = some (.int .i64 (l.getD j e0).1) ∧ w.cell? ⟨b, off + j * 3 + 1, none⟩ = some (.int .i64 (l.getD j e0).2.1) ∧ w.cell? ⟨b, off + j * 3 + 2, none⟩ = some u ∧ Rd w u (l.getD j e0).2.2)
theorem RdE.len {w : World} {v : Value} {l : List Ent} (h : RdE w v l) : l.length * 40 ≤ 140737488351232 := h.1
theorem RdE.below {w w' : World} {v : Value} {l : List Ent} (h : RdE w v l) (hb : Below w.heap.size w w') : RdE w' v l := by
  obtain ⟨h1, a, c, rfl, hc, hm, h2⟩ := h
  refine ⟨h1, a, c, rfl, hc, hm, fun hne => ?_⟩
  obtain ⟨b, off, rfl, hlt, hcell⟩ := h2 hne
  refine ⟨b, off, rfl, Nat.lt_of_lt_of_le hlt hb.size, fun j hj => ?_⟩
  obtain ⟨u, hd, he, hu, hr⟩ := hcell j hj
  exact ⟨u, (hb.cell (p := ⟨b, off + j * 3, none⟩) hlt).trans hd, (hb.cell (p := ⟨b, off + j * 3 + 1, none⟩) hlt).trans he, (hb.cell (p := ⟨b, off + j * 3 + 2, none⟩) hlt).trans hu, hr.below hb⟩
theorem RdE.nil (w : World) : RdE w (.slice none 0 0) [] := ⟨by simp, none, 0, rfl, Nat.le_refl _, Nat.zero_le _, fun h => absurd rfl h⟩
theorem RdE.form {w : World} {v : Value} {l : List Ent} (h : RdE w v l) : ∃ a c, v = .slice a l.length c ∧ l.length ≤ c ∧ c ≤ maxLen ∧ ∀ k, k < l.length → ∃ b off u, a = some ⟨b, off, none⟩ ∧ b < w.heap.size ∧ w.cell? ⟨b, off + k * 3, none⟩ = some (.int .i64 (l.getD k e0).1) ∧ w.cell? ⟨b, off + k * 3 + 1, none⟩ = some (.int .i64 (l.getD k e0).2.1) ∧ w.cell? ⟨b, off + k * 3 + 2, none⟩ = some u ∧ Rd w u (l.getD k e0).2.2 := by
  obtain ⟨h1, a, c, rfl, hc, hm, h2⟩ := h
  refine ⟨a, c, rfl, hc, hm, fun k hk => ?_⟩
  obtain ⟨b, off, e, hb, hcell⟩ := h2 (by intro e; subst e; simp at hk)
  obtain ⟨u, hd, he, hu, hr⟩ := hcell k hk
  exact ⟨b, off, u, e, hb, hd, he, hu, hr⟩

/-- an entry with the value of its list -/
abbrev EV := Int × Int × Cls
def evC (L : List EV) : List Value := L.flatMap (fun x => [.int .i64 x.1, .int .i64 x.2.1, x.2.2.1])
def evS (L : List EV) : List Ent := L.map (fun x => (x.1, x.2.1, x.2.2.2))
theorem evC_len (L : List EV) : (evC L).length = L.length * 3 := by
  induction L with
  | nil => rfl
  | cons x r ih => simp only [evC, List.flatMap_cons, List.length_append, List.length_cons, List.length_nil] at ih ⊢; omega
theorem evC_snoc (L : List EV) (x : EV) : evC (L ++ [x]) = evC L ++ [.int .i64 x.1, .int .i64 x.2.1, x.2.2.1] := by simp [evC]
theorem evS_snoc (L : List EV) (x : EV) : evS (L ++ [x]) = evS L ++ [(x.1, x.2.1, x.2.2.2)] := by simp [evS]
theorem evS_len (L : List EV) : (evS L).length = L.length := by simp [evS]
theorem evC_at : ∀ (L : List EV) (j : Nat) (h : j < L.length), (evC L)[j * 3]? = some (.int .i64 L[j].1) ∧ (evC L)[j * 3 + 1]? = some (.int .i64 L[j].2.1) ∧ (evC L)[j * 3 + 2]? = some L[j].2.2.1
  | x :: r, 0, _ => ⟨rfl, rfl, rfl⟩
  | x :: r, j + 1, h => by
    have := evC_at r j (by simpa using h)
    have e : evC (x :: r) = .int .i64 x.1 :: .int .i64 x.2.1 :: x.2.2.1 :: evC r := rfl
    rw [e, show (j + 1) * 3 = j * 3 + 1 + 1 + 1 by omega, show j * 3 + 1 + 1 + 1 + 1 = (j * 3 + 1) + 1 + 1 + 1 by omega, show j * 3 + 1 + 1 + 1 + 2 = (j * 3 + 2) + 1 + 1 + 1 by omega]
    simpa using this
/-- a row of entries that a call owns, each list of its own and apart from the others -/
structure OwnE (B : Nat) (W : World) (s : Value) (L : List EV) : Prop where
  row : W.ownsRow B 47 3 s L.length (evC L)
  own : ∀ x ∈ L, Own B W x.2.2.1 x.2.2.2
  ap : ApartC (L.map fun x => x.2.2)
theorem OwnE.nil (B : Nat) (W : World) : OwnE B W (.slice none 0 0) [] := ⟨World.ownsRow_nil _ _ _ _, fun x hx => (by cases hx), List.Pairwise.nil⟩
theorem OwnE.grown {B : Nat} {W W' : World} {s : Value} {L : List EV} (h : OwnE B W s L) (hg : W.grownBy W' none) : OwnE B W' s L :=
  ⟨World.ownsRow.kept h.row hg (one_or _), fun x hx => World.ownsRow.kept (h.own x hx) hg (one_or _), h.ap⟩
theorem OwnE.below {B : Nat} {W W' : World} {s : Value} {L : List EV} (h : OwnE B W s L) (hb : Below W.heap.size W W') : OwnE B W' s L := h.grown (grown_below hb)
theorem OwnE.mono {B B' : Nat} {W : World} {s : Value} {L : List EV} (h : OwnE B W s L) (hb : B' ≤ B) : OwnE B' W s L := ⟨row_mono h.row hb, fun x hx => (h.own x hx).mono hb, h.ap⟩
/-- one entry more at the row's end -/
theorem OwnE.app {B : Nat} {W Wa w1 : World} {s s' u : Value} {L : List EV} {d d' : Int} {z : List Int} (h : OwnE B W s L) (hga : W.grownBy Wa none) (own' : w1.ownsRow B 47 3 s' (L.length + 1) (evC L ++ [.int .i64 d, .int .i64 d', u])) (hg : Wa.grownBy w1 s.ownBlock)
    (hu : Own B W u z) (hap : ApartC ((L ++ [(d, d', u, z)]).map fun x => x.2.2)) : OwnE B w1 s' (L ++ [(d, d', u, z)]) := by
  have rowa := World.ownsRow.kept h.row hga (one_or _)
  refine ⟨by rw [evC_snoc]; simpa using own', fun x hx => ?_, hap⟩
  have o0 : Own B W x.2.2.1 x.2.2.2 := by
    rcases List.mem_append.1 hx with hx | hx
    · exact h.own x hx
    · obtain rfl : x = (d, d', u, z) := by simpa using hx
      exact hu
  exact row_apart (by decide) (World.ownsRow.kept o0 hga (one_or _)) rowa hg
theorem OwnE.rde {B : Nat} {W : World} {s : Value} {L : List EV} (h : OwnE B W s L) (h40 : L.length * 40 ≤ 140737488351232) (h8 : ∀ x ∈ L, x.2.2.2.length * 8 ≤ 140737488351232) : RdE W s (evS L) := by
  rcases h.row.2 with ⟨rfl, hn⟩ | ⟨g, cap, cur, hv, hg, hh, hn, hm, hs, ht⟩
  · have : L = [] := List.length_eq_zero_iff.1 hn
    subst this; exact RdE.nil W
  · subst hv
    refine ⟨by rw [evS_len]; exact h40, _, cap, by rw [evS_len], by rw [evS_len]; exact hn, hm, fun _ => ⟨g, 0, rfl, (Array.getElem?_eq_some_iff.1 hh).1, fun j hj => ?_⟩⟩
    have hj' : j < L.length := by rw [evS_len] at hj; exact hj
    obtain ⟨e1, e2, e3⟩ := evC_at L j hj'
    have e : (evS L).getD j e0 = (L[j].1, L[j].2.1, L[j].2.2.2) := by simp [evS, List.getD_eq_getElem?_getD, hj']
    rw [e]
    refine ⟨L[j].2.2.1, ?_, ?_, ?_, (h.own _ (List.getElem_mem hj')).rd (h8 _ (List.getElem_mem hj'))⟩
    · rw [Nat.zero_add, World.ownsRow.cellAt h.row _ (by omega), e1]
    · rw [Nat.zero_add, World.ownsRow.cellAt h.row _ (by omega), e2]
    · rw [Nat.zero_add, World.ownsRow.cellAt h.row _ (by omega), e3]
theorem rde_each {w : World} {v : Value} {l : List Ent} (h : RdE w v l) : ∀ x ∈ l, x.2.2.length * 8 ≤ 140737488351232 := fun x hx => by
  obtain ⟨k, hk, rfl⟩ := List.getElem_of_mem hx
  obtain ⟨_, _, _, _, _, hc⟩ := h.form
  obtain ⟨_, _, u, _, _, _, _, _, hr⟩ := hc k hk
  have := hr.len
  simpa [List.getD_eq_getElem?_getD, hk] using this
/-- the entries l, in memory of the call's own -/
def OwnEs (B : Nat) (W : World) (s : Value) (l : List Ent) : Prop := ∃ L : List EV, OwnE B W s L ∧ evS L = l
theorem OwnEs.below {B : Nat} {W W' : World} {s : Value} {l : List Ent} (h : OwnEs B W s l) (hb : Below W.heap.size W W') : OwnEs B W' s l := by
  obtain ⟨L, h, e⟩ := h; exact ⟨L, h.below hb, e⟩
theorem OwnEs.mono {B B' : Nat} {W : World} {s : Value} {l : List Ent} (h : OwnEs B W s l) (hb : B' ≤ B) : OwnEs B' W s l := by
  obtain ⟨L, h, e⟩ := h; exact ⟨L, h.mono hb, e⟩
theorem OwnEs.rde {B : Nat} {W : World} {s : Value} {l : List Ent} (h : OwnEs B W s l) (h40 : l.length * 40 ≤ 140737488351232) (h8 : ∀ x ∈ l, x.2.2.length * 8 ≤ 140737488351232) : RdE W s l := by
  obtain ⟨L, h, rfl⟩ := h
  exact h.rde (by rw [evS_len] at h40; exact h40) (fun x hx => h8 _ (List.mem_map_of_mem (f := fun x : EV => (x.1, x.2.1, x.2.2.2)) hx))
theorem OwnEs.form {B : Nat} {W : World} {s : Value} {l : List Ent} (h : OwnEs B W s l) : ∃ a c, s = .slice a l.length c := by
  obtain ⟨L, h, rfl⟩ := h
  rcases h.row.2 with ⟨rfl, hn⟩ | ⟨g, cap, cur, rfl, _⟩
  · exact ⟨none, 0, by rw [evS_len, hn]⟩
  · exact ⟨_, cap, by rw [evS_len]⟩
/-- its first entries -/
theorem RdE.take {w : World} {a : Option Addr} {c : Nat} {l : List Ent} {n : Nat} (h : RdE w (.slice a n c) l) (k : Nat) (hk : k ≤ l.length) : RdE w (.slice a k c) (l.take k) := by
  obtain ⟨h1, a', c', e, hc, hm, h2⟩ := h
  injection e with q1 q2 q3
  subst q1 q3
  have hl : (l.take k).length = k := by simp; omega
  refine ⟨by rw [hl]; omega, a, c, by rw [hl], by rw [hl]; omega, hm, fun hne => ?_⟩
  obtain ⟨b, off, e, hb, hcell⟩ := h2 (fun e => hne (by rw [e]; simp))
  refine ⟨b, off, e, hb, fun j hj => ?_⟩
  rw [hl] at hj
  rw [take_at hj]
  exact hcell j (by omega)

end Go.Proofs.Ytgngdohhlhlcpaa
