/-
  Families of rows of steps that lie apart; what DratKeeps and PackKeeps say of memory, in plain words.
  KEEP: set on app at below new trans refl start ap kept rd rds mono own row cells lt box from cell of nil len ans add none keep rdz form ob q keepB ltB cellsB snoc k
-/
import Derived.Test.YtilcokpaeapmeaaDoorKApZ
import Derived.Test.YtilcokpaeapmeaaDoorKHdW
import Derived.Test.YtilcokpaeapmeaaDoorJStW
import Derived.Test.YtilcokpaeapmeaaDoorJItoaD
set_option linter.unusedSimpArgs false
set_option linter.unusedVariables false
namespace Go.Proofs.YtilcokpaeapmeaaDoor
open Go Go.RowKit Go.Shelf

/-- rows of steps that lie apart -/
structure Fm (B : Nat) (W : World) (F : List (Value × List SV)) : Prop where
  own : ∀ x ∈ F, OwnZ B W x.1 x.2
  apR : F.Pairwise (fun x y => x.1.ownBlock = none ∨ x.1.ownBlock ≠ y.1.ownBlock)
  apL : ApartC (flZ F)
theorem Fm.nil (B : Nat) (W : World) : Fm B W [] := ⟨fun x hx => (by cases hx), List.Pairwise.nil, List.Pairwise.nil⟩
theorem Fm.below {B : Nat} {W W' : World} {F : List (Value × List SV)} (h : Fm B W F) (hb : Below W.heap.size W W') : Fm B W' F := ⟨fun x hx => (h.own x hx).below hb, h.apR, h.apL⟩
theorem flZ_app (F G : List (Value × List SV)) : flZ (F ++ G) = flZ F ++ flZ G := by unfold flZ; rw [List.flatMap_append]
theorem Fm.lt {B : Nat} {W : World} {F : List (Value × List SV)} (h : Fm B W F) {x : Value × List SV} (hx : x ∈ F) {k : Nat} (hk : OwB x.1 x.2 k) : B ≤ k ∧ k < W.heap.size := (h.own x hx).ltB hk
theorem Fm.snoc {B S : Nat} {W W' : World} {F : List (Value × List SV)} {v : Value} {L : List SV} (h : Fm B W F) (hz : OwnZ S W' v L) (hb : Below W.heap.size W W') (hS : W.heap.size ≤ S) (hB : B ≤ S) : Fm B W' (F ++ [(v, L)]) := by
  refine ⟨fun x hx => ?_, ?_, ?_⟩
  · rcases List.mem_append.1 hx with hx | hx
    · exact (h.own x hx).below hb
    · rw [List.mem_singleton.1 hx]; exact hz.mono hB
  · rw [List.pairwise_append]
    refine ⟨h.apR, List.pairwise_singleton _ _, fun x hx y hy => ?_⟩
    rw [List.mem_singleton.1 hy]
    cases e : x.1.ownBlock with
    | none => exact .inl rfl
    | some b =>
      refine .inr fun e2 => ?_
      have h1 := (h.lt hx (.inl e.symm)).2
      have h2 := (hz.ltB (k := b) (.inl e2)).1
      omega
  · rw [flZ_app]
    show ApartC (flZ F ++ flZ [(v, L)])
    have e9 : flZ [(v, L)] = L.map Prod.snd := by simp [flZ]
    rw [e9]
    unfold ApartC
    rw [List.pairwise_append]
    refine ⟨h.apL, hz.ap, fun x hx y hy => ?_⟩
    obtain ⟨p, hp, h6⟩ := List.mem_flatMap.1 hx
    obtain ⟨x2, hx2, rfl⟩ := List.mem_map.1 h6
    obtain ⟨y2, hy2, rfl⟩ := List.mem_map.1 hy
    cases e : x2.2.1.ownBlock with
    | none => exact .inl rfl
    | some b =>
      refine .inr fun e2 => ?_
      have h1 := (h.lt hp (k := b) (.inr ⟨x2, hx2, e.symm⟩)).2
      have h2 := (hz.ltB (k := b) (.inr ⟨y2, hy2, e2⟩)).1
      omega
/-- ApartProofs of such rows; what lies elsewhere stays -/
theorem proofs_of {B : Nat} {W0 w : World} {F : List (Value × List SV)} (Q : Nat → Prop) (rv : Value) (h : Fm B w F) (hB : B ≤ w.heap.size) (hrow : w.ownsRow B 22 1 rv F.length (F.map Prod.fst)) (hF : F.length ≤ 65536) (hL : (flZ F).length ≤ 2147483648) (hl : ∀ x ∈ flZ F, x.2.length * 8 ≤ 140737488353280)
    (hQs : ∀ k, Q k → k < w.heap.size) (hQ : ∀ x ∈ F, ∀ k, OwB x.1 x.2 k → ¬ Q k) :
    Calls Tryd.prog 17 #[rv] w fun e w' => e = .returned (.bool true) ∧ Below B w w' ∧ ∀ k, Q k → w'.heap[k]? = w.heap[k]? :=
  apartProofs_q Q B rv F w hB hrow h.own h.apR h.apL hF hL hl hQs (fun x hx b e => hQ x hx b (.inl e.symm)) (fun x hx b e => by
    obtain ⟨p, hp, h6⟩ := List.mem_flatMap.1 hx
    obtain ⟨x2, hx2, rfl⟩ := List.mem_map.1 h6
    exact hQ p hp b (.inr ⟨x2, hx2, e.symm⟩))
theorem wz_st {l : List Stp} (h : l.length + (l.map (fun x => x.2.length)).sum ≤ 1048576) : wz l ≤ 1099511627776 := by unfold wz; omega
theorem wz_ov (n : Nat) (h : n ≤ 1048576) : wz (ovS n) ≤ 1099511627776 := by
  have h1 : ((ovS n).map (fun x => x.2.length)).sum = 2 * n := by
    clear h
    induction n with
    | zero => rfl
    | succ k ih =>
      unfold ovS at ih ⊢
      rw [List.range_succ, List.map_append, List.map_append, List.sum_append, ih]
      show 2 * k + 2 = _
      omega
  unfold wz
  rw [h1, ovS_len]
  omega
/-- steps that were lent, behind a writing over -/
theorem over_below {w W W' : World} {vw vr : Value} {L M : List Cls} {E : List SV} (h : Lz w.heap.size W vw vr L E M) (hb : Below w.heap.size w W) (hf : Fz (Lzn vw L) W W') : Below w.heap.size w W' ∧ ∀ k, Lzn vw L k → w.heap.size ≤ k ∧ k < W.heap.size := by
  have hq : ∀ k, Lzn vw L k → w.heap.size ≤ k ∧ k < W.heap.size := fun k hk => by
    rcases hk with e | ⟨x, hx, e⟩
    · exact h.w.lt k e.symm
    · exact (h.r.own x hx).lt k e.symm
  refine ⟨⟨hf.os.trans hb.os, hf.tape.trans hb.tape, hf.output.trans hb.output, Nat.le_trans hb.size hf.size, fun k hk => ?_⟩, hq⟩
  exact (hf.block k (Nat.lt_of_lt_of_le hk hb.size) (fun hh => by have := (hq k hh).1; omega)).trans (hb.block k hk)
end Go.Proofs.YtilcokpaeapmeaaDoor
