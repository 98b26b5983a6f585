/-
  heat: Order's lists, kept apart.
  KEEP: set on app at below new trans refl start kept mono lt add none own nil put len pos other cell ty blt fz box k p r pr a0 a1 a2 c0 c1 c2 hb setK setP setR unique grown step fin bij up q1 q2 pl held mk v1 v2 t1 t2 hs few cut root z kl nl sl d1 d2 row down has holds stp bel heat mem srt inn inj out lays ap kind rd rds bump cool weak types foreign rows cong form heat nodup walk side push place
-/
import Derived.Test.YtbfjhgiifmhccaaHtZ
import Derived.Test.YtbfjhgiifmhccaaAparHW
import Derived.Test.YtbfjhgiifmhccaaCopy
set_option linter.unusedSimpArgs false
set_option linter.unusedVariables false
namespace Go.Proofs.Ytbfjhgiifmhccaa
open Go Go.RowKit

abbrev i6 (S : List Nat) : List Int := S.map fun (x : Nat) => (x : Int)
def KpH (w w7 : World) (b n dec st : Nat) (K : List Nat) (H : Nat → Bool) (o : Value) (kk : Nat) (ul : Value) (S : List Nat) : Prop := ∃ v L, Ht w.heap.size w7 b v n dec st K H ∧ OwnR w.heap.size w7 o L ∧ Own w.heap.size w7 ul (i6 S) ∧ (∀ x ∈ L, x.1.ownBlock = none ∨ x.1.ownBlock ≠ ul.ownBlock) ∧ L.length = kk ∧ (∀ x ∈ L, x.2.length ≤ 60) ∧ Below w.heap.size w w7
theorem map_range_getD (xs : List Value) (d : Value) : (List.range xs.length).map (fun j => xs.getD j d) = xs := by
  refine List.ext_getElem (by simp) fun i h1 h2 => ?_
  simp at h1
  simp [List.getD_eq_getElem?_getD, List.getElem?_eq_getElem h2]
theorem apartK {w w7 : World} {b n dec st kk : Nat} {K S : List Nat} {H : Nat → Bool} {o ul : Value} (h : KpH w w7 b n dec st K H o kk ul S) (hkk : kk * 24 ≤ 140737488353280) :
    Calls Try.prog 26 #[o] w7 fun e w' => e = .returned (.bool true) ∧ ∃ v, Ht w.heap.size w' b v n dec st K H ∧ Own w.heap.size w' ul (i6 S) ∧ Below w.heap.size w w' := by
  obtain ⟨v, L, h1, h2, h3, h4, h5, h6, h7⟩ := h
  have hlm : (L.map Prod.fst).length = kk := by simp [h5]
  have hat : ∀ j, j < kk → ∃ x ∈ L, L[j]? = some x ∧ (L.map Prod.fst).getD j (.slice none 0 0) = x.1 := fun j hj => by
    have hj' : j < L.length := by omega
    refine ⟨L[j], List.getElem_mem hj', List.getElem?_eq_getElem hj', ?_⟩
    rw [List.getD_eq_getElem?_getD, List.getElem?_map, List.getElem?_eq_getElem hj']; rfl
  have hap : ∀ i j, i < kk → j < kk → i ≠ j → ((L.map Prod.fst).getD i (.slice none 0 0)).ownBlock = none ∨ ((L.map Prod.fst).getD i (.slice none 0 0)).ownBlock ≠ ((L.map Prod.fst).getD j (.slice none 0 0)).ownBlock := fun i j hi hj hne => by
    obtain ⟨x, _, ex, e1⟩ := hat i hi
    obtain ⟨y, _, ey, e2⟩ := hat j hj
    rw [e1, e2]
    have hx : L[i]'(by omega) = x := by rw [List.getElem?_eq_getElem (by omega)] at ex; exact Option.some.inj ex
    have hy : L[j]'(by omega) = y := by rw [List.getElem?_eq_getElem (by omega)] at ey; exact Option.some.inj ey
    rcases Nat.lt_or_gt_of_ne hne with hlt | hlt
    · have := List.pairwise_iff_getElem.1 h2.ap i j (by omega) (by omega) hlt
      rw [hx, hy] at this; exact this
    · have := List.pairwise_iff_getElem.1 h2.ap j i (by omega) (by omega) hlt
      rw [hx, hy] at this
      rcases this with t | t
      · cases ei : x.1.ownBlock with
        | none => exact .inl rfl
        | some g => refine .inr ?_; rw [t]; exact fun e => by cases e
      · exact .inr fun e => t e.symm
  have hB : w.heap.size ≤ w7.heap.size := h7.size
  have hq := apart_h (fun k => v.own b k ∨ some k = ul.ownBlock) w.heap.size o kk (fun j => (L.map Prod.fst).getD j (.slice none 0 0)) (fun j => ((L.map Prod.snd).getD j []).length) w7 hB
    (by rw [← hlm, map_range_getD, hlm]; have := h2.row; rw [h5] at this; exact this)
    (fun j hj => by
      obtain ⟨x, hx, ex, e1⟩ := hat j hj
      refine ⟨x.2, by rw [e1]; exact h2.own x hx, ?_⟩
      rw [List.getD_eq_getElem?_getD, List.getElem?_map, ex]; rfl)
    hap hkk
    (fun j hj => by
      obtain ⟨x, hx, ex, e1⟩ := hat j hj
      have := h6 x hx
      rw [List.getD_eq_getElem?_getD, List.getElem?_map, ex]
      show x.2.length * 8 ≤ _
      omega)
    (fun j hj g hg hQ => by
      obtain ⟨x, hx, ex, e1⟩ := hat j hj
      rw [e1] at hg
      rcases hQ with hQ | hQ
      · exact h1.foreign (h2.own x hx) (by decide) (by decide) (by decide) hg.symm hQ
      · rcases h4 x hx with t | t
        · rw [t] at hg; cases hg
        · exact t (by rw [hg]; exact hQ))
    (fun k hQ => by
      rcases hQ with hQ | hQ
      · exact (h1.lt k hQ).2
      · exact (h3.lt k hQ.symm).2)
  refine hq.mono fun e w' ⟨he, hb, hk⟩ => ⟨he, v, h1.kept fun k hk' => hk k (.inl hk'), row_kept h3 fun k hk' => hk k (.inr hk'), h7.trans hb⟩
theorem KpH.make {w w1 w2 w3 w4 w5 w8 : World} {b n dec st l c : Nat} {v : Hv} {K S S2 S3 : List Nat} {H : Nat → Bool} {a : Option Addr} {L : List Cls} {ul u2 u3 v8 : Value}
    (h1 : Ht w.heap.size w1 b v n dec st K H) (hR : OwnR w.heap.size w1 (.slice a l c) L) (hx60 : ∀ x ∈ L, x.2.length ≤ 60) (hw : Below w.heap.size w w1) (b12 : Below w1.heap.size w1 w2) (ol : Own w2.heap.size w3 ul (i6 S)) (b23 : Below w2.heap.size w2 w3)
    (o2 : Own w3.heap.size w4 u2 (i6 S2)) (b34 : Below w3.heap.size w3 w4) (o3 : Own w4.heap.size w5 u3 (i6 S3)) (b45 : Below w4.heap.size w4 w5) (hS2 : S2.length ≤ 60) (hS3 : S3.length ≤ 60)
    (own8 : w8.ownsRow w.heap.size 52 1 v8 (l + 2) (L.map Prod.fst ++ [u2, u3])) (ap8 : Ap (w5.alloc (.cells #[u2, u3] 52)) (.slice a l c) w8 v8) : KpH w w8 b n dec st K H v8 (l + 2) ul S := by
  have hLl : L.length = l := by
    obtain ⟨a', c', e'⟩ := row_form' hR.row
    injection e' with _ e2 _
    exact e2.symm
  have b5b := below_box w5 (.cells #[u2, u3] 52)
  have b13 := Below.step b12 b23
  have b14 := Below.step b13 b34
  have b15 := Below.step b14 b45
  have s1 := hw.size
  have s2 := b12.size
  have s3 := b23.size
  have s4 := b34.size
  have s5 := b45.size
  have R4 := hR.below b14
  have o2' : Own w.heap.size w4 u2 (i6 S2) := o2.mono (by omega)
  have o3' : Own w.heap.size w5 u3 (i6 S3) := o3.mono (by omega)
  have A1 : ApartC (L ++ [(u2, i6 S2)]) := ApartC.snoc (hR.below b13).ap (hR.below b13).own o2 (Nat.le_refl _)
  have all4 : ∀ x ∈ L ++ [(u2, i6 S2)], Own w.heap.size w4 x.1 x.2 := fun x hx => by
    rcases List.mem_append.1 hx with hx | hx
    · exact R4.own x hx
    · obtain rfl : x = (u2, i6 S2) := by simpa using hx
      exact o2'
  have A2 : ApartC ((L ++ [(u2, i6 S2)]) ++ [(u3, i6 S3)]) := ApartC.snoc A1 all4 o3 (Nat.le_refl _)
  have hrow := World.ownsRow.alloc (hR.below b15).row (.cells #[u2, u3] 52)
  have hg := ap8.grown
  have keep : ∀ {C : Nat} {x : Value} {zs : List Int}, Own C w5 x zs → Own C w8 x zs := fun hx => row_apart (by decide) (World.ownsRow.alloc hx (.cells #[u2, u3] 52)) hrow hg
  have olk : Own w.heap.size w8 ul (i6 S) := keep ((ol.mono (by omega)).below (Below.step b34 b45))
  have hb8 : Below w.heap.size w w8 := by
    have hb1 := Below.step (Below.step hw b15) b5b
    refine ⟨hg.os.trans hb1.os, hg.tape.trans hb1.tape, hg.output.trans hb1.output, Nat.le_trans hb1.size hg.size, fun j hj => (hg.block j (Nat.lt_of_lt_of_le hj hb1.size) fun e => ?_).trans (hb1.block j hj)⟩
    have := (hrow.lt j e.symm).1
    omega
  refine ⟨v, (L ++ [(u2, i6 S2)]) ++ [(u3, i6 S3)], ((h1.below b15).below b5b).rows hrow (by decide) (by decide) (by decide) hg, ⟨?_, fun x hx => ?_, A2⟩, olk, fun x hx => ?_, by simp; omega, fun x hx => ?_, hb8⟩
  · have e : ((L ++ [(u2, i6 S2)]) ++ [(u3, i6 S3)]).map Prod.fst = L.map Prod.fst ++ [u2, u3] := by simp
    rw [e]
    have e2 : ((L ++ [(u2, i6 S2)]) ++ [(u3, i6 S3)]).length = l + 2 := by simp; omega
    rw [e2]; exact own8
  · rcases List.mem_append.1 hx with hx | hx
    · exact keep ((all4 x hx).below b45)
    · obtain rfl : x = (u3, i6 S3) := by simpa using hx
      exact keep o3'
  · cases e : x.1.ownBlock with
    | none => exact .inl rfl
    | some g =>
      refine .inr fun e2 => ?_
      have ul2 := ol.lt g e2.symm
      rcases List.mem_append.1 hx with hx | hx
      · rcases List.mem_append.1 hx with hx | hx
        · have := (hR.own x hx).lt g e
          omega
        · obtain rfl : x = (u2, i6 S2) := by simpa using hx
          have := o2.lt g e
          omega
      · obtain rfl : x = (u3, i6 S3) := by simpa using hx
        have := o3.lt g e
        omega
  · rcases List.mem_append.1 hx with hx' | hx'
    · rcases List.mem_append.1 hx' with hx' | hx'
      · exact hx60 x hx'
      · obtain rfl : x = (u2, i6 S2) := by simpa using hx'
        simp; exact hS2
    · obtain rfl : x = (u3, i6 S3) := by simpa using hx'
      simp; exact hS3
end Go.Proofs.Ytbfjhgiifmhccaa
