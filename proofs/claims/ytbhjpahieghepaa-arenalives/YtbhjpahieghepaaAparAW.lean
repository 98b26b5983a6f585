/-
  depotkit.ApartInts, walked.
  KEEP: set on app at below new trans refl start ap kept rd rds mono row push put step side drew drewN mark weaken less store slice place cell lt prefix setOther
-/
import Derived.Test.YtbhjpahieghepaaAparAB
set_option linter.unusedSimpArgs false
set_option linter.unusedVariables false
namespace Go.Proofs.Ytbhjpahieghepaa
open Go Go.RowKit Go.Shelf

attribute [local go_sem] Oper.semAt_some

theorem szA (w : World) (o : Obj) : w.heap.size < (w.alloc o).heap.size := by simp
theorem infoL : (Try.prog.info? 32).map (fun i => (i.zero, i.size, i.bytes)) = some (some (.slice none 0 0), 1, 24) := by kernel_rfl
theorem Gq.drew {Q : Nat → Prop} {B S : Nat} {w wr : World} {rv : Value} {K : Nat} {v : Nat → Value} {n : Nat → Nat} {gr : Value} {kr k : Nat} {u : Nat → Value} {m : Nat → Nat} (h : Gq Q B S w wr rv K v n gr kr k u m) : Gq Q B S w wr.drew rv K v n gr kr k u m :=
  ⟨h.ap.drew, h.grow, h.gp, h.gb, h.sz, h.hB, h.vb, h.rb, h.hap, h.hk, h.sw⟩
theorem Gq.drewN {Q : Nat → Prop} {B S : Nat} {w wr : World} {rv : Value} {K : Nat} {v : Nat → Value} {n : Nat → Nat} {gr : Value} {kr k : Nat} {u : Nat → Value} {m : Nat → Nat} (h : Gq Q B S w wr rv K v n gr kr k u m) (q : Nat) : Gq Q B S w (wr.drewN q) rv K v n gr kr k u m := by
  refine h.new ?_
  exact grown_of_below (below_drewN _ _)
theorem own_slice {B : Nat} {w : World} {x : Value} {Y : List Int} (h : Own B w x Y) : ∃ a c, x = .slice a Y.length c := by
  rcases h.2 with ⟨hv, hn⟩ | ⟨g, cap, cur, hv, _⟩
  · exact ⟨none, 0, by rw [hv, hn]⟩
  · exact ⟨_, _, hv⟩
theorem row_slice {B K : Nat} {e : TypeId} {w : World} {x : Value} {xs : List Value} (h : w.ownsRow B e 1 x K xs) : ∃ a c, x = .slice a K c := by
  rcases h.2 with ⟨hv, hn⟩ | ⟨g, cap, cur, hv, _⟩
  · exact ⟨none, 0, by rw [hv, hn]⟩
  · exact ⟨_, _, hv⟩
theorem Gq.side {Q : Nat → Prop} {B S Sk N : Nat} {w wr wa w' : World} {rv : Value} {K : Nat} {v : Nat → Value} {n : Nat → Nat} {gr mv : Value} {kr k : Nat} {u : Nat → Value} {m : Nat → Nat} {xs : List Value} (h : Gq Q B S w wr rv K v n gr kr k u m) (hSk : S ≤ Sk)
    (huk : ∀ j, j < k → ∀ b, (u j).ownBlock = some b → b < Sk) (hga : wr.grownBy wa none) (hm : wa.ownsRow Sk 3 1 mv N xs) (hg : wa.grownBy w' mv.ownBlock) : Gq Q B S w w' rv K v n gr kr k u m := by
  have ha := h.new hga
  cases e : mv.ownBlock with
  | none => rw [e] at hg; exact ha.new hg
  | some g =>
    have hS : Sk ≤ g := (World.ownsRow.lt hm g e).1
    rw [e] at hg
    refine ha.step hg (fun b e' => by cases e'; have := h.hB; omega) (fun b e' hq => by cases e'; have h7 := h.ap.qs _ hq; have h8 := h.sw; omega) (fun j o e' hj => row_cells hm j o (by rw [e]; exact e') hj) (fun j hj => (ha.ap.pm j hj).kept hg (.inr fun e' => ?_)) (.inr (block_apart (by decide) ha.ap.row hm e)) (.inr (block_apart (by decide) ha.grow hm e)) (fun j hj => .inr fun e' => ?_)
    · have := h.vb j hj _ e'
      omega
    · have := huk j hj _ e'
      omega

end Go.Proofs.Ytbhjpahieghepaa
