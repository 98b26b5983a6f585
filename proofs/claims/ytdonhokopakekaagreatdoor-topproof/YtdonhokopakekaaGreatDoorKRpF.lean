/-
  rup: Follows, Safe, Kind.
  KEEP: set on app at below new trans refl start ap kept rd rds mono lt add none own nil put len pos setF setV putL putR other neV same_any num form fin
-/
import Derived.Test.YtdonhokopakekaaGreatDoorJOnR
import Derived.Test.YtdonhokopakekaaGreatDoorKRpO
import Derived.Sort.AtCall
set_option linter.unusedSimpArgs false
set_option linter.unusedVariables false
namespace Go.Proofs.YtdonhokopakekaaGreatDoor
open Go Go.RowKit

/-- is what comes in well shaped? -/
def shp (v : Int) (css : List (List Int)) (c : List Int) : Bool := frm v css && c.all fmd
def shE (b : Bool) : Int := if b then 0 else 1
theorem clo_sh {v : Int} {css : List (List Int)} {c : List Int} (hi : ∀ x ∈ c, i64 x) : cloE v css (c.map ngw) = shE (shp v css c) := by
  unfold cloE shE shp
  rw [opw_all hi]
/-- what Close says of the opposites -/
structure Cf (w W : World) (v : Int) (css : List (List Int)) (c : List Int) (u : Value) (clash : Bool) (D : List Int) : Prop where
  own : Own w.heap.size W u D
  no : shp v css c = false → clash = false
  cl : shp v css c = true → clash = folB css c
  der : shp v css c = true → clash = false → ∀ x, x ∈ D ↔ Der css (opp c) x
  fmd : ∀ x ∈ D, Go.Proofs.YtdonhokopakekaaGreatDoor.fmd x = true
  bel : Below w.heap.size w W
  len : D.length ≤ 2097152
theorem Cf.of {w w0 W : World} {v : Int} {css : List (List Int)} {c : List Int} {u : Value} {clash : Bool} {D : List Int} (hi : ∀ x ∈ c, i64 x) (h : Clz w0 W v css (c.map ngw) u clash D) (hb : Below w.heap.size w w0) : Cf w W v css c u clash D := by
  have hs := clo_sh (v := v) (css := css) hi
  have hyes : shp v css c = true → Says6 css (opp c) clash D := fun h2 => by
    have h3 : c.all Go.Proofs.YtdonhokopakekaaGreatDoor.fmd = true := by unfold shp at h2; rw [Bool.and_eq_true] at h2; exact h2.2
    have := h.yes (by rw [hs, h2]; rfl)
    rw [opw_opp h3] at this
    exact this
  refine ⟨h.own.mono hb.size, fun h2 => (h.no (by rw [hs, h2]; decide)).1, fun h2 => ?_, fun h2 h3 => ?_, h.fmd, Below.step hb h.bel, ?_⟩
  · rcases hyes h2 with ⟨e, cl, _⟩ | ⟨e, cl, _⟩
    · rw [e]; exact (claB_of cl).symm
    · rw [e]; exact (claB_not cl).symm
  · rcases hyes h2 with ⟨e, _⟩ | ⟨_, _, _, hd⟩
    · rw [h3] at e; cases e
    · exact hd
  · have hn : D.Nodup := by
      by_cases h0 : cloE v css (c.map ngw) = 0
      · rcases h.yes h0 with ⟨_, _, e⟩ | ⟨_, _, hr, _⟩
        · rw [e]; exact List.nodup_nil
        · exact hr.imp (fun h => by intro e; subst e; omega)
      · rw [(h.no h0).2]; exact List.nodup_nil
    exact lits_few hn h.fmd
theorem Deb.at {w W : World} (h : Deb w) (hb : Below w.heap.size w W) : Deb W := h.below hb
theorem Cf.par {w W : World} {v : Int} {css : List (List Int)} {p : Int} {r : List Int} {u : Value} {D : List Int} (h : Cf w W v css (p :: r) u false D) (hs : shp v css (p :: r) = true) : Con D ∧ Calm css D ∧ parB css D p css = safB css (p :: r) ∧ frm v css = true ∧ Go.Proofs.YtdonhokopakekaaGreatDoor.fmd p = true ∧ folB css (p :: r) = false := by
  have h2 := hs
  unfold shp at h2
  rw [Bool.and_eq_true, List.all_cons, Bool.and_eq_true] at h2
  have hd := h.der hs rfl
  have hf : folB css (p :: r) = false := (h.cl hs).symm
  have hn : ¬ Cla css (opp (p :: r)) := fun h3 => by
    have := claB_of h3
    unfold folB at hf
    rw [this] at hf; cases hf
  obtain ⟨h4, h5⟩ := calm_clos (frm_nz h2.1) hn hd
  exact ⟨h4, h5, parB_clos hd, h2.1, h2.2.1, hf⟩
theorem Cf.yes {w W : World} {v : Int} {css : List (List Int)} {p : Int} {r : List Int} {u : Value} {D : List Int} (h : Cf w W v css (p :: r) u true D) (hs : shp v css (p :: r) = true) : folB css (p :: r) = true ∧ safB css (p :: r) = true := by
  have hf : folB css (p :: r) = true := (h.cl hs).symm
  exact ⟨hf, parB_clash (claB_true.1 hf)⟩
theorem two_same {a b : Value} {a' b' : Value} (h1 : a = a') (h2 : b = b') : Ending.returned (.tuple #[a, b]) = .returned (.tuple #[a', b']) := by rw [h1, h2]
end Go.Proofs.YtdonhokopakekaaGreatDoor
