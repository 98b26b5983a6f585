/-
  UnitWhys: the walk.
  KEEP: set on app at below new trans refl start ap kept rd rds mono lt add none own nil put len pos setF setV putL putR other neV same_any
-/
import Derived.Test.YtlbpdiemanhfkaaDoorRUy
set_option linter.unusedSimpArgs false
set_option linter.unusedVariables false
namespace Go.Proofs.YtlbpdiemanhfkaaDoor
open Go Go.RowKit
set_option maxRecDepth 100000 in
theorem sameC_any (va vb : Value) (cs : List (Int × Nat)) (w : World) (ha : w.ownsRow 0 77 2 va cs.length (twc cs)) (hb : w.ownsRow 0 77 2 vb cs.length (twc cs)) (hn : cs.length ≤ 2097152) :
    Calls Tryd.prog 17 #[va, vb] w fun e w' => e = .returned (.bool true) ∧ Below w.heap.size w w' := by
  have HC : Hid (∀ {v : Value}, w.ownsRow 0 77 2 v cs.length (twc cs) → ∃ a c, v = .slice a cs.length c ∧ ∀ (W : World) (j : Nat) (hj : j < cs.length), Below w.heap.size w W → ∃ g, a = some ⟨g, 0, none⟩ ∧ cs.length ≤ c ∧ c ≤ maxLen ∧ W.cell? ⟨g, j * 2, none⟩ = some (.int .i64 (cs[j]).1) ∧ W.cell? ⟨g, j * 2 + 1, none⟩ = some (.int .i64 ((cs[j]).2 : Int))) := fun {v} h1 => by
    obtain ⟨a, c, e⟩ := row_form' h1
    refine ⟨a, c, e, fun W j hj hW => ?_⟩
    obtain ⟨g, c', e', h2, h3, h4⟩ := row_some h1 (by omega)
    rw [e] at e'
    injection e' with e1 _ e3
    subst e1; subst e3
    rw [e] at h1
    obtain ⟨k1, k2⟩ := twc_at (show cs[j]? = some ((cs[j]).1, (cs[j]).2) from List.getElem?_eq_getElem hj)
    exact ⟨g, rfl, h2, h3, (hW.cell (p := ⟨g, j * 2, none⟩) h4).trans (row_cell h1 k1), (hW.cell (p := ⟨g, j * 2 + 1, none⟩) h4).trans (row_cell h1 k2)⟩
  obtain ⟨a1, c1, rfl, H1⟩ := HC.out ha
  obtain ⟨a2, c2, rfl, H2⟩ := HC.out hb
  have H1 : Hid (∀ (W : World) (j : Nat) (hj : j < cs.length), Below w.heap.size w W → ∃ g, a1 = some ⟨g, 0, none⟩ ∧ cs.length ≤ c1 ∧ c1 ≤ maxLen ∧ W.cell? ⟨g, j * 2, none⟩ = some (.int .i64 (cs[j]).1) ∧ W.cell? ⟨g, j * 2 + 1, none⟩ = some (.int .i64 ((cs[j]).2 : Int))) := H1
  have H2 : Hid (∀ (W : World) (j : Nat) (hj : j < cs.length), Below w.heap.size w W → ∃ g, a2 = some ⟨g, 0, none⟩ ∧ cs.length ≤ c2 ∧ c2 ≤ maxLen ∧ W.cell? ⟨g, j * 2, none⟩ = some (.int .i64 (cs[j]).1) ∧ W.cell? ⟨g, j * 2 + 1, none⟩ = some (.int .i64 ((cs[j]).2 : Int))) := H2
  clear ha hb HC
  go_enter Tryd.func17, Tryd.ntmps17
  go_wp2
  go_loopg [5] cs.length (fun g i' wr => ∃ k : Nat, k + g = cs.length ∧ i' = .int .i64 k ∧ Below w.heap.size w wr)
  case atStart => exact ⟨0, by omega, rfl, Below.refl _ _⟩
  case round =>
    obtain ⟨k, hk, rfl, hb⟩ := hrel
    have HK : Hid (k + gk = cs.length) := hk
    have HB : Hid (Below w.heap.size w wr) := hb
    clear hk hb
    by_cases hlt : k < cs.length
    · obtain ⟨g1, rfl, l1, m1, x1, x2⟩ := H1.out wr k hlt HB.out
      obtain ⟨g2, rfl, l2, m2, y1, y2⟩ := H2.out wr k hlt HB.out
      have HLT : Hid (k < cs.length) := hlt
      generalize (cs[k]).1 = l at *
      generalize ((cs[k]).2 : Int) = q at *
      go_upto_region 6 with fail
      go_region_law (fail)
      all_goals
        have HB2 : Hid (Below w.heap.size w wr.drew) := Below.step HB.out (Below.refl _ _).drew
        go_wp2
        go_roundg (gk - 1)
        case measure => have := HK.out; have := HLT.out; omega
        case rel => exact ⟨k + 1, by have := HK.out; have := HLT.out; omega, by go_num, HB2.out⟩
    · go_wp2
      go_ret
      exact ⟨rfl, HB.out⟩
theorem wy_len {w w' : World} {v : Int} {css : List (List Int)} {facts : List Int} {u : Value} {cs : List (Int × Nat)} {e0 : Int} (h : Wy w w' v css facts u cs e0) : cs.length ≤ 2097152 := by
  by_cases h0 : whyE v css facts = 0
  · refine (h.yes h0).few (frm_fmd (v := v) ?_)
    unfold whyE at h0
    cases hh : frm v css
    · rw [hh] at h0; simp at h0
    · rfl
  · rw [(h.no h0).2.1]; simp
theorem wy_eq {w w' w2 w2' : World} {v : Int} {css : List (List Int)} {facts : List Int} {u u' : Value} {cs cs' : List (Int × Nat)} {e0 e0' : Int} (h : Wy w w' v css facts u cs e0) (h' : Wy w2 w2' v css facts u' cs' e0') : cs = cs' ∧ e0 = e0' := by
  by_cases h0 : whyE v css facts = 0
  · exact (h.yes h0).unique (h'.yes h0)
  · obtain ⟨_, a, b⟩ := h.no h0
    obtain ⟨_, a', b'⟩ := h'.no h0
    exact ⟨by rw [a, a'], by rw [b, b']⟩
namespace unitWhys
end unitWhys
end Go.Proofs.YtlbpdiemanhfkaaDoor
