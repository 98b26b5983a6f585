/-
  The table of operators, out of what the row lists.
  KEEP: off c0 c1 c2 c3 c4 s0 s1 s2 s3 s4 newS rds lt f t q x len below nil form rd mono own row out lt
-/
import Derived.Test.YtmfcaoacklbkoaaDoorRows
import Derived.Test.YtmfcaoacklbkoaaDoorRlN
import Derived.Lib.LaidTab
import Derived.LaidLaws
import Derived.ChangeArms
set_option linter.unusedVariables false
set_option linter.unusedSimpArgs false
namespace Go.Proofs.YtmfcaoacklbkoaaDoor
open Go Go.RowKit

section
variable {H : Type} {enc : TypeId × Value → H} {w : World} {base : Nat} {sp : Nat → Bool} {held : Bool}
theorem arr22 {fuel : Nat} {cs : List Value} {ds : List (DataW H)} {p : List MemPlace}
    (h : DataW.trod enc Tryd.prog w base sp held fuel 93 cs = some (.agg ds, p)) : cs.length = 20 ∧ ∀ i, i < 5 → ∃ fuel' d q, ds[i]? = some d ∧ DataW.trod enc Tryd.prog w base sp held fuel' 76 ((cs.drop (i * 4)).take 4) = some (d, q) := by
  have hc4 : Tryd.prog.cellsOf 76 = 4 := by kernel_rfl
  have hc20 : Tryd.prog.cellsOf 93 = 20 := by kernel_rfl
  cases fuel with
  | zero => simp [DataW.trod] at h
  | succ fuel =>
    simp only [DataW.trod, Tryd.underlying93, hc4, hc20] at h
    split at h
    · rename_i hl
      obtain ⟨xs, hm, hx⟩ := Option.map_eq_some_iff.1 h
      have hds : xs.map (·.1) = ds := by
        have := congrArg Prod.fst hx
        simpa using this
      refine ⟨hl, fun i hi => ?_⟩
      obtain ⟨b, hb, hf⟩ := Lib.mapM_at hm i i (by simp [hi])
      exact ⟨fuel, b.1, b.2, by rw [← hds]; simp [hb], hf⟩
    · cases h
theorem str22 {s : ByteArray} {l : List UInt8} (h : s.data.toList = l) : s = ⟨l.toArray⟩ := by
  cases s with | mk d => cases d with | mk m => exact congrArg (fun x => ByteArray.mk (Array.mk x)) h
theorem trodS4r {P : Program} {t : TypeId} {f0 f1 f2 f3 : Field} {fuel : Nat} {cs : List Value} {x : DataW H × List MemPlace} (ht : P.underlying t = some (.struct #[f0, f1, f2, f3])) (h : DataW.trod enc P w base sp held fuel t cs = some x) :
    ∃ y0 y1 y2 y3 n, x.1 = .agg [y0.1, y1.1, y2.1, y3.1] ∧ DataW.trod enc P w base sp held n f0.type ((cs.drop f0.offset).take (P.cellsOf f0.type)) = some y0 ∧ DataW.trod enc P w base sp held n f1.type ((cs.drop f1.offset).take (P.cellsOf f1.type)) = some y1 ∧
      DataW.trod enc P w base sp held n f2.type ((cs.drop f2.offset).take (P.cellsOf f2.type)) = some y2 ∧ DataW.trod enc P w base sp held n f3.type ((cs.drop f3.offset).take (P.cellsOf f3.type)) = some y3 := by
  obtain ⟨xs, n, _, rfl, hl, hlen, hf⟩ := DataW.trod_struct ht h
  match xs, hlen with
  | [y0, y1, y2, y3], _ => exact ⟨y0, y1, y2, y3, n, by simp, by simpa using hf 0 f0 rfl, by simpa using hf 1 f1 rfl, by simpa using hf 2 f2 rfl, by simpa using hf 3 f3 rfl⟩
set_option maxRecDepth 100000 in
theorem el22 {fuel : Nat} {cs : List Value} {a l m : Int} {s : List UInt8} {p : List MemPlace} {i : Nat} (hi : i < 5) (hl : cs.length = 20)
    (h : DataW.trod enc Tryd.prog w base sp held fuel 76 ((cs.drop (i * 4)).take 4) = some (.agg [.lit (.int .i64 a), .lit (.string s), .lit (.int .i64 l), .lit (.int .i64 m)], p)) :
    cs[i * 4]? = some (.int .i64 a) ∧ cs[i * 4 + 1]? = some (.string ⟨s.toArray⟩) ∧ cs[i * 4 + 2]? = some (.int .i64 l) ∧ cs[i * 4 + 3]? = some (.int .i64 m) := by
  obtain ⟨y0, y1, y2, y3, n, hx, k0, k1, k2, k3⟩ := trodS4r Tryd.underlying76 h
  have e : ∀ j, j < 4 → ((((cs.drop (i * 4)).take 4).drop j).take 1)[0]? = cs[i * 4 + j]? := fun j hj => by
    rw [List.getElem?_take, if_pos (by decide), List.getElem?_drop, List.getElem?_take, if_pos (by omega), List.getElem?_drop]
    rfl
  generalize (cs.drop (i * 4)).take 4 = E at *
  have h0 : DataW.trod enc Tryd.prog w base sp held n 3 ((E.drop 0).take 1) = some y0 := k0
  have h1 : DataW.trod enc Tryd.prog w base sp held n 9 ((E.drop 1).take 1) = some y1 := k1
  have h2 : DataW.trod enc Tryd.prog w base sp held n 3 ((E.drop 2).take 1) = some y2 := k2
  have h3 : DataW.trod enc Tryd.prog w base sp held n 3 ((E.drop 3).take 1) = some y3 := k3
  clear k0 k1 k2 k3
  obtain ⟨a0, c0, e0, _⟩ := DataW.trod_int Tryd.underlying3 h0
  obtain ⟨s1, c1, e1, _⟩ := DataW.trod_string Tryd.underlying9 h1
  obtain ⟨a2, c2, e2, _⟩ := DataW.trod_int Tryd.underlying3 h2
  obtain ⟨a3, c3, e3, _⟩ := DataW.trod_int Tryd.underlying3 h3
  clear h0 h1 h2 h3 h
  subst e0 e1 e2 e3
  simp at hx
  obtain ⟨rfl, rfl, rfl, rfl⟩ := hx
  have g0 := e 0 (by decide); rw [c0] at g0
  have g1 := e 1 (by decide); rw [c1] at g1
  have g2 := e 2 (by decide); rw [c2] at g2
  have g3 := e 3 (by decide); rw [c3] at g3
  exact ⟨g0.symm, g1.symm, g2.symm, g3.symm⟩
end
theorem opT_of {W : World} (h : laidMet Tryd.prog [("depot/relation.operators", Rows.laid_depot_relation_operators)] W) : OpT W := by
  obtain ⟨ps, ⟨g, t, cs, fuel, p, q, hg, ht, hvar, hd, _, hps⟩, _, hrows⟩ := h
  obtain rfl : 0 = g := Option.some.inj ((show Tryd.prog.globalNamed "depot/relation.operators" = some 0 by kernel_rfl).symm.trans hg)
  obtain rfl : 93 = t := Option.some.inj ((show (Tryd.prog.globals[0]?).map (·.type) = some 93 by kernel_rfl).symm.trans ht)
  unfold Rows.laid_depot_relation_operators at hd
  obtain ⟨hl, hel⟩ := arr22 hd
  have key : cs.toList = (opsC ⟨#[60, 60]⟩ ⟨#[60, 61]⟩ ⟨#[61]⟩ ⟨#[62, 61]⟩ ⟨#[62, 62]⟩).toList := by
    obtain ⟨f0, d0, q0, x0, y0⟩ := hel 0 (by decide)
    obtain ⟨f1, d1, q1, x1, y1⟩ := hel 1 (by decide)
    obtain ⟨f2, d2, q2, x2, y2⟩ := hel 2 (by decide)
    obtain ⟨f3, d3, q3, x3, y3⟩ := hel 3 (by decide)
    obtain ⟨f4, d4, q4, x4, y4⟩ := hel 4 (by decide)
    simp at x0 x1 x2 x3 x4
    subst x0 x1 x2 x3 x4
    obtain ⟨a0, a1, a2, a3⟩ := el22 (by decide) hl y0
    obtain ⟨b0, b1, b2, b3⟩ := el22 (by decide) hl y1
    obtain ⟨c0, c1, c2, c3⟩ := el22 (by decide) hl y2
    obtain ⟨d0, d1, d2, d3⟩ := el22 (by decide) hl y3
    obtain ⟨e0, e1, e2, e3⟩ := el22 (by decide) hl y4
    clear y0 y1 y2 y3 y4 hd hel hrows hvar
    generalize cs.toList = L at *
    match L, hl with
    | [v0, v1, v2, v3, v4, v5, v6, v7, v8, v9, v10, v11, v12, v13, v14, v15, v16, v17, v18, v19], _ =>
      simp at a0 a1 a2 a3 b0 b1 b2 b3 c0 c1 c2 c3 d0 d1 d2 d3 e0 e1 e2 e3
      subst a0 a1 a2 a3 b0 b1 b2 b3 c0 c1 c2 c3 d0 d1 d2 d3 e0 e1 e2 e3
      rfl
  obtain ⟨⟨c, t', hc⟩, _⟩ := hrows 0 0 (by
    rw [hps]
    refine List.mem_append_left _ (List.mem_append_left _ ?_)
    have : cs.size = 20 := by rw [← hl]; simp
    rw [this]
    simp [MemPlace.row])
  refine ⟨t', ?_⟩
  have hv : Tryd.prog.globalNamed "depot/relation.operators" = some 0 := hg
  unfold World.var? at hvar
  rw [hv] at hvar
  simp only [Option.bind_some, hc, Option.some.injEq] at hvar
  rw [hc, hvar, show cs = opsC ⟨#[60, 60]⟩ ⟨#[60, 61]⟩ ⟨#[61]⟩ ⟨#[62, 61]⟩ ⟨#[62, 62]⟩ from Array.toList_inj.1 key]

end Go.Proofs.YtmfcaoacklbkoaaDoor
