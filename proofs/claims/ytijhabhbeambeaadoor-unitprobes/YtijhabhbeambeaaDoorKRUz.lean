/-
  unit, the document's answer: round, Closing.
  KEEP: set on app at below new trans refl start ap kept rd rds mono lt add none own nil put len pos setF setV putL putR other neV same_any
-/
import Derived.Test.YtijhabhbeambeaaDoorKRUy
set_option linter.unusedSimpArgs false
set_option linter.unusedVariables false
namespace Go.Proofs.YtijhabhbeambeaaDoor
open Go Go.RowKit

/-- what is true so far, on the way from some facts -/
structure Ri (css : List (List Int)) (facts : List Int) (t : Nat) (L : List Int) : Prop where
  con : Con L
  had : ∀ x ∈ facts, x ∈ L
  der : ∀ x ∈ L, Der css facts x
  upt : Upt t L
theorem Ri.put {css : List (List Int)} {facts : List Int} {t : Nat} {L : List Int} {k : Nat} {l : Int} (h : Ri css facts t L) (hk : k < css.length) (h0 : l ≠ 0) (hkd : kd L (css.getD k []) = some l) (hu : ∀ c ∈ css, Upt t c) : Ri css facts t (L ++ [l]) ∧ -l ∉ L ∧ l ∉ L ∧ l ∈ css.getD k [] := by
  rcases kd_cases L (css.getD k []) with ⟨e, _⟩ | ⟨e, _, _⟩ | ⟨l', e, h1, h2, h3, h4⟩
  · rw [hkd] at e; cases e
  · rw [hkd] at e; injection e with e; exact absurd e h0
  · rw [hkd] at e; injection e with e; subst e
    refine ⟨⟨h.con.snoc h0 h2, fun x hx => List.mem_append.2 (.inl (h.had x hx)), fun x hx => ?_, fun x hx => ?_⟩, h2, h4 _ h1, h1⟩
    · rcases List.mem_append.1 hx with a | a
      · exact h.der x a
      · rw [show x = l by simpa using a]
        exact .unit (getD_in hk) h1 fun m hm hne => h.der _ (h3 m hm hne)
    · rcases List.mem_append.1 hx with a | a
      · exact h.upt x a
      · rw [show x = l by simpa using a]; exact hu _ (getD_in hk) l h1
theorem Ri.clash {css : List (List Int)} {facts : List Int} {t : Nat} {L : List Int} {k : Nat} (h : Ri css facts t L) (hk : k < css.length) (nz : Nz css) (hkd : kd L (css.getD k []) = some 0) : Cla css facts := by
  rcases kd_cases L (css.getD k []) with ⟨e, _⟩ | ⟨e, h1, _⟩ | ⟨l', e, h1, h2, h3, h4⟩
  · rw [hkd] at e; cases e
  · exact .inr ⟨_, getD_in hk, fun m hm => h.der _ (h1 m hm)⟩
  · rw [hkd] at e; injection e with e; subst e; exact absurd rfl (nz _ (getD_in hk) _ h1)
theorem Ri.fin {css : List (List Int)} {facts : List Int} {t : Nat} {L : List Int} (h : Ri css facts t L) (hc : Calm css L) : ¬ Cla css facts ∧ ∀ x, Der css facts x ↔ x ∈ L := by
  obtain ⟨h1, h2⟩ := calm_der h.con hc
  have hin : ∀ x ∈ facts, Der css L x := fun x hx => .fact (h.had x hx)
  exact ⟨fun h3 => h2 (h3.trans hin), fun x => ⟨fun h3 => h1 x (h3.trans hin), h.der x⟩⟩
theorem mes_put {css : List (List Int)} {L : List Int} {k : Nat} {l : Int} (hk : k < css.length) (hl : l ∈ css.getD k []) (hL : l ∉ L) : mes css (L ++ [l]) < mes css L :=
  filter_lt (x := l) (fun y _ hy => by
    rw [decide_eq_true_eq] at hy ⊢
    exact fun h2 => hy (List.mem_append.2 (.inl h2))) (List.mem_flatten.2 ⟨_, getD_in hk, hl⟩) (decide_eq_true hL) (by simp)
/-- where a round stands -/
structure Rd6 (css : List (List Int)) (facts : List Int) (t : Nat) (L L' : List Int) (n : Nat) (k : Nat) : Prop where
  ri : Ri css facts t L'
  no : n = 0 → L' = L ∧ ∀ j, j < k → kd L (css.getD j []) = none
  yes : 0 < n → mes css L' < mes css L
  few : n ≤ k
set_option maxRecDepth 100000 in
set_option maxHeartbeats 2000000 in
theorem rRound_any (B g t : Nat) (v : Int) (s : Value) (css : List (List Int)) (facts L : List Int) (w : World) (hr : Rds w s css) (hv : Vz B w g (t + 1) t L) (ht : t ≤ 1048576) (hu : ∀ c ∈ css, Upt t c) (hi : Ri css facts t L) (hN : css.length ≤ 1073741824) (hap : ∀ W, w.grownBy W (some g) → Rds W s css) :
    Calls Tryd.prog 60 #[.agg #[.int .i64 v, s], .slice (some ⟨g, 0, none⟩) (t + 1) (t + 1)] w fun e w' => ∃ (n : Nat) (clash : Bool) (L' : List Int), e = .returned (.tuple #[.int .i64 (n : Int), .bool clash]) ∧ Vz B w' g (t + 1) t L' ∧ Ri css facts t L' ∧ mes css L' ≤ mes css L ∧ (clash = true → Cla css facts) ∧ (clash = false → n = 0 → Calm css L') ∧ (0 < n → mes css L' < mes css L) ∧ w.grownBy w' (some g) ∧ n ≤ css.length := by
  have HU : Hid ((∀ c ∈ css, Upt t c) ∧ t ≤ 1048576 ∧ Nz css) := ⟨hu, ht, fun c hc l hl => (fmd_range (hu c hc l hl).1).1⟩
  have HBel : Hid (w.grownBy (w.alloc (.cells #[.int .i64 v, s] 24)) (some g)) := ⟨rfl, rfl, rfl, (below_box w _).size, fun k hk _ => (below_box w _).block k hk⟩
  have HAp : Hid (∀ W, w.grownBy W (some g) → Rds W s css) := hap
  have hgl : g < w.heap.size := (hv.lt g rfl).2
  have k0 := box0 w (.int .i64 v) s 24
  have k1 := box1 w (.int .i64 v) s 24
  have HX0 : Hid (∀ W, (w.alloc (.cells #[.int .i64 v, s] 24)).grownBy W (some g) → W.cell? ⟨w.heap.size, 0, none⟩ = some (.int .i64 v) ∧ W.cell? ⟨w.heap.size, 1, none⟩ = some s) := fun W hW => by
    have hb := hW.block w.heap.size (by rw [World.size_alloc]; exact Nat.lt_succ_self _) (fun e => by injection e with e; omega)
    have hc : ∀ o, W.cell? ⟨w.heap.size, o, none⟩ = (w.alloc (.cells #[.int .i64 v, s] 24)).cell? ⟨w.heap.size, o, none⟩ := fun o => by simp only [World.cell?, hb]
    exact ⟨(hc 0).trans k0, (hc 1).trans k1⟩
  obtain ⟨aS, cS, rfl, hl3, hl4, -⟩ := hr.form
  have HS0 : Hid (Vz B (w.alloc (.cells #[.int .i64 v, .slice aS css.length cS] 24)) g (t + 1) t L ∧ Rd6 css facts t L L 0 0) := ⟨hv.below (below_box _ _), ⟨hi, fun _ => ⟨rfl, fun j hj => by omega⟩, fun h => by omega, Nat.le_refl _⟩⟩
  clear hr hv ht hu hi hap k0 k1 hgl
  go_enter Tryd.func60, Tryd.ntmps60
  go_wp2
  generalize w.alloc (.cells #[.int .i64 v, .slice aS css.length cS] 24) = W0 at *
  go_loopg [6, 7] css.length (fun q n' i' wr => ∃ (n k : Nat) (L' : List Int), k + q = css.length ∧ n' = .int .i64 (n : Int) ∧ i' = .int .i64 (k : Int) ∧ Rd6 css facts t L L' n k ∧ Vz B wr g (t + 1) t L' ∧ W0.grownBy wr (some g))
  case atStart => exact ⟨0, 0, L, by omega, rfl, rfl, HS0.out.2, HS0.out.1, ⟨rfl, rfl, rfl, Nat.le_refl _, fun _ _ _ => rfl⟩⟩
  case round =>
    obtain ⟨n, k, L', hk, rfl, rfl, hrd, hv, hgb⟩ := hrel
    have HK : Hid (k + gk = css.length) := hk
    have HS : Hid (Rd6 css facts t L L' n k ∧ Vz B wr g (t + 1) t L' ∧ W0.grownBy wr (some g)) := ⟨hrd, hv, hgb⟩
    have hfew := hrd.few
    have HG : Hid (w.grownBy wr (some g)) := ⟨hgb.os.trans HBel.out.os, hgb.tape.trans HBel.out.tape, hgb.output.trans HBel.out.output, Nat.le_trans HBel.out.size hgb.size, fun q hq hne => (hgb.block q (Nat.lt_of_lt_of_le hq HBel.out.size) hne).trans (HBel.out.block q hq hne)⟩
    obtain ⟨c0, c1⟩ := HX0.out wr hgb
    have HRds : Hid (Rds wr (.slice aS css.length cS) css) := HAp.out wr HG.out
    have HMes : Hid (mes css L' ≤ mes css L) := by
      by_cases h0 : 0 < n
      · exact Nat.le_of_lt (hrd.yes h0)
      · rw [(hrd.no (by omega)).1]; exact Nat.le_refl _
    clear hk hrd hv hgb
    by_cases hlt : k < css.length
    · obtain ⟨a', c', e', -, -, hAT⟩ := HRds.out.form
      injection e' with e1 _ e3
      subst e1
      subst e3
      obtain ⟨bb, off, u, rfl, kc, hrd⟩ := hAT k hlt
      have HRd : Hid (Rd wr u (css.getD k [])) := hrd
      obtain ⟨au, cu, rfl, -, -, -⟩ := hrd.form
      have HLT : Hid (k < css.length) := hlt
      have HSt : Hid (Calls Tryd.prog 66 #[.slice au (css.getD k []).length cu, .slice (some ⟨g, 0, none⟩) (t + 1) (t + 1)] wr fun e w' => ∃ k1 o, e = .returned (.tuple #[.int .i64 k1, .int .i64 o]) ∧ StOk L' (css.getD k []) k1 o ∧ w' = wr) := rStands_any (.slice au (css.getD k []).length cu) _ (css.getD k []) t L' wr HRd.out (HS.out.2.1.rd HU.out.2.1) HU.out.2.1 (HU.out.1 _ (getD_in hlt)) HS.out.1.ri.con
      clear hrd hAT
      generalize hck : css.getD k [] = ck at *
      have HCk : Hid (css.getD k [] = ck) := hck
      clear hck
      go_wp2_with fail
      refine HSt.out.mono ?_
      rintro e w9 ⟨kk, o, rfl, hst, hw9⟩
      obtain rfl : wr = w9 := hw9.symm
      clear hw9
      rcases hst with ⟨hkd, rfl, rfl⟩ | ⟨l, hl0, hkd, rfl, rfl⟩ | ⟨hkd, hkk, rfl⟩
      · have HC : Hid (Cla css facts) := HS.out.1.ri.clash HLT.out HU.out.2.2 (by rw [HCk.out]; exact hkd)
        clear hkd
        go_wp2
        go_ret2
        exact ⟨n, true, L', rfl, HS.out.2.1, HS.out.1.ri, HMes.out, fun _ => HC.out, fun h => Bool.noConfusion h, HS.out.1.yes, HG.out, by have := HS.out.1.few; have := HLT.out; omega⟩
      · obtain ⟨hri, hn1, hn2, hn3⟩ := HS.out.1.ri.put HLT.out hl0 (by rw [HCk.out]; exact hkd) HU.out.1
        have HP : Hid (Ri css facts t (L' ++ [o]) ∧ -o ∉ L' ∧ o ∉ L' ∧ o ∈ css.getD k []) := ⟨hri, hn1, hn2, hn3⟩
        have HOu : Hid (fmd o = true ∧ o.natAbs ≤ t) := HU.out.1 _ (getD_in HLT.out) o hn3
        clear hkd hri hn1 hn2 hn3
        go_wp2_with fail
        refine (rPut_any B g (t + 1) t L' o wr HS.out.2.1 HU.out.2.1 HOu.out.1 HP.out.2.1 HS.out.1.ri.upt.zero HOu.out.2).mono ?_
        rintro e w5 ⟨rfl, hv5, hg5⟩
        have HF : Hid (Rd6 css facts t L (L' ++ [o]) (n + 1) (k + 1) ∧ Vz B w5 g (t + 1) t (L' ++ [o]) ∧ W0.grownBy w5 (some g)) := by
          refine ⟨⟨HP.out.1, fun h => by omega, fun _ => Nat.lt_of_lt_of_le (mes_put HLT.out HP.out.2.2.2 HP.out.2.2.1) HMes.out, by have := HS.out.1.few; omega⟩, hv5, ?_⟩
          have h1 := HS.out.2.2
          exact ⟨hg5.os.trans h1.os, hg5.tape.trans h1.tape, hg5.output.trans h1.output, Nat.le_trans h1.size hg5.size, fun q hq hne => (hg5.block q (Nat.lt_of_lt_of_le hq h1.size) hne).trans (h1.block q hq hne)⟩
        have hwn : IntKind.i64.wrap ((n : Int) + 1) = (n : Int) + 1 := by rw [IntKind.wrap_i64]; omega
        clear hv5 hg5 c0 c1 kc
        go_wp2
        go_roundg (gk - 1)
        case measure => have := HK.out; have := HLT.out; omega
        case rel => exact ⟨n + 1, k + 1, L' ++ [o], by have := HK.out; have := HLT.out; omega, by go_num, by go_num, HF.out.1, HF.out.2.1, HF.out.2.2⟩
      · have HF : Hid (Rd6 css facts t L L' n (k + 1)) := ⟨HS.out.1.ri, fun h0 => by
          obtain ⟨h1, h2⟩ := HS.out.1.no h0
          refine ⟨h1, fun j hj => ?_⟩
          by_cases e : j = k
          · subst e; rw [HCk.out, ← h1]; exact hkd
          · exact h2 j (by omega), HS.out.1.yes, by have := HS.out.1.few; omega⟩
        clear hkd
        rcases hkk with rfl | rfl
        · go_wp2
          go_roundg (gk - 1)
          case measure => have := HK.out; have := HLT.out; omega
          case rel => exact ⟨n, k + 1, L', by have := HK.out; have := HLT.out; omega, rfl, by go_num, HF.out, HS.out.2.1, HS.out.2.2⟩
        · go_wp2
          go_roundg (gk - 1)
          case measure => have := HK.out; have := HLT.out; omega
          case rel => exact ⟨n, k + 1, L', by have := HK.out; have := HLT.out; omega, rfl, by go_num, HF.out, HS.out.2.1, HS.out.2.2⟩
    · have HCm : Hid (n = 0 → Calm css L') := fun h0 j hj => by
        obtain ⟨h1, h2⟩ := HS.out.1.no h0
        rw [h1]
        exact h2 j (by have := HK.out; omega)
      go_wp2
      go_ret2
      exact ⟨n, false, L', rfl, HS.out.2.1, HS.out.1.ri, HMes.out, fun h => Bool.noConfusion h, fun _ => HCm.out, HS.out.1.yes, HG.out, by have := HS.out.1.few; have := HK.out; omega⟩

theorem rds_apart {w W : World} {s : Value} {css : List (List Int)} {g B : Nat} (hr : ∀ W0, Below B w W0 → Rds W0 s css) (hg : B ≤ g) (h : w.grownBy W (some g)) (hB : B ≤ w.heap.size) : Rds W s css :=
  hr W ⟨h.os, h.tape, h.output, h.size, fun k hk => h.block k (by omega) (fun e => by injection e with e; omega)⟩
/-- what Closing answers -/
def Cg (w : World) (css : List (List Int)) (facts : List Int) (e : Ending) (w' : World) : Prop := ∃ (g : Nat) (clash : Bool), e = .returned (.tuple #[.slice (some ⟨g, 0, none⟩) ((topL css facts).toNat + 1) ((topL css facts).toNat + 1), .bool clash]) ∧ Below w.heap.size w w' ∧ (clash = true → Cla css facts) ∧ (clash = false → ∃ L, Vz w.heap.size w' g ((topL css facts).toNat + 1) (topL css facts).toNat L ∧ Con L ∧ Upt (topL css facts).toNat L ∧ ¬ Cla css facts ∧ ∀ x, Der css facts x ↔ x ∈ L)
set_option maxRecDepth 100000 in
set_option maxHeartbeats 2000000 in
theorem rClosing_any (v : Int) (s vf : Value) (css : List (List Int)) (facts : List Int) (w : World) (hr : Rds w s css) (hf : Rd w vf facts) (h1 : frm v css = true) (h2 : facts.all fmd = true) (hN : css.length ≤ 1073741824) :
    Calls Tryd.prog 33 #[.agg #[.int .i64 v, s], vf] w fun e w' => Cg w css facts e w' := by
  have HR : Hid (Rds w s css ∧ Rd w vf facts ∧ frm v css = true ∧ facts.all fmd = true) := ⟨hr, hf, h1, h2⟩
  have HUp : Hid (Upt (topL css facts).toNat facts ∧ (∀ c ∈ css, Upt (topL css facts).toNat c) ∧ (topL css facts).toNat ≤ 1048576) := ⟨upt_facts h2, upt_css h1, by have := (top_range css facts).2.1; omega⟩
  have HAd : Hid (adj (tid facts) = false ↔ Con facts) := adj_con h2
  have HB1 : Hid (Below w.heap.size w (w.alloc (.cells #[.int .i64 v, s] 24))) := below_box _ _
  have k0 := box0 w (.int .i64 v) s 24
  have k1 := box1 w (.int .i64 v) s 24
  have hbs : w.heap.size < (w.alloc (.cells #[.int .i64 v, s] 24)).heap.size := by rw [World.size_alloc]; exact Nat.lt_succ_self _
  have HX0 : Hid (∀ W, Below (w.alloc (.cells #[.int .i64 v, s] 24)).heap.size (w.alloc (.cells #[.int .i64 v, s] 24)) W → W.cell? ⟨w.heap.size, 0, none⟩ = some (.int .i64 v) ∧ W.cell? ⟨w.heap.size, 1, none⟩ = some s) := fun W hW => ⟨(hW.cell (p := ⟨w.heap.size, 0, none⟩) hbs).trans k0, (hW.cell (p := ⟨w.heap.size, 1, none⟩) hbs).trans k1⟩
  obtain ⟨aS, cS, rfl, hl3, hl4, -⟩ := hr.form
  clear hr hf h1 h2 k0 k1 hbs
  go_enter Tryd.func33, Tryd.ntmps33
  go_wp2_with fail
  refine (rGiven_any v _ _ css facts _ (HR.out.1.below (below_box _ _)) (HR.out.2.1.below (below_box _ _)) HR.out.2.2.1 HR.out.2.2.2).mono ?_
  rintro e w2 ⟨g, rfl, hvz, bel2⟩
  generalize w.alloc (.cells #[.int .i64 v, .slice aS css.length cS] 24) = W0 at *
  have HB2 : Hid (Below W0.heap.size W0 w2) := bel2
  generalize hTe : (topL css facts).toNat = T at *
  have HTT : Hid ((topL css facts).toNat = T) := hTe
  clear hTe
  cases had : adj (tid facts)
  · have HCon : Hid (Con facts) := HAd.out.1 had
    have HVz : Hid (Vz W0.heap.size w2 g (T + 1) T facts ∧ W0.heap.size ≤ g) := ⟨hvz had, ((hvz had).lt g rfl).1⟩
    have HRi : Hid (Ri css facts T facts) := ⟨HCon.out, fun x h => h, fun x h => .fact h, HUp.out.1⟩
    clear hvz bel2 had
    go_wp2
    go_loopg [8, 9] (2 * mes css facts + 1) (fun q n' c' wr => ∃ (n : Nat) (cl : Bool) (L : List Int), q = 2 * mes css L + (if 0 < n ∧ cl = false then 1 else 0) ∧ n' = .int .i64 (n : Int) ∧ c' = .bool cl ∧ Ri css facts T L ∧ Vz W0.heap.size wr g (T + 1) T L ∧ Below W0.heap.size W0 wr ∧ (cl = true → Cla css facts) ∧ (cl = false → n = 0 → Calm css L) ∧ n ≤ 1073741824)
    case atStart => exact ⟨1, false, facts, by simp, rfl, rfl, HRi.out, HVz.out.1, HB2.out, fun h => Bool.noConfusion h, fun _ h => by omega, by omega⟩
    case round =>
      obtain ⟨n, cl, L, hq, rfl, rfl, hri, hv, hb, hcl, hcm, hnb⟩ := hrel
      have HQ : Hid (gk = 2 * mes css L + (if 0 < n ∧ cl = false then 1 else 0)) := hq
      have HS : Hid (Ri css facts T L ∧ Vz W0.heap.size wr g (T + 1) T L ∧ Below W0.heap.size W0 wr ∧ (cl = true → Cla css facts) ∧ (cl = false → n = 0 → Calm css L)) := ⟨hri, hv, hb, hcl, hcm⟩
      obtain ⟨c0, c1⟩ := HX0.out wr hb
      clear hq hri hv hb hcl hcm
      cases cl
      · by_cases hn : 0 < n
        · have HRs : Hid (∀ W, Below W0.heap.size wr W → Rds W (.slice aS css.length cS) css) := fun W hW => HR.out.1.below (Below.step HB1.out (HS.out.2.2.1.trans hW))
          have HN : Hid (0 < n) := hn
          go_wp2_with fail
          refine (rRound_any W0.heap.size g T v _ css facts L wr (HRs.out wr (Below.refl _ _)) HS.out.2.1 HUp.out.2.2 HUp.out.2.1 HS.out.1 hN (fun W hW => rds_apart HRs.out HVz.out.2 hW HS.out.2.2.1.size)).mono ?_
          rintro e w3 ⟨n3, cl3, L3, rfl, hv3, hri3, hme3, hcl3, hcm3, hy3, hg3, hn3⟩
          have HN3 : Hid (n3 ≤ 1073741824) := Nat.le_trans hn3 hN
          have HF : Hid (Ri css facts T L3 ∧ Vz W0.heap.size w3 g (T + 1) T L3 ∧ Below W0.heap.size W0 w3 ∧ (cl3 = true → Cla css facts) ∧ (cl3 = false → n3 = 0 → Calm css L3)) := ⟨hri3, hv3, HS.out.2.2.1.grown hg3 HS.out.2.2.1.size (fun q e => by injection e with e; subst e; exact HVz.out.2), hcl3, hcm3⟩
          have HM : Hid (2 * mes css L3 + (if 0 < n3 ∧ cl3 = false then 1 else 0) < gk) := by
            have h5 := HQ.out
            rw [if_pos (by simpa using HN.out)] at h5
            show _ < gk
            split
            · rename_i h6; have := hy3 h6.1; omega
            · omega
          clear hv3 hri3 hme3 hcl3 hcm3 hy3 hg3 c0 c1 hn3
          go_wp2
          go_roundg (2 * mes css L3 + (if 0 < n3 ∧ cl3 = false then 1 else 0))
          case measure => exact HM.out
          case rel => exact ⟨n3, cl3, L3, rfl, rfl, rfl, HF.out.1, HF.out.2.1, HF.out.2.2.1, HF.out.2.2.2.1, HF.out.2.2.2.2, HN3.out⟩
        · have HFin := HS.out.1.fin (HS.out.2.2.2.2 rfl (by omega))
          have HFin : Hid (¬ Cla css facts ∧ ∀ x, Der css facts x ↔ x ∈ L) := HFin
          obtain rfl : n = 0 := by omega
          go_wp2
          go_ret2
          exact ⟨g, false, by rw [HTT.out]; rfl, Below.step HB1.out HS.out.2.2.1, fun h => Bool.noConfusion h, fun _ => ⟨L, by rw [HTT.out]; exact row_mono HS.out.2.1 HB1.out.size, HS.out.1.con, by rw [HTT.out]; exact HS.out.1.upt, HFin.out.1, HFin.out.2⟩⟩
      · have HC : Hid (Cla css facts) := HS.out.2.2.2.1 rfl
        go_wp2
        all_goals
          go_ret2
          exact ⟨g, true, by rw [HTT.out]; rfl, Below.step HB1.out HS.out.2.2.1, fun _ => HC.out, fun h => Bool.noConfusion h⟩
  · have HC : Hid (Cla css facts) := not_con_cla fun hc => by have := HAd.out.2 hc; rw [had] at this; cases this
    clear hvz
    go_wp2
    go_ret2
    exact ⟨g, true, by rw [HTT.out]; rfl, Below.step HB1.out HB2.out, fun _ => HC.out, fun h => Bool.noConfusion h⟩
end Go.Proofs.YtijhabhbeambeaaDoor
