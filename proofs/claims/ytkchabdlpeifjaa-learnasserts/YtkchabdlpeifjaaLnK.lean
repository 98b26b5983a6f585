/-
  learn: resolved.
  KEEP: len below nil form rd mono one more grown lt size cell some none of ofNat add out step row get at mk new made look put del kept drew alloc has same other map rde take lit lev lstB pre ws cells bnd on start app set box bel rz tidy ms reason c f
-/
import Derived.Test.YtkchabdlpeifjaaLnJ
import Derived.Maps.RangeWalk
set_option linter.unusedSimpArgs false
set_option linter.unusedVariables false
namespace Go.Proofs.Ytkchabdlpeifjaa
open Go Go.RowKit
/-- a set of places is no greater than there are places -/
theorem Ms.fit {W : World} {g n s N : Nat} {T : Int → Bool} (h : Ms W g n s T) (hT : ∀ q, T q = true → 0 ≤ q ∧ q < (N : Int)) : Ms W g N s T := by
  obtain ⟨D, ⟨es, clock, hb, F, hs, hD⟩, td, sz, hh⟩ := h
  refine ⟨D, ⟨es, clock, hb, F, ?_, hD⟩, td, sz, hh⟩
  have hp := Maps.fit_apart lawI F
  have hk := Maps.fit_keys F
  have key : ∀ p ∈ es.toList.map (WideElems.rg Try.prog 3 (unitElem (H := Unit))), ∃ x : Int, p.1 = .int .i64 x ∧ 0 ≤ x ∧ x < (N : Int) := fun p hpm => by
    obtain ⟨v, hv⟩ := hk p hpm
    obtain ⟨x, _, hx, _⟩ := Maps.keyOf_int_inv Try.underlying3 hv
    refine ⟨x, hx, hT x ?_⟩
    rw [← hh x, hD, Maps.has_eq, List.any_eq_true]
    exact ⟨p, mem_sorted.2 hpm, by rw [hx]; simp [Lit.sameKey]⟩
  let f : Lit × DataW Unit → Int := fun p => match p.1 with | .int _ x => x + 1 | _ => 0
  have h1 : ((es.toList.map (WideElems.rg Try.prog 3 (unitElem (H := Unit)))).map f).Pairwise (fun a b => a ≠ b) := by
    rw [List.pairwise_map]
    refine List.Pairwise.imp_of_mem ?_ hp
    intro a b ha hb' hne e
    obtain ⟨x, hx, _⟩ := key a ha
    obtain ⟨y, hy, _⟩ := key b hb'
    apply hne
    rw [hx, hy]
    have e' : x + 1 = y + 1 := by
      have : f a = f b := e
      simp only [f, hx, hy] at this
      exact this
    rw [show x = y by omega]
  have h2 := len_of_apart N _ h1 (fun x hx => by
    obtain ⟨p, hpm, rfl⟩ := List.mem_map.1 hx
    obtain ⟨y, hy, h3, h4⟩ := key p hpm
    show 1 ≤ f p ∧ f p ≤ _
    simp only [f, hy]
    omega)
  simpa using h2
theorem Rv.fit {w0 W : World} {X : Nat} {a : Option Addr} {t : List Ent} {c g : Nat} {L : Int} {n : Nat} {T : Int → Bool} (h : Rv w0 W X a t c g L n T) (hT : ∀ q, T q = true → 0 ≤ q ∧ q < (t.length : Int)) : Rv w0 W X a t c g L t.length T := by
  obtain ⟨s, hs⟩ := h.ms
  exact ⟨h.rz0, h.eX, h.bel, h.box, h.lvb, ⟨s, hs.fit hT⟩, h.stb, h.lf⟩
/-- how resolved begins -/
theorem Rv.start {w : World} {a : Option Addr} {t : List Ent} {c g : Nat} (L : Int) (h : Rz w a t c g t) :
    ∃ w1, (((((w.alloc (.cells #[.slice a t.length c, .map (some g)] 45)).alloc (.cells #[.int .i64 L] 3)).alloc (.map #[] 0)).alloc (.cells #[.map (some (w.heap.size + 2))] 57)).alloc (.cells #[.int .i64 0] 3)) = w1 ∧ Rv w w1 w.heap.size a t c g L 0 (fun _ => false) := by
  refine ⟨_, rfl, ?_⟩
  have s1 : (w.alloc (.cells #[.slice a t.length c, .map (some g)] 45)).heap.size = w.heap.size + 1 := by simp
  generalize hw1 : w.alloc (.cells #[.slice a t.length c, .map (some g)] 45) = w1 at *
  have s2 : (w1.alloc (.cells #[.int .i64 L] 3)).heap.size = w.heap.size + 2 := by simp [s1]
  have o1 : Bx2 w1 w.heap.size 45 (.slice a t.length c) (.map (some g)) := by rw [← hw1]; exact Bx2.new _ _ _ _
  have o2 := Bo1.new w1 3 (.int .i64 L)
  rw [s1] at o2
  have k1 : Below w.heap.size w w1 := by rw [← hw1]; exact below_box _ _
  have k2 := below_box w1 (.cells #[.int .i64 L] 3)
  generalize hw2 : w1.alloc (.cells #[.int .i64 L] 3) = w2 at *
  have s3 : (w2.alloc (.map #[] 0)).heap.size = w.heap.size + 3 := by simp [s2]
  have o3 := Ms.made w2
  rw [s2] at o3
  have k3 := below_box w2 (.map #[] 0)
  generalize hw3 : w2.alloc (.map #[] 0) = w3 at *
  have s4 : (w3.alloc (.cells #[.map (some (w.heap.size + 2))] 57)).heap.size = w.heap.size + 4 := by simp [s3]
  have o4 := Bo1.new w3 57 (.map (some (w.heap.size + 2)))
  rw [s3] at o4
  have k4 := below_box w3 (.cells #[.map (some (w.heap.size + 2))] 57)
  generalize hw4 : w3.alloc (.cells #[.map (some (w.heap.size + 2))] 57) = w4 at *
  have o5 := Bo1.new w4 3 (.int .i64 0)
  rw [s4] at o5
  have k5 := below_box w4 (.cells #[.int .i64 0] 3)
  have c0 : cn t L (fun _ => false) t.length = 0 := by
    have := cn_none t L (fun _ => false) t.length 0 (by omega) (fun _ _ => rfl)
    rw [this]; rfl
  refine ⟨h, rfl, Below.step k1 (Below.step k2 (Below.step k3 (Below.step k4 k5))), o1.below (Below.step k2 (Below.step k3 (Below.step k4 k5))), o2.below (Below.step k3 (Below.step k4 k5)), ⟨0, o3.below (Below.step k4 k5)⟩, o4.below k5, ?_⟩
  rw [c0]; exact o5
set_option maxRecDepth 100000 in
set_option maxHeartbeats 3200000 in
theorem resolved_any (w : World) (a : Option Addr) (t : List Ent) (c g : Nat) (L : Int) (vc : Value) (zs : List Int) (h : Rz w a t c g t) (hz : Rd w vc zs) (hf : falB t zs = true) (hL : L = topI t zs) :
    Calls Try.prog 33 #[rV a t.length c g, vc, .int .i64 L] w fun e w' => e = .returned (.map (some (w.heap.size + 2))) ∧ Rv w w' w.heap.size a t c g L t.length (RS t zs) := by
  have hl := hz.len
  obtain ⟨w1, hw1, hS⟩ := Rv.start L h
  obtain ⟨X, hX⟩ : ∃ X, w.heap.size = X := ⟨_, rfl⟩
  rw [hX] at hw1 hS ⊢
  have HS : Hid (Rv w w1 X a t c g L 0 (fun _ => false)) := hS
  have HZ : Hid (Rd w vc zs) := hz
  obtain ⟨ua, uc, rfl, huc, hum, _⟩ := hz.form
  have hmake : ∀ W : World, (Instr.makeMap 57 none).run Try.prog W = .ok (.map (some W.heap.size)) (W.alloc (.map #[] 0)) := fun W => rfl
  go_enter Try.func33, Try.ntmps33
  have HL : Hid (L = topI t zs) := hL
  have HWs : Hid (Ws t) := h.ws
  have HIv0 : Hid (Iv t L t.length (T0 t zs)) := by rw [hL]; exact T0_iv h.ws hf
  have HFl : Hid (∀ x ∈ zs, isF t x = true) := by unfold falB at hf; exact List.all_eq_true.1 hf
  have hbn := h.bnd
  have htl := h.ws.len
  have HCl : Hid (∀ x ∈ zs, plN t x < t.length) := fun x hx => (h.ws.isF_at (HFl.out x hx)).2.1
  have HW1 : Hid (((((w.alloc (.cells #[.slice a t.length c, .map (some g)] 45)).alloc (.cells #[.int .i64 L] 3)).alloc (.map #[] 0)).alloc (.cells #[.map (some (X + 2))] 57)).alloc (.cells #[.int .i64 0] 3) = w1) := hw1
  clear hL hf h hz hS hw1
  go_upto_region 3 with fail
  simp only [Nat.add_assoc, Nat.reduceAdd]
  rw [HW1.out]
  clear HW1 hmake
  have HBd : Hid (∀ k, k ≤ zs.length → ∀ q, adS t (fun _ => false) (zs.take k) q = true → 0 ≤ q ∧ q < (t.length : Int)) := fun k hk q hq => by
    rcases (adS_mem t _ _ q).1 hq with h1 | ⟨x, hx, rfl⟩
    · cases h1
    · have := HCl.out x (List.mem_of_mem_take hx); omega
  go_wp2_with fail
  go_loopg [21] zs.length (fun g' j wr => ∃ k : Nat, k + g' = zs.length ∧ j = .int .i64 k ∧ Hid (Rv w wr X a t c g L t.length (adS t (fun _ => false) (zs.take k))))
  case atStart => exact ⟨0, by omega, rfl, HS.out.wide (by omega)⟩
  case round =>
    obtain ⟨k, hk, rfl, HR⟩ := hrel
    have HK : Hid (k + gk = zs.length) := hk
    by_cases hlt : k < zs.length
    · obtain ⟨ua', uc', e', _, _, hcell⟩ := (HZ.out.below (by rw [hX]; exact HR.out.bel)).form
      injection e' with q1 q2 q3
      subst q1 q3
      obtain ⟨b2, off2, rfl, hck⟩ := hcell k hlt
      have HP : Hid (Calls Try.prog 52 #[.int .i64 (zs.getD k 0), .pointer (some ⟨X, 0, none⟩), .pointer (some ⟨X + 3, 0, none⟩), .pointer (some ⟨X + 1, 0, none⟩), .pointer (some ⟨X + 4, 0, none⟩)] wr fun e w' => e = .returned (.tuple #[]) ∧ Rv w w' X a t c g L t.length (adS t (fun _ => false) (zs.take (k + 1)))) := (put_any w wr X a t c g L t.length _ (zs.getD k 0) HR.out (HFl.out _ (getD_mem' hlt)) (by omega)).mono fun e w' ⟨h1, h2⟩ => ⟨h1, by
          have e1 : adS t (fun _ => false) (zs.take (k + 1)) = inS (adS t (fun _ => false) (zs.take k)) (plN t (zs.getD k 0) : Int) := by rw [take_succ_getD zs 0 k hlt, adS_snoc]
          rw [← e1] at h2
          exact h2.fit (HBd.out (k + 1) (by omega))⟩
      clear hk hcell
      generalize zs.getD k 0 = y at *
      go_wp2_with (go_at_call 52; refine HP.out.mono ?_; rintro e w2 ⟨rfl, h2⟩; have H2 : Hid (Rv w w2 X a t c g L t.length (adS t (fun _ => false) (zs.take (k + 1)))) := h2; clear h2)
      go_roundg (gk - 1)
      case measure => have := HK.out; omega
      case rel => exact ⟨k + 1, by have := HK.out; omega, by go_num, H2.out⟩
    · obtain rfl : k = zs.length := by omega
      have HR2 : Hid (Rv w wr X a t c g L t.length (T0 t zs)) := by have := HR.out; rw [List.take_length] at this; exact this
      have b0 := HR2.out.box.c0
      have hwr : IntKind.i64.wrap ((t.length : Int) - 1) = (t.length : Int) - 1 := by rw [IntKind.wrap_i64]; omega
      clear hk HR HS
      go_wp2_with fail
      clear hlt huc hum hl b0 hwr
      go_loopg [12] t.length (fun g' j wr => ∃ T : Int → Bool, j = .int .i64 ((g' : Int) - 1) ∧ Hid (Iv t L g' T) ∧ Hid (rsv t L g' T = RS t zs) ∧ Hid (Rv w wr X a t c g L t.length T))
      case atStart => exact ⟨T0 t zs, rfl, HIv0.out, by show _ = _; rw [HL.out]; rfl, HR2.out⟩
      case round =>
        obtain ⟨T, rfl, HI, HRs, HR⟩ := hrel
        obtain ⟨m, hm⟩ : ∃ m, cn t L T t.length = m := ⟨_, rfl⟩
        have HM : Hid (cn t L T t.length = m) := hm
        have f4 := HR.out.lf.c
        rw [hm] at f4
        have f3 := HR.out.stb.c
        have hml : m ≤ t.length := by rw [← hm]; exact cn_le t L T t.length
        clear hm
        by_cases hc : m ≤ 1
        · have HE : Hid (RS t zs = T) := by show _ = _; rw [← HRs.out]; exact rsv_stop (by rw [HM.out]; exact hc) gk
          have hcb : ¬ (1 : Int) < (m : Int) := by omega
          go_wp2_with fail
          go_ret
          exact ⟨rfl, by rw [HE.out]; exact HR.out⟩
        · have hcb : (1 : Int) < (m : Int) := by omega
          obtain ⟨k, rfl⟩ : ∃ k, gk = k + 1 := by
            cases gk with
            | zero =>
              exfalso
              have := cn_none t L T t.length 0 (by omega) (fun p _ => by
                cases e : T (p : Int) with
                | false => rfl
                | true => have := HI.out.bnd _ e; omega)
              rw [HM.out] at this
              simp [cn] at this
              omega
            | succ k => exact ⟨k, rfl⟩
          have hkl : k < t.length := by have := HI.out.le; omega
          have hkj : ((k + 1 : Nat) : Int) - 1 = (k : Int) := by omega
          rw [hkj]
          clear hkj
          obtain ⟨s, hms⟩ := HR.out.ms
          have hlk := hms.look Try.underlying57 (x := (k : Int)) (by omega) (by omega)
          have H2 : Hid (Rv w (wr.alloc (.cells #[] 69)) X a t c g L t.length T) := HR.out.below (below_box _ _)
          have hwk : IntKind.i64.wrap ((k : Int) - 1) = (k : Int) - 1 := by rw [IntKind.wrap_i64]; omega
          clear hms
          cases hT : T (k : Int)
          · rw [hT] at hlk
            have HI2 : Hid (Iv t L k T) := HI.out.skip hT
            have HR3 : Hid (rsv t L k T = RS t zs) := by
              show _ = _
              rw [← HRs.out, rsv_succ, if_neg (by rw [HM.out]; exact hc), if_neg (by rw [hT]; simp)]
            clear hT HI HRs HR
            go_wp2_with fail
            go_roundg k
            case measure => omega
            case rel => exact ⟨T, rfl, HI2.out, HR3.out, H2.out⟩
          · rw [hT] at hlk
            have HLk : Hid (lvP t k = L) := HI.out.at HWs.out (by rw [HM.out]; omega) hT
            have HI2 : Hid (Iv t L k (adS t (outS T (k : Int)) (rOth t k))) := HI.out.step HWs.out (by rw [HM.out]; omega) hT
            have HR3 : Hid (rsv t L k (adS t (outS T (k : Int)) (rOth t k)) = RS t zs) := by
              show _ = _
              rw [← HRs.out, rsv_succ, if_neg (by rw [HM.out]; exact hc), if_pos hT]
            have HTb : Hid (∀ q, outS T (k : Int) q = true → 0 ≤ q ∧ q < (t.length : Int)) := fun q hq => by
              unfold outS at hq
              rw [Bool.and_eq_true] at hq
              have := HI.out.bnd q hq.2
              omega
            have hcn : cn t L (outS T (k : Int)) t.length + 1 = m := by rw [← HM.out]; exact cn_out t L T k hT HLk.out t.length hkl
            obtain ⟨s2, hms2⟩ := H2.out.ms
            obtain ⟨w3, hrun3, hms3, hg3⟩ := hms2.del Try.underlying57 (x := (k : Int)) (by omega) (by omega) 0
            have e3 := H2.out.stb.c
            have d4 := (H2.out.lf.kept hg3 (by simp)).c
            have d5 := (H2.out.lf.kept hg3 (by simp)).f
            have d6 := (H2.out.lf.kept hg3 (by simp)).lt
            rw [HM.out] at d4
            have H4 := H2.out.count hg3 (n' := t.length) (T' := outS T (k : Int)) ⟨_, hms3⟩
            have hwm : IntKind.i64.wrap ((m : Int) - 1) = (cn t L (outS T (k : Int)) t.length : Int) := by rw [IntKind.wrap_i64]; omega
            obtain ⟨mc, hmc⟩ : ∃ mc, (cn t L (outS T (k : Int)) t.length : Int) = mc := ⟨_, rfl⟩
            rw [hmc] at H4 hwm
            have hmm : (m : Int) - 1 = mc := by rw [← hmc]; omega
            obtain ⟨w4, hw4⟩ : ∃ w4, w3.setCell ⟨X + 4, 0, none⟩ (.int .i64 mc) = w4 := ⟨_, rfl⟩
            rw [hw4] at H4
            have H5 : Hid (Rv w w4 X a t c g L t.length (outS T (k : Int))) := H4
            obtain ⟨b, off, u, rfl, hbl, c0, c1, c2, hru⟩ := H4.rz0.cells hkl
            have hlu := hru.len
            have HRu : Hid (Rd w u (t.getD k e0).2.2) := hru
            obtain ⟨ra, rc, rfl, hrc, hrm, _⟩ := hru.form
            have HC : Hid (∀ W, Below X w W → W.cell? ⟨b, off + k * 3, none⟩ = some (.int .i64 (t.getD k e0).1) ∧ W.cell? ⟨b, off + k * 3 + 2, none⟩ = some (.slice ra (t.getD k e0).2.2.length rc) ∧ Rd W (.slice ra (t.getD k e0).2.2.length rc) (t.getD k e0).2.2) := fun W hW => by
              have hW' : Below w.heap.size w W := by rw [hX]; exact hW
              exact ⟨(hW'.cell (p := ⟨b, off + k * 3, none⟩) hbl).trans c0, (hW'.cell (p := ⟨b, off + k * 3 + 2, none⟩) hbl).trans c2, HRu.out.below hW'⟩
            have g0 := H5.out.box.c0
            have g1 := (HC.out w4 H5.out.bel).2.1
            clear hT HI HRs HR hms2 hms3 hg3 H4 hru c0 c1 c2 hcn hmc H2
            go_upto_region 15 with fail
            have HBo : Hid (∀ j, ∀ q, adS t (outS T (k : Int)) (((t.getD k e0).2.2.take j).filter fun x => x != (t.getD k e0).1) q = true → 0 ≤ q ∧ q < (t.length : Int)) := fun j q hq => by
              rcases (adS_mem t _ _ q).1 hq with h1 | ⟨x, hx, rfl⟩
              · exact HTb.out q h1
              · have h2 : x ∈ rOth t k := by
                  obtain ⟨h3, h4⟩ := List.mem_filter.1 hx
                  exact List.mem_filter.2 ⟨List.mem_of_mem_take h3, h4⟩
                have := (HWs.out.rOth_at hkl h2).2
                omega
            have HPt : Hid (∀ x ∈ (t.getD k e0).2.2, x ≠ (t.getD k e0).1 → isF t x = true) := fun x hx hne => (HWs.out.rOth_at hkl (List.mem_filter.2 ⟨hx, by simpa using hne⟩)).1
            have HRo : Hid (rOth t k = (t.getD k e0).2.2.filter fun x => x != (t.getD k e0).1) := rfl
            clear hrun3 hw4 f3 f4 e3 d4 d5 d6 hwm hmm hcb hc HM HTb hlk
            generalize (t.getD k e0).2.2 = rs at *
            generalize (t.getD k e0).1 = lt at *
            go_wp2_with fail
            go_loopg [56] rs.length (fun g' j wr => ∃ q : Nat, q + g' = rs.length ∧ j = .int .i64 q ∧ Hid (Rv w wr X (some ⟨b, off, none⟩) t c g L t.length (adS t (outS T (k : Int)) ((rs.take q).filter fun x => x != lt))))
            case atStart => exact ⟨0, by omega, rfl, H5.out⟩
            case round =>
              obtain ⟨q, hq, rfl, HQ⟩ := hrel
              have HK2 : Hid (q + gk = rs.length) := hq
              have g2 := HQ.out.box.c0
              obtain ⟨g3, _, hrr⟩ := HC.out wr HQ.out.bel
              by_cases hlq : q < rs.length
              · obtain ⟨ra', rc', e', _, _, hcell⟩ := hrr.form
                injection e' with q1 q2 q3
                subst q1 q3
                obtain ⟨b3, off3, rfl, hck⟩ := hcell q hlq
                have HTk := take_succ_getD rs 0 q hlq
                have hmem := getD_mem' (l := rs) (k := q) (d := 0) hlq
                by_cases he : rs.getD q 0 = lt
                · have HE : Hid ((rs.take (q + 1)).filter (fun x => x != lt) = (rs.take q).filter fun x => x != lt) := by
                    show _ = _
                    rw [HTk, List.filter_append, he]; simp
                  rw [he] at hck
                  clear hq hcell HTk hmem he
                  go_wp2_with fail
                  go_roundg (gk - 1)
                  case measure => have := HK2.out; omega
                  case rel => exact ⟨q + 1, by have := HK2.out; omega, by go_num, by rw [HE.out]; exact HQ.out⟩
                · have HE : (rs.take (q + 1)).filter (fun x => x != lt) = (rs.take q).filter (fun x => x != lt) ++ [rs.getD q 0] := by
                    rw [HTk, List.filter_append, List.filter_cons_of_pos (by simpa using he), List.filter_nil]
                  have HP : Hid (Calls Try.prog 52 #[.int .i64 (rs.getD q 0), .pointer (some ⟨X, 0, none⟩), .pointer (some ⟨X + 3, 0, none⟩), .pointer (some ⟨X + 1, 0, none⟩), .pointer (some ⟨X + 4, 0, none⟩)] wr fun e w' => e = .returned (.tuple #[]) ∧ Rv w w' X (some ⟨b, off, none⟩) t c g L t.length (adS t (outS T (k : Int)) ((rs.take (q + 1)).filter fun x => x != lt))) := (put_any w wr X _ t c g L t.length _ (rs.getD q 0) HQ.out (HPt.out _ hmem he) (by omega)).mono fun e w' ⟨h1, h2⟩ => ⟨h1, by
                    rw [← adS_snoc, ← HE] at h2
                    exact h2.fit (HBo.out (q + 1))⟩
                  have hne : (rs.getD q 0 != lt) = true := by simpa using he
                  clear hq hcell HTk hmem HE
                  generalize rs.getD q 0 = y at *
                  go_wp2_with (go_at_call 52; refine HP.out.mono ?_; rintro e w2 ⟨rfl, h2⟩; have H7 : Hid (Rv w w2 X (some ⟨b, off, none⟩) t c g L t.length (adS t (outS T (k : Int)) ((rs.take (q + 1)).filter fun x => x != lt))) := h2; clear h2)
                  go_roundg (gk - 1)
                  case measure => have := HK2.out; omega
                  case rel => exact ⟨q + 1, by have := HK2.out; omega, by go_num, H7.out⟩
              · obtain rfl : q = rs.length := by omega
                have HF : Hid (Rv w wr X (some ⟨b, off, none⟩) t c g L t.length (adS t (outS T (k : Int)) (rOth t k))) := by
                  have := HQ.out
                  rw [List.take_length] at this
                  show Rv _ _ _ _ _ _ _ _ _ _
                  rw [HRo.out]; exact this
                clear hq
                go_wp2_with fail
                go_roundg k
                case measure => omega
                case rel => exact ⟨_, rfl, HI2.out, HR3.out, HF.out⟩
end Go.Proofs.Ytkchabdlpeifjaa
