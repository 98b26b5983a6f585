/-
  joined: LnK LnT LnV LnU LnW LnCv LnCf LnX LnY LnAw LnAs
-/
import Derived.Test.YtofojjdegobekaaDoorJLnF
import Derived.Maps.RangeWalk
import Derived.Test.YtofojjdegobekaaDoorKApp2
import Derived.Test.YtofojjdegobekaaDoorKLnRc
import Derived.Test.YtofojjdegobekaaDoorJTidy
import Derived.Test.YtofojjdegobekaaDoorJForms
set_option linter.unusedSimpArgs false
set_option linter.unusedVariables false
namespace Go.Proofs.YtofojjdegobekaaDoor
open Go Go.RowKit
/-- a set of places is no greater than there are places -/
theorem Ms.fit {W : World} {g n s N : Nat} {T : Int → Bool} (h : Ms W g n s T) (hT : ∀ q, T q = true → 0 ≤ q ∧ q < (N : Int)) : Ms W g N s T := by
  obtain ⟨D, ⟨es, clock, hb, F, hs, hD⟩, td, sz, hh⟩ := h
  refine ⟨D, ⟨es, clock, hb, F, ?_, hD⟩, td, sz, hh⟩
  have hp := Maps.fit_apart lawI F
  have hk := Maps.fit_keys F
  have key : ∀ p ∈ es.toList.map (WideElems.rg Tryd.prog 3 (unitElem (H := Unit))), ∃ x : Int, p.1 = .int .i64 x ∧ 0 ≤ x ∧ x < (N : Int) := fun p hpm => by
    obtain ⟨v, hv⟩ := hk p hpm
    obtain ⟨x, _, hx, _⟩ := Maps.keyOf_int_inv Tryd.underlying3 hv
    refine ⟨x, hx, hT x ?_⟩
    rw [← hh x, hD, Maps.has_eq, List.any_eq_true]
    exact ⟨p, mem_sorted.2 hpm, by rw [hx]; simp [Lit.sameKey]⟩
  let f : Lit × DataW Unit → Int := fun p => match p.1 with | .int _ x => x + 1 | _ => 0
  have h1 : ((es.toList.map (WideElems.rg Tryd.prog 3 (unitElem (H := Unit)))).map f).Pairwise (fun a b => a ≠ b) := by
    rw [List.pairwise_map]
    refine List.Pairwise.imp_of_mem ?_ hp
    intro a b ha hb' hne e
    obtain ⟨x, hx, _⟩ := key a ha
    obtain ⟨y, hy, _⟩ := key b hb'
    apply hne
    rw [hx, hy]
    have e' : x + 1 = y + 1 := by
      have : f a = f b := e
      simp only [f, hx, hy] at this
      exact this
    rw [show x = y by omega]
  have h2 := len_of_apart N _ h1 (fun x hx => by
    obtain ⟨p, hpm, rfl⟩ := List.mem_map.1 hx
    obtain ⟨y, hy, h3, h4⟩ := key p hpm
    show 1 ≤ f p ∧ f p ≤ _
    simp only [f, hy]
    omega)
  simpa using h2
theorem Rv.fit {w0 W : World} {X : Nat} {a : Option Addr} {t : List Ent} {c g : Nat} {L : Int} {n : Nat} {T : Int → Bool} (h : Rv w0 W X a t c g L n T) (hT : ∀ q, T q = true → 0 ≤ q ∧ q < (t.length : Int)) : Rv w0 W X a t c g L t.length T := by
  obtain ⟨s, hs⟩ := h.ms
  exact ⟨h.rz0, h.eX, h.bel, h.box, h.lvb, ⟨s, hs.fit hT⟩, h.stb, h.lf⟩
/-- how resolved begins -/
theorem Rv.start {w : World} {a : Option Addr} {t : List Ent} {c g : Nat} (L : Int) (h : Rz w a t c g t) :
    ∃ w1, (((((w.alloc (.cells #[.slice a t.length c, .map (some g)] 47)).alloc (.cells #[.int .i64 L] 3)).alloc (.map #[] 0)).alloc (.cells #[.map (some (w.heap.size + 2))] 54)).alloc (.cells #[.int .i64 0] 3)) = w1 ∧ Rv w w1 w.heap.size a t c g L 0 (fun _ => false) := by
  refine ⟨_, rfl, ?_⟩
  have s1 : (w.alloc (.cells #[.slice a t.length c, .map (some g)] 47)).heap.size = w.heap.size + 1 := by simp
  generalize hw1 : w.alloc (.cells #[.slice a t.length c, .map (some g)] 47) = w1 at *
  have s2 : (w1.alloc (.cells #[.int .i64 L] 3)).heap.size = w.heap.size + 2 := by simp [s1]
  have o1 : Bx2 w1 w.heap.size 47 (.slice a t.length c) (.map (some g)) := by rw [← hw1]; exact Bx2.new _ _ _ _
  have o2 := Bo1.new w1 3 (.int .i64 L)
  rw [s1] at o2
  have k1 : Below w.heap.size w w1 := by rw [← hw1]; exact below_box _ _
  have k2 := below_box w1 (.cells #[.int .i64 L] 3)
  generalize hw2 : w1.alloc (.cells #[.int .i64 L] 3) = w2 at *
  have s3 : (w2.alloc (.map #[] 0)).heap.size = w.heap.size + 3 := by simp [s2]
  have o3 := Ms.made w2
  rw [s2] at o3
  have k3 := below_box w2 (.map #[] 0)
  generalize hw3 : w2.alloc (.map #[] 0) = w3 at *
  have s4 : (w3.alloc (.cells #[.map (some (w.heap.size + 2))] 54)).heap.size = w.heap.size + 4 := by simp [s3]
  have o4 := Bo1.new w3 54 (.map (some (w.heap.size + 2)))
  rw [s3] at o4
  have k4 := below_box w3 (.cells #[.map (some (w.heap.size + 2))] 54)
  generalize hw4 : w3.alloc (.cells #[.map (some (w.heap.size + 2))] 54) = w4 at *
  have o5 := Bo1.new w4 3 (.int .i64 0)
  rw [s4] at o5
  have k5 := below_box w4 (.cells #[.int .i64 0] 3)
  have c0 : cn t L (fun _ => false) t.length = 0 := by
    have := cn_none t L (fun _ => false) t.length 0 (by omega) (fun _ _ => rfl)
    rw [this]; rfl
  refine ⟨h, rfl, Below.step k1 (Below.step k2 (Below.step k3 (Below.step k4 k5))), o1.below (Below.step k2 (Below.step k3 (Below.step k4 k5))), o2.below (Below.step k3 (Below.step k4 k5)), ⟨0, o3.below (Below.step k4 k5)⟩, o4.below k5, ?_⟩
  rw [c0]; exact o5
set_option maxRecDepth 100000 in
set_option maxHeartbeats 3200000 in
theorem resolved_any (w : World) (a : Option Addr) (t : List Ent) (c g : Nat) (L : Int) (vc : Value) (zs : List Int) (h : Rz w a t c g t) (hz : Rd w vc zs) (hf : falB t zs = true) (hL : L = topI t zs) :
    Calls Tryd.prog 20 #[rV a t.length c g, vc, .int .i64 L] w fun e w' => e = .returned (.map (some (w.heap.size + 2))) ∧ Rv w w' w.heap.size a t c g L t.length (RS t zs) := by
  have hl := hz.len
  obtain ⟨w1, hw1, hS⟩ := Rv.start L h
  obtain ⟨X, hX⟩ : ∃ X, w.heap.size = X := ⟨_, rfl⟩
  rw [hX] at hw1 hS ⊢
  have HS : Hid (Rv w w1 X a t c g L 0 (fun _ => false)) := hS
  have HZ : Hid (Rd w vc zs) := hz
  obtain ⟨ua, uc, rfl, huc, hum, _⟩ := hz.form
  have hmake : ∀ W : World, (Instr.makeMap 54 none).run Tryd.prog W = .ok (.map (some W.heap.size)) (W.alloc (.map #[] 0)) := fun W => rfl
  go_enter Tryd.func20, Tryd.ntmps20
  have HL : Hid (L = topI t zs) := hL
  have HWs : Hid (Ws t) := h.ws
  have HIv0 : Hid (Iv t L t.length (T0 t zs)) := by rw [hL]; exact T0_iv h.ws hf
  have HFl : Hid (∀ x ∈ zs, isF t x = true) := by unfold falB at hf; exact List.all_eq_true.1 hf
  have hbn := h.bnd
  have htl := h.ws.len
  have HCl : Hid (∀ x ∈ zs, plN t x < t.length) := fun x hx => (h.ws.isF_at (HFl.out x hx)).2.1
  have HW1 : Hid (((((w.alloc (.cells #[.slice a t.length c, .map (some g)] 47)).alloc (.cells #[.int .i64 L] 3)).alloc (.map #[] 0)).alloc (.cells #[.map (some (X + 2))] 54)).alloc (.cells #[.int .i64 0] 3) = w1) := hw1
  clear hL hf h hz hS hw1
  go_upto_region 3 with fail
  simp only [Nat.add_assoc, Nat.reduceAdd]
  rw [HW1.out]
  clear HW1 hmake
  have HBd : Hid (∀ k, k ≤ zs.length → ∀ q, adS t (fun _ => false) (zs.take k) q = true → 0 ≤ q ∧ q < (t.length : Int)) := fun k hk q hq => by
    rcases (adS_mem t _ _ q).1 hq with h1 | ⟨x, hx, rfl⟩
    · cases h1
    · have := HCl.out x (List.mem_of_mem_take hx); omega
  go_wp2_with fail
  go_loopg [21] zs.length (fun g' j wr => ∃ k : Nat, k + g' = zs.length ∧ j = .int .i64 k ∧ Hid (Rv w wr X a t c g L t.length (adS t (fun _ => false) (zs.take k))))
  case atStart => exact ⟨0, by omega, rfl, HS.out.wide (by omega)⟩
  case round =>
    obtain ⟨k, hk, rfl, HR⟩ := hrel
    have HK : Hid (k + gk = zs.length) := hk
    by_cases hlt : k < zs.length
    · obtain ⟨ua', uc', e', _, _, hcell⟩ := (HZ.out.below (by rw [hX]; exact HR.out.bel)).form
      injection e' with q1 q2 q3
      subst q1 q3
      obtain ⟨b2, off2, rfl, hck⟩ := hcell k hlt
      have HP : Hid (Calls Tryd.prog 37 #[.int .i64 (zs.getD k 0), .pointer (some ⟨X, 0, none⟩), .pointer (some ⟨X + 3, 0, none⟩), .pointer (some ⟨X + 1, 0, none⟩), .pointer (some ⟨X + 4, 0, none⟩)] wr fun e w' => e = .returned (.tuple #[]) ∧ Rv w w' X a t c g L t.length (adS t (fun _ => false) (zs.take (k + 1)))) := (put_any w wr X a t c g L t.length _ (zs.getD k 0) HR.out (HFl.out _ (getD_mem' hlt)) (by omega)).mono fun e w' ⟨h1, h2⟩ => ⟨h1, by
          have e1 : adS t (fun _ => false) (zs.take (k + 1)) = inS (adS t (fun _ => false) (zs.take k)) (plN t (zs.getD k 0) : Int) := by rw [take_succ_getD zs 0 k hlt, adS_snoc]
          rw [← e1] at h2
          exact h2.fit (HBd.out (k + 1) (by omega))⟩
      clear hk hcell
      generalize zs.getD k 0 = y at *
      go_wp2_with (go_at_call 37; refine HP.out.mono ?_; rintro e w2 ⟨rfl, h2⟩; have H2 : Hid (Rv w w2 X a t c g L t.length (adS t (fun _ => false) (zs.take (k + 1)))) := h2; clear h2)
      go_roundg (gk - 1)
      case measure => have := HK.out; omega
      case rel => exact ⟨k + 1, by have := HK.out; omega, by go_num, H2.out⟩
    · obtain rfl : k = zs.length := by omega
      have HR2 : Hid (Rv w wr X a t c g L t.length (T0 t zs)) := by have := HR.out; rw [List.take_length] at this; exact this
      have b0 := HR2.out.box.c0
      have hwr : IntKind.i64.wrap ((t.length : Int) - 1) = (t.length : Int) - 1 := by rw [IntKind.wrap_i64]; omega
      clear hk HR HS
      go_wp2_with fail
      clear hlt huc hum hl b0 hwr
      go_loopg [12] t.length (fun g' j wr => ∃ T : Int → Bool, j = .int .i64 ((g' : Int) - 1) ∧ Hid (Iv t L g' T) ∧ Hid (rsv t L g' T = RS t zs) ∧ Hid (Rv w wr X a t c g L t.length T))
      case atStart => exact ⟨T0 t zs, rfl, HIv0.out, by show _ = _; rw [HL.out]; rfl, HR2.out⟩
      case round =>
        obtain ⟨T, rfl, HI, HRs, HR⟩ := hrel
        obtain ⟨m, hm⟩ : ∃ m, cn t L T t.length = m := ⟨_, rfl⟩
        have HM : Hid (cn t L T t.length = m) := hm
        have f4 := HR.out.lf.c
        rw [hm] at f4
        have f3 := HR.out.stb.c
        have hml : m ≤ t.length := by rw [← hm]; exact cn_le t L T t.length
        clear hm
        by_cases hc : m ≤ 1
        · have HE : Hid (RS t zs = T) := by show _ = _; rw [← HRs.out]; exact rsv_stop (by rw [HM.out]; exact hc) gk
          have hcb : ¬ (1 : Int) < (m : Int) := by omega
          go_wp2_with fail
          go_ret
          exact ⟨rfl, by rw [HE.out]; exact HR.out⟩
        · have hcb : (1 : Int) < (m : Int) := by omega
          obtain ⟨k, rfl⟩ : ∃ k, gk = k + 1 := by
            cases gk with
            | zero =>
              exfalso
              have := cn_none t L T t.length 0 (by omega) (fun p _ => by
                cases e : T (p : Int) with
                | false => rfl
                | true => have := HI.out.bnd _ e; omega)
              rw [HM.out] at this
              simp [cn] at this
              omega
            | succ k => exact ⟨k, rfl⟩
          have hkl : k < t.length := by have := HI.out.le; omega
          have hkj : ((k + 1 : Nat) : Int) - 1 = (k : Int) := by omega
          rw [hkj]
          clear hkj
          obtain ⟨s, hms⟩ := HR.out.ms
          have hlk := hms.look Tryd.underlying54 (x := (k : Int)) (by omega) (by omega)
          have H2 : Hid (Rv w (wr.alloc (.cells #[] 68)) X a t c g L t.length T) := HR.out.below (below_box _ _)
          have hwk : IntKind.i64.wrap ((k : Int) - 1) = (k : Int) - 1 := by rw [IntKind.wrap_i64]; omega
          clear hms
          cases hT : T (k : Int)
          · rw [hT] at hlk
            have HI2 : Hid (Iv t L k T) := HI.out.skip hT
            have HR3 : Hid (rsv t L k T = RS t zs) := by
              show _ = _
              rw [← HRs.out, rsv_succ, if_neg (by rw [HM.out]; exact hc), if_neg (by rw [hT]; simp)]
            clear hT HI HRs HR
            go_wp2_with fail
            go_roundg k
            case measure => omega
            case rel => exact ⟨T, rfl, HI2.out, HR3.out, H2.out⟩
          · rw [hT] at hlk
            have HLk : Hid (lvP t k = L) := HI.out.at HWs.out (by rw [HM.out]; omega) hT
            have HI2 : Hid (Iv t L k (adS t (outS T (k : Int)) (rOth t k))) := HI.out.step HWs.out (by rw [HM.out]; omega) hT
            have HR3 : Hid (rsv t L k (adS t (outS T (k : Int)) (rOth t k)) = RS t zs) := by
              show _ = _
              rw [← HRs.out, rsv_succ, if_neg (by rw [HM.out]; exact hc), if_pos hT]
            have HTb : Hid (∀ q, outS T (k : Int) q = true → 0 ≤ q ∧ q < (t.length : Int)) := fun q hq => by
              unfold outS at hq
              rw [Bool.and_eq_true] at hq
              have := HI.out.bnd q hq.2
              omega
            have hcn : cn t L (outS T (k : Int)) t.length + 1 = m := by rw [← HM.out]; exact cn_out t L T k hT HLk.out t.length hkl
            obtain ⟨s2, hms2⟩ := H2.out.ms
            obtain ⟨w3, hrun3, hms3, hg3⟩ := hms2.del Tryd.underlying54 (x := (k : Int)) (by omega) (by omega) 0
            have e3 := H2.out.stb.c
            have d4 := (H2.out.lf.kept hg3 (by simp)).c
            have d5 := (H2.out.lf.kept hg3 (by simp)).f
            have d6 := (H2.out.lf.kept hg3 (by simp)).lt
            rw [HM.out] at d4
            have H4 := H2.out.count hg3 (n' := t.length) (T' := outS T (k : Int)) ⟨_, hms3⟩
            have hwm : IntKind.i64.wrap ((m : Int) - 1) = (cn t L (outS T (k : Int)) t.length : Int) := by rw [IntKind.wrap_i64]; omega
            obtain ⟨mc, hmc⟩ : ∃ mc, (cn t L (outS T (k : Int)) t.length : Int) = mc := ⟨_, rfl⟩
            rw [hmc] at H4 hwm
            have hmm : (m : Int) - 1 = mc := by rw [← hmc]; omega
            obtain ⟨w4, hw4⟩ : ∃ w4, w3.setCell ⟨X + 4, 0, none⟩ (.int .i64 mc) = w4 := ⟨_, rfl⟩
            rw [hw4] at H4
            have H5 : Hid (Rv w w4 X a t c g L t.length (outS T (k : Int))) := H4
            obtain ⟨b, off, u, rfl, hbl, c0, c1, c2, hru⟩ := H4.rz0.cells hkl
            have hlu := hru.len
            have HRu : Hid (Rd w u (t.getD k e0).2.2) := hru
            obtain ⟨ra, rc, rfl, hrc, hrm, _⟩ := hru.form
            have HC : Hid (∀ W, Below X w W → W.cell? ⟨b, off + k * 3, none⟩ = some (.int .i64 (t.getD k e0).1) ∧ W.cell? ⟨b, off + k * 3 + 2, none⟩ = some (.slice ra (t.getD k e0).2.2.length rc) ∧ Rd W (.slice ra (t.getD k e0).2.2.length rc) (t.getD k e0).2.2) := fun W hW => by
              have hW' : Below w.heap.size w W := by rw [hX]; exact hW
              exact ⟨(hW'.cell (p := ⟨b, off + k * 3, none⟩) hbl).trans c0, (hW'.cell (p := ⟨b, off + k * 3 + 2, none⟩) hbl).trans c2, HRu.out.below hW'⟩
            have g0 := H5.out.box.c0
            have g1 := (HC.out w4 H5.out.bel).2.1
            clear hT HI HRs HR hms2 hms3 hg3 H4 hru c0 c1 c2 hcn hmc H2
            go_upto_region 15 with fail
            have HBo : Hid (∀ j, ∀ q, adS t (outS T (k : Int)) (((t.getD k e0).2.2.take j).filter fun x => x != (t.getD k e0).1) q = true → 0 ≤ q ∧ q < (t.length : Int)) := fun j q hq => by
              rcases (adS_mem t _ _ q).1 hq with h1 | ⟨x, hx, rfl⟩
              · exact HTb.out q h1
              · have h2 : x ∈ rOth t k := by
                  obtain ⟨h3, h4⟩ := List.mem_filter.1 hx
                  exact List.mem_filter.2 ⟨List.mem_of_mem_take h3, h4⟩
                have := (HWs.out.rOth_at hkl h2).2
                omega
            have HPt : Hid (∀ x ∈ (t.getD k e0).2.2, x ≠ (t.getD k e0).1 → isF t x = true) := fun x hx hne => (HWs.out.rOth_at hkl (List.mem_filter.2 ⟨hx, by simpa using hne⟩)).1
            have HRo : Hid (rOth t k = (t.getD k e0).2.2.filter fun x => x != (t.getD k e0).1) := rfl
            clear hrun3 hw4 f3 f4 e3 d4 d5 d6 hwm hmm hcb hc HM HTb hlk
            generalize (t.getD k e0).2.2 = rs at *
            generalize (t.getD k e0).1 = lt at *
            go_wp2_with fail
            go_loopg [56] rs.length (fun g' j wr => ∃ q : Nat, q + g' = rs.length ∧ j = .int .i64 q ∧ Hid (Rv w wr X (some ⟨b, off, none⟩) t c g L t.length (adS t (outS T (k : Int)) ((rs.take q).filter fun x => x != lt))))
            case atStart => exact ⟨0, by omega, rfl, H5.out⟩
            case round =>
              obtain ⟨q, hq, rfl, HQ⟩ := hrel
              have HK2 : Hid (q + gk = rs.length) := hq
              have g2 := HQ.out.box.c0
              obtain ⟨g3, _, hrr⟩ := HC.out wr HQ.out.bel
              by_cases hlq : q < rs.length
              · obtain ⟨ra', rc', e', _, _, hcell⟩ := hrr.form
                injection e' with q1 q2 q3
                subst q1 q3
                obtain ⟨b3, off3, rfl, hck⟩ := hcell q hlq
                have HTk := take_succ_getD rs 0 q hlq
                have hmem := getD_mem' (l := rs) (k := q) (d := 0) hlq
                by_cases he : rs.getD q 0 = lt
                · have HE : Hid ((rs.take (q + 1)).filter (fun x => x != lt) = (rs.take q).filter fun x => x != lt) := by
                    show _ = _
                    rw [HTk, List.filter_append, he]; simp
                  rw [he] at hck
                  clear hq hcell HTk hmem he
                  go_wp2_with fail
                  go_roundg (gk - 1)
                  case measure => have := HK2.out; omega
                  case rel => exact ⟨q + 1, by have := HK2.out; omega, by go_num, by rw [HE.out]; exact HQ.out⟩
                · have HE : (rs.take (q + 1)).filter (fun x => x != lt) = (rs.take q).filter (fun x => x != lt) ++ [rs.getD q 0] := by
                    rw [HTk, List.filter_append, List.filter_cons_of_pos (by simpa using he), List.filter_nil]
                  have HP : Hid (Calls Tryd.prog 37 #[.int .i64 (rs.getD q 0), .pointer (some ⟨X, 0, none⟩), .pointer (some ⟨X + 3, 0, none⟩), .pointer (some ⟨X + 1, 0, none⟩), .pointer (some ⟨X + 4, 0, none⟩)] wr fun e w' => e = .returned (.tuple #[]) ∧ Rv w w' X (some ⟨b, off, none⟩) t c g L t.length (adS t (outS T (k : Int)) ((rs.take (q + 1)).filter fun x => x != lt))) := (put_any w wr X _ t c g L t.length _ (rs.getD q 0) HQ.out (HPt.out _ hmem he) (by omega)).mono fun e w' ⟨h1, h2⟩ => ⟨h1, by
                    rw [← adS_snoc, ← HE] at h2
                    exact h2.fit (HBo.out (q + 1))⟩
                  have hne : (rs.getD q 0 != lt) = true := by simpa using he
                  clear hq hcell HTk hmem HE
                  generalize rs.getD q 0 = y at *
                  go_wp2_with (go_at_call 37; refine HP.out.mono ?_; rintro e w2 ⟨rfl, h2⟩; have H7 : Hid (Rv w w2 X (some ⟨b, off, none⟩) t c g L t.length (adS t (outS T (k : Int)) ((rs.take (q + 1)).filter fun x => x != lt))) := h2; clear h2)
                  go_roundg (gk - 1)
                  case measure => have := HK2.out; omega
                  case rel => exact ⟨q + 1, by have := HK2.out; omega, by go_num, H7.out⟩
              · obtain rfl : q = rs.length := by omega
                have HF : Hid (Rv w wr X (some ⟨b, off, none⟩) t c g L t.length (adS t (outS T (k : Int)) (rOth t k))) := by
                  have := HQ.out
                  rw [List.take_length] at this
                  show Rv _ _ _ _ _ _ _ _ _ _
                  rw [HRo.out]; exact this
                clear hq
                go_wp2_with fail
                go_roundg k
                case measure => omega
                case rel => exact ⟨_, rfl, HI2.out, HR3.out, HF.out⟩
end Go.Proofs.YtofojjdegobekaaDoor
set_option linter.unusedSimpArgs false
set_option linter.unusedVariables false
namespace Go.Proofs.YtofojjdegobekaaDoor
open Go Go.RowKit
set_option maxHeartbeats 3200000 in
theorem top_any (w : World) (a : Option Addr) (t : List Ent) (c g : Nat) (vc : Value) (zs : List Int) (h : Rz w a t c g t) (hz : Rd w vc zs) (hf : ∀ x ∈ zs, isF t x = true) :
    Calls Tryd.prog 18 #[rV a t.length c g, vc] w fun e w' => e = .returned (.int .i64 (topI t zs)) ∧ Below w.heap.size w w' := by
  have hl := hz.len
  obtain ⟨ua, uc, rfl, huc, hum, _⟩ := hz.form
  have hb1 := below_box w (.cells #[.slice a t.length c, .map (some g)] 47)
  obtain ⟨X, hX⟩ : ∃ X, w.heap.size = X := ⟨_, rfl⟩
  obtain ⟨w1, hw1⟩ : ∃ w1, w.alloc (.cells #[.slice a t.length c, .map (some g)] 47) = w1 := ⟨_, rfl⟩
  have HF : Hid (∀ W, Below w1.heap.size w1 W → Below X w W ∧ W.cell? ⟨X, 0, none⟩ = some (.slice a t.length c) ∧ W.cell? ⟨X, 1, none⟩ = some (.map (some g)) ∧ Rz W a t c g t ∧ Rd W (.slice ua zs.length uc) zs) := fun W hW => by
    rw [← hw1] at hW
    have hW0 : Below w.heap.size w W := Below.step hb1 hW
    exact ⟨by rw [← hX]; exact hW0, by rw [← hX]; exact box_at hW rfl, by rw [← hX]; exact box_at hW rfl, h.below hW0, hz.below hW0⟩
  have HFl : Hid (∀ x ∈ zs, isF t x = true) := hf
  have HWs : Hid (Ws t) := h.ws
  rw [hX]
  clear hb1 h hz hf
  go_enter Tryd.func18, Tryd.ntmps18
  go_wp2_with fail
  go_loopg [5, 10] zs.length (fun g' m j wr => ∃ k : Nat, k + g' = zs.length ∧ m = .int .i64 (topI t (zs.take k)) ∧ j = .int .i64 k ∧ Below w1.heap.size w1 wr)
  case atStart => exact ⟨0, by omega, rfl, rfl, Below.refl _ _⟩
  case round =>
    obtain ⟨k, hk, rfl, rfl, bel⟩ := hrel
    have HK : Hid (k + gk = zs.length) := hk
    have HB : Hid (Below w1.heap.size w1 wr) := bel
    obtain ⟨hX3, f0, f1, hrz, hrd⟩ := HF.out wr bel
    have HX3 : Hid (Below X w wr) := hX3
    by_cases hlt : k < zs.length
    · obtain ⟨ua', uc', e', _, _, hcell⟩ := hrd.form
      injection e' with q1 q2 q3
      subst q1 q3
      obtain ⟨b2, off2, rfl, hck⟩ := hcell k hlt
      have HT : Hid (topI t (zs.take (k + 1)) = max (topI t (zs.take k)) (lvl t (zs.getD k 0))) := by show _ = _; rw [take_succ_getD zs 0 k hlt, topI_snoc]
      have hv : (vpl t (varOf (zs.getD k 0))).isSome = true := by
        have h1 := HWs.out.isF_at (HFl.out _ (getD_mem' (l := zs) (k := k) (d := 0) hlt))
        rw [HWs.out.plc_vpl h1.1 h1.2.2.2.2]; rfl
      have HLv : Hid (Calls Tryd.prog 35 #[rV a t.length c g, .int .i64 (zs.getD k 0)] wr fun e w' => e = .returned (.int .i64 (lvl t (zs.getD k 0))) ∧ Below wr.heap.size wr w') := level_any a t t c g _ wr hrz hv
      have hmax : ∀ (x y : Int) (W : World), (Builtin.max_ #[3, 3] 3 #[.int .i64 x, .int .i64 y]).run Tryd.prog W = .ok (.int .i64 (max x y)) W := fun x y W => by
        have e : (if x < y then y else x) = max x y := by omega
        rw [← e]; simp [Builtin.max_, Builtin.max2]
      clear hk hcell hrd hrz hv bel hX3
      generalize zs.getD k 0 = y at *
      generalize lvl t y = ly at *
      generalize hm : topI t (zs.take k) = m at *
      obtain ⟨mm, hmm⟩ : ∃ mm, max m ly = mm := ⟨_, rfl⟩
      have HMM : Hid (topI t (zs.take (k + 1)) = mm) := by show _ = _; rw [HT.out, hmm]
      have hmax2 : ∀ (W : World), (Builtin.max_ #[3, 3] 3 #[.int .i64 m, .int .i64 ly]).run Tryd.prog W = .ok (.int .i64 mm) W := fun W => by rw [hmax, hmm]
      clear hmax hmm hm HT
      go_wp2_with (go_at_call 35; refine HLv.out.mono ?_; rintro e w' ⟨rfl, bE⟩)
      go_roundg (gk - 1)
      case measure => have := HK.out; omega
      case rel => exact ⟨k + 1, by have := HK.out; omega, by rw [HMM.out], by go_num, Below.step HB.out bE⟩
    · obtain rfl : k = zs.length := by omega
      rw [List.take_length]
      clear hk
      go_wp2
      go_ret
      exact ⟨rfl, HX3.out⟩
end Go.Proofs.YtofojjdegobekaaDoor
set_option linter.unusedSimpArgs false
set_option linter.unusedVariables false
namespace Go.Proofs.YtofojjdegobekaaDoor
open Go
theorem Ws.lvl_opP {t : List Ent} (h : Ws t) {p : Nat} (hp : p < t.length) : lvl t (opP t p) = lvP t p := by
  obtain ⟨h1, h2, h3⟩ := h.opP_at hp
  have := (h.isF_at h2).2.2.2.1
  rw [h3] at this
  exact this
theorem Ws.opP_inj {t : List Ent} (h : Ws t) {p q : Nat} (hp : p < t.length) (hq : q < t.length) (e : opP t p = opP t q) : p = q := by
  have h1 := (h.opP_at hp).2.2
  have h2 := (h.opP_at hq).2.2
  rw [e] at h1
  omega
/-- what has been put aside so far: O the others, C the one of level L -/
structure Pr (t : List Ent) (L : Int) (T left : Int → Bool) (O C : List Int) : Prop where
  sub : ∀ q, left q = true → T q = true
  inO : ∀ x, x ∈ O ↔ ∃ p : Nat, p < t.length ∧ T (p : Int) = true ∧ left (p : Int) = false ∧ lvP t p ≠ 0 ∧ lvP t p ≠ L ∧ opP t p = x
  inC : ∀ x, x ∈ C ↔ ∃ p : Nat, p < t.length ∧ T (p : Int) = true ∧ left (p : Int) = false ∧ lvP t p = L ∧ opP t p = x
  few : C.length ≤ 1
theorem Pr.start (t : List Ent) (L : Int) (T : Int → Bool) : Pr t L T T [] [] := by
  refine ⟨fun q h => h, fun x => ⟨fun h => (by cases h), ?_⟩, fun x => ⟨fun h => (by cases h), ?_⟩, by simp⟩
  · rintro ⟨p, _, h1, h2, _⟩; rw [h1] at h2; cases h2
  · rintro ⟨p, _, h1, h2, _⟩; rw [h1] at h2; cases h2
section
variable {t : List Ent} {L : Int} {T left left' : Int → Bool} {O C : List Int} {p : Nat}
theorem lf_iff (hl : ∀ q, left' q = (left q && q != (p : Int))) (hp : left (p : Int) = true) (q : Nat) : left' (q : Int) = false ↔ left (q : Int) = false ∨ q = p := by
  rw [hl]
  by_cases e : q = p
  · subst e; simp
  · rw [show ((q : Int) != (p : Int)) = true by simp; omega]; simp [e]
theorem Pr.sub' (h : Pr t L T left O C) (hl : ∀ q, left' q = (left q && q != (p : Int))) : ∀ q, left' q = true → T q = true := fun q hq => by
  rw [hl, Bool.and_eq_true] at hq; exact h.sub q hq.1
theorem Pr.zero (h : Pr t L T left O C) (hl : ∀ q, left' q = (left q && q != (p : Int))) (hp : left (p : Int) = true) (h0 : lvP t p = 0) (hL : L ≠ 0) : Pr t L T left' O C := by
  refine ⟨h.sub' hl, fun x => ?_, fun x => ?_, h.few⟩
  · rw [h.inO]
    constructor
    · rintro ⟨q, a1, a2, a3, a4⟩; exact ⟨q, a1, a2, (lf_iff hl hp q).2 (.inl a3), a4⟩
    · rintro ⟨q, a1, a2, a3, a4, a5⟩
      rcases (lf_iff hl hp q).1 a3 with e | e
      · exact ⟨q, a1, a2, e, a4, a5⟩
      · subst e; exact absurd h0 a4
  · rw [h.inC]
    constructor
    · rintro ⟨q, a1, a2, a3, a4⟩; exact ⟨q, a1, a2, (lf_iff hl hp q).2 (.inl a3), a4⟩
    · rintro ⟨q, a1, a2, a3, a4, a5⟩
      rcases (lf_iff hl hp q).1 a3 with e | e
      · exact ⟨q, a1, a2, e, a4, a5⟩
      · subst e; omega
theorem Pr.other (h : Pr t L T left O C) (hl : ∀ q, left' q = (left q && q != (p : Int))) (hp : left (p : Int) = true) (hpl : p < t.length) (h0 : lvP t p ≠ 0) (h1 : lvP t p ≠ L) : Pr t L T left' (O ++ [opP t p]) C := by
  refine ⟨h.sub' hl, fun x => ?_, fun x => ?_, h.few⟩
  · rw [List.mem_append, h.inO]
    constructor
    · rintro (⟨q, a1, a2, a3, a4⟩ | e)
      · exact ⟨q, a1, a2, (lf_iff hl hp q).2 (.inl a3), a4⟩
      · exact ⟨p, hpl, h.sub _ hp, (lf_iff hl hp p).2 (.inr rfl), h0, h1, (List.mem_singleton.1 e).symm⟩
    · rintro ⟨q, a1, a2, a3, a4, a5, a6⟩
      rcases (lf_iff hl hp q).1 a3 with e | e
      · exact .inl ⟨q, a1, a2, e, a4, a5, a6⟩
      · subst e; right; simpa using a6.symm
  · rw [h.inC]
    constructor
    · rintro ⟨q, a1, a2, a3, a4⟩; exact ⟨q, a1, a2, (lf_iff hl hp q).2 (.inl a3), a4⟩
    · rintro ⟨q, a1, a2, a3, a4, a5⟩
      rcases (lf_iff hl hp q).1 a3 with e | e
      · exact ⟨q, a1, a2, e, a4, a5⟩
      · subst e; exact absurd a4 h1
theorem Pr.one (h : Pr t L T left O C) (hl : ∀ q, left' q = (left q && q != (p : Int))) (hp : left (p : Int) = true) (hpl : p < t.length) (h1 : lvP t p = L) (hc : cn t L T t.length = 1) : Pr t L T left' O [opP t p] := by
  refine ⟨h.sub' hl, fun x => ?_, fun x => ?_, by simp⟩
  · rw [h.inO]
    constructor
    · rintro ⟨q, a1, a2, a3, a4⟩; exact ⟨q, a1, a2, (lf_iff hl hp q).2 (.inl a3), a4⟩
    · rintro ⟨q, a1, a2, a3, a4, a5, a6⟩
      rcases (lf_iff hl hp q).1 a3 with e | e
      · exact ⟨q, a1, a2, e, a4, a5, a6⟩
      · subst e; exact absurd h1 a5
  · constructor
    · intro hx
      exact ⟨p, hpl, h.sub _ hp, (lf_iff hl hp p).2 (.inr rfl), h1, (List.mem_singleton.1 hx).symm⟩
    · rintro ⟨q, a1, a2, a3, a4, a5⟩
      have : q = p := cn_one t L T t.length hc a1 hpl a2 (h.sub _ hp) a4 h1
      subst this
      simp [a5]
/-- in the end -/
theorem Pr.fin (h : Pr t L T left O C) (hw : Ws t) (hn : ∀ q, left q = false) (hc : cn t L T t.length = 1) : C = [oneL t L T] ∧ (∀ x, x ∈ O ↔ x ∈ othL t L T) := by
  obtain ⟨p, h1, h2, h3⟩ := cn_pos t L T t.length (by omega)
  have hmem : opP t p ∈ C := (h.inC _).2 ⟨p, h1, h2, hn _, h3, rfl⟩
  have hC : C = [opP t p] := by
    match C, hmem, h.few with
    | [y], hm, _ => rw [List.mem_singleton.1 hm]
  have hone : oneL t L T = opP t p := by
    have hl : opP t p ∈ (ltS t T).filter fun x => lvl t x == L := List.mem_filter.2 ⟨ltS_mem.2 ⟨p, h1, h2, rfl⟩, by rw [hw.lvl_opP h1, h3]; simp⟩
    have hall : ∀ x ∈ (ltS t T).filter (fun x => lvl t x == L), x = opP t p := fun x hx => by
      obtain ⟨k1, k2⟩ := List.mem_filter.1 hx
      obtain ⟨q, q1, q2, rfl⟩ := ltS_mem.1 k1
      rw [hw.lvl_opP q1] at k2
      rw [cn_one t L T t.length hc q1 h1 q2 h2 (by simpa using k2) h3]
    unfold oneL
    generalize (ltS t T).filter (fun x => lvl t x == L) = l at hl hall
    match l, hl with
    | y :: r, _ => exact hall y (by simp)
  refine ⟨by rw [hC, hone], fun x => ?_⟩
  rw [h.inO]
  unfold othL
  rw [List.mem_filter, ltS_mem]
  constructor
  · rintro ⟨q, a1, a2, _, a4, a5, rfl⟩
    refine ⟨⟨q, a1, a2, rfl⟩, ?_⟩
    rw [hw.lvl_opP a1]
    simp [a4, a5]
  · rintro ⟨⟨q, a1, a2, rfl⟩, a3⟩
    rw [hw.lvl_opP a1] at a3
    simp at a3
    exact ⟨q, a1, a2, hn _, a3.1, a3.2, rfl⟩
end
end Go.Proofs.YtofojjdegobekaaDoor
set_option linter.unusedSimpArgs false
set_option linter.unusedVariables false
namespace Go.Proofs.YtofojjdegobekaaDoor
open Go Go.RowKit
/-- the step of a range over a set of ints -/
theorem wpList_next_iu {w : World} {ops : Array Oper} {rest : List Oper} {o : Oper} {a : Act} {Q : Exit → Act → World → Prop} (hg : o.guard = none) (it : Operand) (hop : o.op = Op.next it false) (b r n : Nat) (D : DataW Unit) (left : Lit → Bool) (cnt : Nat)
    (hit : a.eval it = .pointer (some ⟨r, 0, none⟩)) (h : w.ranges Tryd.prog 3 unitElem b r n D left cnt)
    (hDone : cnt = 0 → (∀ kl, left kl = false) → wpList Tryd.prog ops Q rest (a.put o.dst (.tuple #[.bool false])) w)
    (hMore : ∀ (x : Int) (w' : World) (cnt' : Nat), left (.int .i64 x) = true → w'.ranges Tryd.prog 3 unitElem b r n D (fun z => left z && !z.sameKey (.int .i64 x)) cnt' → cnt' < cnt →
      w.grownBy w' (some r) → w'.heap.size = w.heap.size → (Instr.entry (.pointer (some ⟨r, 0, none⟩))).run Tryd.prog w' = .ok (.tuple #[.int .i64 x, .agg #[]]) w' → wpList Tryd.prog ops Q rest (a.put o.dst (.tuple #[.bool true, .int .i64 x, .agg #[]])) w') :
    wpList Tryd.prog ops Q (o :: rest) a w :=
  wpList_next_ranges w hg it hop 3 lawI unitElem (Value.int .i64) (fun _ : Unit => Value.agg #[]) (fun key kl hkey => by obtain ⟨x, rfl, _⟩ := Maps.keyOf_int_inv Tryd.underlying3 hkey; exact ⟨x, rfl⟩) (fun v y hv => ⟨(), (unitElem_inv hv).1⟩)
    b r n D left cnt hit h hDone (fun x c kl y w' cnt' hkey hlk hv hat hrg hlt hgr hsz hen => by
      obtain ⟨x', ex, rfl, hwx⟩ := Maps.keyOf_int_inv Tryd.underlying3 hkey
      cases ex
      exact hMore x w' cnt' hlk hrg hlt hgr hsz hen)
/-- the state of parted's loop: X the reading's box, X + 1 the range -/
structure PtL (w wr : World) (X : Nat) (a : Option Addr) (t : List Ent) (c g G n s : Nat) (L : Int) (T : Int → Bool) (D : DataW Unit) (left : Lit → Bool) (cnt : Nat) (u6 u8 : Value) (O C : List Int) : Prop where
  rg : wr.ranges Tryd.prog 3 unitElem G (X + 1) n D left cnt
  o6 : Own X wr u6 C
  o8 : Own X wr u8 O
  ap : u6.ownBlock = none ∨ u6.ownBlock ≠ u8.ownBlock
  off : u6.ownBlock ≠ some (X + 1) ∧ u8.ownBlock ≠ some (X + 1) ∧ u6.ownBlock ≠ some X ∧ u8.ownBlock ≠ some X
  box : Bx2 wr X 47 (.slice a t.length c) (.map (some g))
  bel : Below X w wr
  pr : Pr t L T (fun q => left (.int .i64 q)) O C
  len : O.length + cnt ≤ s
theorem own_one15 (w : World) (x : Int) : Own w.heap.size (w.alloc (.cells #[.int .i64 x] 3)) (.slice (some ⟨w.heap.size, 0, none⟩) 1 1) [x] :=
  ⟨by simp, .inr ⟨w.heap.size, 1, #[.int .i64 x], rfl, Nat.le_refl _, World.alloc_heap_new w _, Nat.le_refl _, by unfold maxLen; omega, by simp, by simp⟩⟩
section
variable {w wr w2 w3 : World} {X : Nat} {a : Option Addr} {t : List Ent} {c g G n s : Nat} {L : Int} {T : Int → Bool} {D : DataW Unit} {left left2 : Lit → Bool} {cnt cnt2 : Nat} {u6 u8 : Value} {O C : List Int}
/-- the range has gone on -/
theorem PtL.turn (h : PtL w wr X a t c g G n s L T D left cnt u6 u8 O C) (hg : wr.grownBy w2 (some (X + 1))) : Own X w2 u6 C ∧ Own X w2 u8 O ∧ Bx2 w2 X 47 (.slice a t.length c) (.map (some g)) ∧ Below X w w2 :=
  ⟨World.ownsRow.kept h.o6 hg (.inr h.off.1), World.ownsRow.kept h.o8 hg (.inr h.off.2.1), h.box.kept hg (by simp), h.bel.grown hg (Nat.le_of_lt h.box.lt) (fun j hj => by cases hj; omega)⟩
theorem PtL.same (h : PtL w wr X a t c g G n s L T D left cnt u6 u8 O C) (hg : wr.grownBy w2 (some (X + 1))) (hrg : w2.ranges Tryd.prog 3 unitElem G (X + 1) n D left2 cnt2) (hlt : cnt2 < cnt) (hp : Pr t L T (fun q => left2 (.int .i64 q)) O C) : PtL w w2 X a t c g G n s L T D left2 cnt2 u6 u8 O C := by
  obtain ⟨h1, h2, h3, h4⟩ := h.turn hg
  exact ⟨hrg, h1, h2, h.ap, h.off, h3, h4, hp, by have := h.len; omega⟩
theorem PtL.put1 (h : PtL w wr X a t c g G n s L T D left cnt u6 u8 O C) (hg : wr.grownBy w2 (some (X + 1))) (hrg : w2.ranges Tryd.prog 3 unitElem G (X + 1) n D left2 cnt2) (hlt : cnt2 < cnt) (x : Int) (hp : Pr t L T (fun q => left2 (.int .i64 q)) O [x]) : PtL w (w2.alloc (.cells #[.int .i64 x] 3)) X a t c g G n s L T D left2 cnt2 (.slice (some ⟨w2.heap.size, 0, none⟩) 1 1) u8 O [x] := by
  obtain ⟨h1, h2, h3, h4⟩ := h.turn hg
  have hb := below_box w2 (.cells #[.int .i64 x] 3)
  have hX : X < w2.heap.size := h3.lt
  have hX1 : X + 1 < w2.heap.size := hrg.lt
  refine ⟨hrg.alloc _, (own_one15 w2 x).mono (Nat.le_of_lt hX), h2.below hb, .inr ?_, ⟨?_, h.off.2.1, ?_, h.off.2.2.2⟩, h3.below hb, h4.trans (hb.mono (Nat.le_of_lt hX)), hp, by have := h.len; omega⟩
  · intro e
    have := (World.ownsRow.lt h2 w2.heap.size e.symm).2
    omega
  · simp [Value.ownBlock]; omega
  · simp [Value.ownBlock]; omega
theorem PtL.app (h : PtL w wr X a t c g G n s L T D left cnt u6 u8 O C) (hg : wr.grownBy w2 (some (X + 1))) (hrg : w2.ranges Tryd.prog 3 unitElem G (X + 1) n D left2 cnt2) (hGX : G < X) (hlt : cnt2 < cnt) (x : Int) {u8' : Value} (ho : Own X w3 u8' (O ++ [x])) (ha : Ap (w2.alloc (.cells #[.int .i64 x] 3)) u8 w3 u8') (hp : Pr t L T (fun q => left2 (.int .i64 q)) (O ++ [x]) C) : PtL w w3 X a t c g G n s L T D left2 cnt2 u6 u8' (O ++ [x]) C := by
  obtain ⟨h1, h2, h3, h4⟩ := h.turn hg
  have hb := below_box w2 (.cells #[.int .i64 x] 3)
  have hX : X < w2.heap.size := h3.lt
  have hX1 : X + 1 < w2.heap.size := hrg.lt
  have hsz : (w2.alloc (.cells #[.int .i64 x] 3)).heap.size = w2.heap.size + 1 := by simp
  have hne : ∀ k, some k ≠ u8.ownBlock ∨ X ≤ k := fun k => by
    by_cases e : some k = u8.ownBlock
    · exact .inr (World.ownsRow.lt h2 k e.symm).1
    · exact .inl e
  have off8 : ∀ k, k < w2.heap.size → u8.ownBlock ≠ some k → u8'.ownBlock ≠ some k := fun k hk hn e => by
    rcases ha.new with q | q
    · exact hn (by rw [← q]; exact e)
    · have := q k e; omega
  refine ⟨(hrg.alloc _).kept ha.grown (fun e => ?_) (fun e => h.off.2.1 e.symm), World.ownsRow.kept (h1.below hb) ha.grown h.ap, ho, ?_, ⟨h.off.1, off8 _ hX1 h.off.2.1, h.off.2.2.1, off8 _ hX h.off.2.2.2⟩, (h3.below hb).kept ha.grown (fun e => h.off.2.2.2 e.symm), (h4.trans (hb.mono (Nat.le_of_lt hX))).grown ha.grown (by omega) (fun k hk => (World.ownsRow.lt h2 k hk).1), hp, by have := h.len; simp; omega⟩
  · have := (World.ownsRow.lt h2 G e.symm).1
    omega
  · rcases h.ap with q | q
    · exact .inl q
    · cases e : u6.ownBlock with
      | none => exact .inl rfl
      | some k =>
        right
        have hk := (World.ownsRow.lt h1 k e).2
        exact fun e2 => off8 k hk (by rw [← e]; exact fun q2 => q q2.symm) e2.symm
end
theorem sameKey_int (q p : Int) : (Lit.int .i64 q).sameKey (.int .i64 p) = (q == p) := by
  unfold Lit.sameKey; rw [Bool.eq_iff_iff]; simp
set_option maxRecDepth 100000 in
set_option maxHeartbeats 3200000 in
theorem parted_any (w : World) (a : Option Addr) (t : List Ent) (c g G n s : Nat) (T : Int → Bool) (L : Int) (h : Rz w a t c g t) (hm : Ms w G n s T) (hiv : Iv t L t.length T) (hc1 : cn t L T t.length = 1) (hL : L ≠ 0) :
    Calls Tryd.prog 19 #[rV a t.length c g, .map (some G), .int .i64 L] w fun e w' => ∃ v', e = .returned (.tuple #[v', .int .i64 (topI t (othL t L T))]) ∧ Own w.heap.size w' v' (oneL t L T :: tid (othL t L T)) ∧ Below w.heap.size w w' := by
  have hbn := h.bnd
  have htl := h.ws.len
  obtain ⟨D, hown, htd, hsz, hhas⟩ := hm.fit hiv.bnd
  have hsN : s ≤ t.length := by rw [← hsz]; exact hown.size_le
  have hb1 := below_box w (.cells #[.slice a t.length c, .map (some g)] 47)
  obtain ⟨X, hX⟩ : ∃ X, w.heap.size = X := ⟨_, rfl⟩
  have hGX : G < X := by rw [← hX]; exact hm.lt
  have hX1 : (w.alloc (.cells #[.slice a t.length c, .map (some g)] 47)).heap.size = X + 1 := by simp [hX]
  have hown1 := hown.alloc (.cells #[.slice a t.length c, .map (some g)] 47)
  have HBx : Hid (Bx2 (w.alloc (.cells #[.slice a t.length c, .map (some g)] 47)) X 47 (.slice a t.length c) (.map (some g))) := by rw [← hX]; exact Bx2.new w _ _ _
  have HB1 : Hid (Below X w (w.alloc (.cells #[.slice a t.length c, .map (some g)] 47))) := by rw [← hX]; exact hb1
  have HRz : Hid (Rz w a t c g t) := h
  have HHas : Hid (∀ x, Maps.has D (.int .i64 x) = T x) := hhas
  have HSz : Hid (Maps.size D = s) := hsz
  have HIv : Hid (Iv t L t.length T) := hiv
  have HC1 : Hid (cn t L T t.length = 1) := hc1
  rw [hX]
  clear hm hhas hsz hb1 h htd hiv hc1
  obtain ⟨w1, hw1⟩ : ∃ w1, w.alloc (.cells #[.slice a t.length c, .map (some g)] 47) = w1 := ⟨_, rfl⟩
  rw [hw1] at hX1 hown1 HBx HB1
  go_enter Tryd.func19, Tryd.ntmps19
  go_wp2_with (first | (at_range; refine wpList_range_own _ rfl _ 54 rfl 3 68 lawI Tryd.underlying54 _ G t.length D rfl hown1 ?_; intro w0 hrg0 hg0 hs0) | go_in)
  go_frame
  rw [hX1] at hrg0 hs0 ⊢
  have HP0 : Hid (PtL w w0 X a t c g G t.length s L T D (Maps.has D) s (.slice none 0 0) (.slice none 0 0) [] []) := by
    refine ⟨by rw [← HSz.out]; exact hrg0, World.ownsRow_nil _ _ _ _, World.ownsRow_nil _ _ _ _, .inl rfl, ⟨by simp [Value.ownBlock], by simp [Value.ownBlock], by simp [Value.ownBlock], by simp [Value.ownBlock]⟩, HBx.out.kept hg0 (by simp), HB1.out.grown hg0 (by omega) (fun j hj => by cases hj), ?_, by simp⟩
    have e : (fun q => Maps.has D (.int .i64 q)) = T := by funext q; exact HHas.out q
    rw [e]; exact Pr.start t L T
  clear hrg0 hg0 hs0 hown1
  go_loopg [6, 8] s (fun g' u6 u8 wr => ∃ (left : Lit → Bool) (O C : List Int), Hid (PtL w wr X a t c g G t.length s L T D left g' u6 u8 O C))
  case atStart => exact ⟨_, _, _, HP0.out⟩
  case round =>
    obtain ⟨left, O, C, HP⟩ := hrel
    have hrg := HP.out.rg
    have hol := HP.out.len
    go_wp2_with (first | (at_next; refine wpList_next_iu rfl _ rfl G (X + 1) t.length D left _ rfl hrg ?_ ?_) | go_in)
    · intro hc0 hl0
      obtain ⟨hCe, hOe⟩ := HP.out.pr.fin HRz.out.ws (fun q => hl0 _) HC1.out
      subst hCe
      have HEt : Hid (tid O = tid (othL t L T)) := tid_congr fun x _ => hOe x
      have HEp : Hid (topI t O = topI t (othL t L T)) := topI_congr t hOe
      have hOf : ∀ x ∈ O, isF t x = true := fun x hx => by
        obtain ⟨q, q1, _, _, _, _, rfl⟩ := (HP.out.pr.inO x).1 hx
        exact (HRz.out.ws.opP_at q1).2.1
      have hO8 : O.length * 8 ≤ 140737488351232 := by omega
      have hXw := HP.out.box.lt
      have HSt : Hid (∀ W, Below wr.heap.size wr W → Below X w W ∧ Own X W u6 [oneL t L T] ∧ Rd W u8 O ∧ Rz W a t c g t ∧ W.cell? ⟨X, 0, none⟩ = some (.slice a t.length c) ∧ W.cell? ⟨X, 1, none⟩ = some (.map (some g)) ∧ X ≤ W.heap.size) := fun W hW => by
        have h1 : Below X w W := HP.out.bel.trans (hW.mono (Nat.le_of_lt hXw))
        have hbx := HP.out.box.below hW
        exact ⟨h1, HP.out.o6.below hW, (HP.out.o8.below hW).rd hO8, HRz.out.below (by rw [hX]; exact h1), hbx.c0, hbx.c1, Nat.le_of_lt hbx.lt⟩
      have HAp : Hid (∀ W W' v', Below wr.heap.size wr W → Ap W u6 W' v' → Below X w W' ∧ Rd W' u8 O ∧ Rz W' a t c g t ∧ W'.cell? ⟨X, 0, none⟩ = some (.slice a t.length c) ∧ W'.cell? ⟨X, 1, none⟩ = some (.map (some g))) := fun W W' v' hW hA => by
        obtain ⟨h1, h2, h3, h4, _⟩ := HSt.out W hW
        have hbx := (HP.out.box.below hW).kept hA.grown (fun e => HP.out.off.2.2.1 e.symm)
        have h5 : Below X w W' := h1.grown hA.grown (Nat.le_of_lt (HP.out.box.below hW).lt) (fun k hk => (World.ownsRow.lt h2 k hk).1)
        refine ⟨h5, Own.rd (World.ownsRow.kept (HP.out.o8.below hW) hA.grown ?_) hO8, HRz.out.below (by rw [hX]; exact h5), hbx.c0, hbx.c1⟩
        rcases HP.out.ap with q | q
        · rw [q]
          cases e : u8.ownBlock with
          | none => exact .inl rfl
          | some k => exact .inr (by simp)
        · exact .inr (fun e => q e.symm)
      have HTi : Hid (∀ W, Below wr.heap.size wr W → Calls Tryd.prog 36 #[u8] W fun e w' => ∃ v', e = .returned v' ∧ Own W.heap.size w' v' (tid O) ∧ Below W.heap.size W w') := fun W hW => tidy_any u8 O W (HSt.out W hW).2.2.1
      have HTp : Hid (∀ W, Rd W u8 O → Rz W a t c g t → Calls Tryd.prog 18 #[rV a t.length c g, u8] W fun e w' => e = .returned (.int .i64 (topI t O)) ∧ Below W.heap.size W w') := fun W q1 q2 => top_any W a t c g u8 O q2 q1 hOf
      have ht8 := tid8 O
      have htl2 := tid_len O
      obtain ⟨_, _, _, _, k0, k1, hXs⟩ := HSt.out wr (Below.refl _ _)
      clear hrg hol hl0 hOe hOf
      generalize topI t O = bk at *
      obtain ⟨on1, hon⟩ : ∃ on1, oneL t L T = on1 := ⟨_, rfl⟩
      have HOn : Hid (oneL t L T = on1) := hon
      rw [hon] at HSt
      clear hon
      generalize tid O = tO at *
      go_upto_region 11 with fail
      go_region_law (first
        | (go_simp; go_at_call 36; refine (HTi.out _ (Below.refl _ _).drew).mono ?_; rintro e wT ⟨vT, rfl, oT, bT⟩; have H1 : Hid (Own wr.heap.size wT vT tO ∧ Below wr.heap.size wr wT) := ⟨oT, Below.step (Below.refl _ _).drew bT⟩; obtain ⟨_, _, _, _, k2, k3, _⟩ := HSt.out wT (Below.step (Below.refl _ _).drew bT); clear oT bT; dsimp only)
        | (go_simp; go_at_call 18; first
            | (have hA := HA.out; refine (HTp.out _ hA.2.1 hA.2.2.1).mono ?_; rintro e wP ⟨rfl, bP⟩; have HF : Hid (Below X w wP ∧ Own X wP vA (on1 :: tO)) := ⟨Below.trans hA.1 (bP.mono (Nat.le_trans (Nat.le_of_eq hX.symm) hA.1.size)), hA.2.2.2.below bP⟩; clear hA bP; dsimp only)
            | (have h1 := H1.out; have hs := HSt.out _ h1.2; refine (HTp.out _ hs.2.2.1 hs.2.2.2.1).mono ?_; rintro e wP ⟨rfl, bP⟩; have H2 : Hid (Own wr.heap.size wP vT tO ∧ Below wr.heap.size wr wP) := ⟨h1.1.below bP, Below.step h1.2 bP⟩; clear h1 hs bP; dsimp only))
        | (first
            | (have h2 := H2.out; refine step_app_rd rfl (.tmp 41) (.tmp 43) rfl X u6 vT [on1] tO (by simp [Act.eval, Act.put]) (by simp [Act.eval, Act.put]) (HSt.out _ h2.2).2.1 (h2.1.rd ht8) (by simp; omega) (HSt.out _ h2.2).2.2.2.2.2.2 ?_; intro vA wA oA aA; have HF : Hid (Below X w wA ∧ Own X wA vA (on1 :: tO)) := ⟨(HAp.out _ _ _ h2.2 aA).1, oA⟩; clear h2 oA aA)
            | (have h1 := H1.out; refine step_app_rd rfl (.tmp 41) (.tmp 43) rfl X u6 vT [on1] tO (by simp [Act.eval, Act.put]) (by simp [Act.eval, Act.put]) (HSt.out _ h1.2).2.1 (h1.1.rd ht8) (by simp; omega) (HSt.out _ h1.2).2.2.2.2.2.2 ?_; intro vA wA oA aA; have HA : Hid (Below X w wA ∧ Rd wA u8 O ∧ Rz wA a t c g t ∧ Own X wA vA (on1 :: tO)) := ⟨(HAp.out _ _ _ h1.2 aA).1, (HAp.out _ _ _ h1.2 aA).2.1, (HAp.out _ _ _ h1.2 aA).2.2.1, oA⟩; obtain ⟨_, _, _, k4, k5⟩ := HAp.out _ _ _ h1.2 aA; clear h1 oA aA)))
      all_goals
        go_wp2_with fail
        go_ret2
        exact ⟨vA, by rw [← HEp.out]; rfl, by rw [← HEt.out, HOn.out]; exact HF.out.2, HF.out.1⟩
    · intro x w2 cnt2 hlx hrg2 hlt2 hg2 hs2 hen
      have hTx : T x = true := HP.out.pr.sub x hlx
      have hbx := HIv.out.bnd x hTx
      obtain ⟨p, rfl⟩ : ∃ p : Nat, x = (p : Int) := ⟨x.toNat, by omega⟩
      have hpl : p < t.length := by omega
      obtain ⟨t1, t2, t3, t4⟩ := HP.out.turn hg2
      have hz2 : Rz w2 a t c g t := HRz.out.below (by rw [hX]; exact t4)
      obtain ⟨b, off, u, rfl, hbl, c0, c1, c2, _⟩ := hz2.cells hpl
      have hfr := fmd_range (hz2.ws.lit hpl)
      have hwr : IntKind.i64.wrap (-(t.getD p e0).1) = opP t p := by unfold opP; rw [IntKind.wrap_i64]; omega
      have hneg : -(t.getD p e0).1 = opP t p := rfl
      have hl2 : ∀ q : Int, (fun q => (fun z => left z && !z.sameKey (.int .i64 (p : Int))) (.int .i64 q)) q = ((fun q => left (.int .i64 q)) q && q != (p : Int)) := fun q => by
        show (left _ && !(Lit.int .i64 q).sameKey (.int .i64 (p : Int))) = _
        rw [sameKey_int]; rfl
      have hlv : (t.getD p e0).2.1 = lvP t p := rfl
      rw [hlv] at c1
      have b0 := t3.c0
      have HG : Hid (w2.ranges Tryd.prog 3 unitElem G (X + 1) t.length D (fun z => left z && !z.sameKey (.int .i64 (p : Int))) cnt2 ∧ wr.grownBy w2 (some (X + 1))) := ⟨hrg2, hg2⟩
      have HO8 : Hid (Own X w2 u8 O) := t2
      have HX2 : Hid (X < w2.heap.size) := t3.lt
      obtain ⟨lt, hlt⟩ : ∃ lt, (t.getD p e0).1 = lt := ⟨_, rfl⟩
      rw [hlt] at c0 hfr hwr hneg
      have hwr64 : wrap64 (-lt) = opP t p := by rw [← hneg]; unfold wrap64; omega
      clear c2 hz2 t1 t2 t3 t4 hrg hrg2 hg2 hs2 hlv hTx hbx hlt
      by_cases h0 : lvP t p = 0
      · have HQ : Hid (PtL w w2 X (some ⟨b, off, none⟩) t c g G t.length s L T D (fun z => left z && !z.sameKey (.int .i64 (p : Int))) cnt2 u6 u8 O C) := HP.out.same HG.out.2 HG.out.1 hlt2 (HP.out.pr.zero hl2 hlx h0 hL)
        rw [h0] at c1
        clear hl2 h0
        go_wp2_with fail
        go_roundg cnt2
        case measure => exact hlt2
        case rel => exact ⟨_, _, _, HQ.out⟩
      by_cases h1 : lvP t p = L
      · have HQ : Hid (PtL w (w2.alloc (.cells #[.int .i64 (opP t p)] 3)) X (some ⟨b, off, none⟩) t c g G t.length s L T D (fun z => left z && !z.sameKey (.int .i64 (p : Int))) cnt2 (.slice (some ⟨w2.heap.size, 0, none⟩) 1 1) u8 O [opP t p]) := HP.out.put1 HG.out.2 HG.out.1 hlt2 _ (HP.out.pr.one hl2 hlx hpl h1 HC1.out)
        rw [h1] at c1
        have hLb : (L == 0) = false := by simpa using hL
        clear hl2 h0 h1
        generalize opP t p = xp at *
        go_wp2_with fail
        go_roundg cnt2
        case measure => exact hlt2
        case rel => exact ⟨_, _, _, HQ.out⟩
      · have HQ : Hid (∀ w3 u8', Own X w3 u8' (O ++ [opP t p]) → Ap (w2.alloc (.cells #[.int .i64 (opP t p)] 3)) u8 w3 u8' → PtL w w3 X (some ⟨b, off, none⟩) t c g G t.length s L T D (fun z => left z && !z.sameKey (.int .i64 (p : Int))) cnt2 u6 u8' (O ++ [opP t p]) C) := fun w3 u8' q1 q2 => HP.out.app HG.out.2 HG.out.1 hGX hlt2 _ q1 q2 (HP.out.pr.other hl2 hlx hpl h0 h1)
        have h0b : (lvP t p == 0) = false := by simpa using h0
        have h1b : (lvP t p == L) = false := by simpa using h1
        clear hl2 h0 h1
        generalize opP t p = xp at *
        generalize lvP t p = lp at *
        have HR1 : Hid (Rd (w2.alloc (.cells #[.int .i64 xp] 3)) (.slice (some ⟨w2.heap.size, 0, none⟩) 1 1) [xp]) := (own_one15 w2 xp).rd (by simp)
        go_wp2_with (first | (at_builtin; refine wpList_app_rd rfl _ _ rfl X u8 (.slice (some ⟨w2.heap.size, 0, none⟩) 1 1) O [xp] rfl rfl (HO8.out.below (below_box _ _)) HR1.out (by simp; omega) (by have := HX2.out; simp; omega) ?_; intro v7 w7 own7 ap7; have H7 := HQ.out w7 v7 own7 ap7; have HH7 : Hid (PtL w w7 X (some ⟨b, off, none⟩) t c g G t.length s L T D (fun z => left z && !z.sameKey (.int .i64 (p : Int))) cnt2 u6 v7 (O ++ [xp]) C) := H7; clear own7 ap7 H7) | go_in)
        go_roundg cnt2
        case measure => exact hlt2
        case rel => exact ⟨_, _, _, HH7.out⟩
end Go.Proofs.YtofojjdegobekaaDoor
set_option linter.unusedSimpArgs false
set_option linter.unusedVariables false
namespace Go.Proofs.YtofojjdegobekaaDoor
open Go Go.RowKit
/-- what readUnder has read -/
def RuS (w' : World) (v : Value) (t : List Ent) (zs : List Int) (xa : Option Addr) (xn xc : Nat) (ym : Option Nat) : Prop :=
  ∃ g, v = .slice xa t.length xc ∧ xn = t.length ∧ ym = some g ∧ Rz w' xa t xc g t ∧ falB t zs = true ∧ zs.all fmd = true
theorem RuS.below {w w' : World} {v : Value} {t : List Ent} {zs : List Int} {xa : Option Addr} {xn xc : Nat} {ym : Option Nat} (h : RuS w v t zs xa xn xc ym) (hb : Below w.heap.size w w') : RuS w' v t zs xa xn xc ym := by
  obtain ⟨g, h1, h2, h3, h4, h5⟩ := h
  exact ⟨g, h1, h2, h3, h4.below hb, h5⟩
set_option maxRecDepth 100000 in
set_option maxHeartbeats 3200000 in
theorem readUnder_any (v vc : Value) (t : List Ent) (zs : List Int) (w : World) (hr : RdE w v t) (hz : Rd w vc zs) :
    Calls Tryd.prog 17 #[v, vc] w fun e w' => ∃ xa xn xc ym, e = .returned (.tuple #[.agg #[.slice xa xn xc, .map ym], .int .i64 (askI t zs)]) ∧ Below w.heap.size w w' ∧ (askI t zs = 0 → RuS w' v t zs xa xn xc ym) := by
  have hl := hz.len
  have hb0 := below_box w (.cells #[.slice none 0 0, .map none] 47)
  have hbx := Bx2.new w 47 (.slice none 0 0) (.map none)
  obtain ⟨X, hX⟩ : ∃ X, w.heap.size = X := ⟨_, rfl⟩
  obtain ⟨w0, hw0⟩ : ∃ w0, w.alloc (.cells #[.slice none 0 0, .map none] 47) = w0 := ⟨_, rfl⟩
  rw [hw0, hX] at hbx
  rw [hw0] at hb0
  have hR0 := hr.below hb0
  have hZ0 := hz.below hb0
  have HRd : Hid (Calls Tryd.prog 32 #[v] w0 fun e w' => ∃ xa xn xc ym, e = .returned (.tuple #[.agg #[.slice xa xn xc, .map ym], .bool (frmE t)]) ∧ Below w0.heap.size w0 w' ∧ (frmE t = true → ∃ g, v = .slice xa t.length xc ∧ xn = t.length ∧ ym = some g ∧ Rz w' xa t xc g t ∧ w0.heap.size ≤ g)) := read_any v t w0 hR0
  have HSo : Hid (∀ W, Below w0.heap.size w0 W → Calls Tryd.prog 33 #[vc] W fun e w' => e = .returned (.bool (zs.all fmd)) ∧ w' = W) := fun W h => sound_any vc zs W (hZ0.below h)
  have HB0 : Hid (∀ W, Below w0.heap.size w0 W → Below X w W ∧ Bx2 W X 47 (.slice none 0 0) (.map none)) := fun W h => ⟨by rw [← hX]; exact Below.step hb0 h, hbx.below h⟩
  have HZ : Hid (Rd w0 vc zs) := hZ0
  obtain ⟨AI, hAI⟩ : ∃ AI, askI t zs = AI := ⟨_, rfl⟩
  have HAI : Hid ((if frmE t && zs.all fmd then (if falB t zs then 0 else 2) else 1) = AI) := by rw [← hAI]; rfl
  rw [hAI, hX]
  have HX0 : Hid (∀ W, Below w0.heap.size w0 W → W.frozen? ⟨X, 0, none⟩ = false ∧ W.frozen? ⟨X, 1, none⟩ = false ∧ X < W.heap.size ∧ W.cell? ⟨X, 0, none⟩ = some (.slice none 0 0) ∧ W.cell? ⟨X, 1, none⟩ = some (.map none)) := fun W h => by
    have q := (HB0.out W h).2
    exact ⟨q.f0, q.f1, q.lt, q.c0, q.c1⟩
  have HFin : Hid (∀ W x y, Below w0.heap.size w0 W → Below X w ((W.setCell ⟨X, 0, none⟩ x).setCell ⟨X, 1, none⟩ y) ∧ Bx2 ((W.setCell ⟨X, 0, none⟩ x).setCell ⟨X, 1, none⟩ y) X 47 x y) := fun W x y h => by
    have q := HB0.out W h
    exact ⟨below_set15 (below_set15 q.1 (Nat.le_refl _) (Nat.le_of_lt q.2.lt)) (Nat.le_refl _) (Nat.le_of_lt (q.2.set0 x).lt), (q.2.set0 x).set1 y⟩
  have HR : Hid (RdE w v t) := hr
  have HXl : Hid (X < w0.heap.size) := hbx.lt
  clear hR0 hZ0 hr hz hAI hb0 hbx
  cases h1 : frmE t
  · have HE : Hid (AI = 1) := by show AI = _; rw [← HAI.out, h1]; rfl
    rw [h1] at HRd
    clear h1 HAI
    go_enter Tryd.func17, Tryd.ntmps17
    go_wp2_with (first | (go_at_call 32; refine HRd.out.mono ?_; rintro e w1 ⟨xa, xn, xc, ym, rfl, bE, _⟩; have hb2 := Below.step bE (below_box w1 (.cells #[.slice xa xn xc, .map ym] 47)); obtain ⟨f0, f1, fl, _, _⟩ := HX0.out _ hb2; have HB : Hid (Below w0.heap.size w0 (w1.alloc (.cells #[.slice xa xn xc, .map ym] 47))) := hb2; clear hb2 bE))
    refine bodyPost_ret (ret_rdg rfl rfl (HFin.out _ _ _ HB.out).2) rfl ?_
    exact ⟨_, _, _, _, by rw [HE.out]; rfl, (HFin.out _ _ _ HB.out).1, fun h => by rw [HE.out] at h; cases h⟩
  cases h2 : zs.all fmd
  · have HE : Hid (AI = 1) := by show AI = _; rw [← HAI.out, h1, h2]; rfl
    rw [h1] at HRd
    rw [h2] at HSo
    clear h1 h2 HAI
    go_enter Tryd.func17, Tryd.ntmps17
    go_wp2_with (first | (go_at_call 32; refine HRd.out.mono ?_; rintro e w1 ⟨xa, xn, xc, ym, rfl, bE, _⟩; have hb2 := Below.step bE (below_box w1 (.cells #[.slice xa xn xc, .map ym] 47)); obtain ⟨f0, f1, fl, _, _⟩ := HX0.out _ hb2; have HB : Hid (Below w0.heap.size w0 (w1.alloc (.cells #[.slice xa xn xc, .map ym] 47))) := hb2; clear hb2 bE) | (go_at_call 33; refine (HSo.out _ HB.out).mono ?_; rintro e w2 ⟨rfl, hw⟩; obtain rfl := hw.symm))
    refine bodyPost_ret (ret_rdg rfl rfl (HFin.out _ _ _ HB.out).2) rfl ?_
    exact ⟨_, _, _, _, by rw [HE.out]; rfl, (HFin.out _ _ _ HB.out).1, fun h => by rw [HE.out] at h; cases h⟩
  have HWs : Hid (Ws t) := (frmE_iff t).1 h1
  have HAI2 : Hid ((if falB t zs then 0 else 2) = AI) := by have := HAI.out; rw [h1, h2] at this; exact this
  have HFm : Hid (zs.all fmd = true) := h2
  rw [h1] at HRd
  rw [h2] at HSo
  clear h1 h2 HAI
  obtain ⟨ua, uc, rfl, huc, hum, _⟩ := HZ.out.form
  go_enter Tryd.func17, Tryd.ntmps17
  go_upto_region 4 with (first | (go_at_call 32; refine HRd.out.mono ?_; rintro e w1 ⟨xa, xn, xc, ym, rfl, bE, hrz⟩; obtain ⟨g, hv, rfl, rfl, hrz, hgX⟩ := hrz rfl; have HgX : Hid (w0.heap.size ≤ g) := hgX; have HB : Hid (Below w0.heap.size w0 (w1.alloc (.cells #[.slice xa t.length xc, .map (some g)] 47)) ∧ Rz (w1.alloc (.cells #[.slice xa t.length xc, .map (some g)] 47)) xa t xc g t) := ⟨Below.step bE (below_box _ _), hrz.below (below_box _ _)⟩; subst hv; clear bE hrz hgX) | (go_at_call 33; refine (HSo.out _ HB.out.1).mono ?_; rintro e w2 ⟨rfl, hw⟩; obtain rfl := hw.symm))
  have HWb : Hid (∀ W, Below (w1.alloc (.cells #[.slice xa t.length xc, .map (some g)] 47)).heap.size (w1.alloc (.cells #[.slice xa t.length xc, .map (some g)] 47)) W → Below w0.heap.size w0 W ∧ Rz W xa t xc g t ∧ W.cell? ⟨w1.heap.size, 0, none⟩ = some (.slice xa t.length xc) ∧ W.cell? ⟨w1.heap.size, 1, none⟩ = some (.map (some g)) ∧ Rd W (.slice ua zs.length uc) zs) := fun W hW => by
    have h0 : Below w0.heap.size w0 W := Below.step HB.out.1 hW
    exact ⟨h0, HB.out.2.below hW, box_at hW rfl, box_at hW rfl, HZ.out.below h0⟩
  clear HB HSo HRd
  generalize w1.alloc (.cells #[.slice xa t.length xc, .map (some g)] 47) = wb at *
  obtain ⟨Y, hY⟩ : ∃ Y, w1.heap.size = Y := ⟨_, rfl⟩
  rw [hY] at HWb ⊢
  clear hY
  go_wp2_with fail
  go_loopg [25] zs.length (fun g' j wr => ∃ k : Nat, k + g' = zs.length ∧ j = .int .i64 k ∧ falB t (zs.take k) = true ∧ Below wb.heap.size wb wr)
  case atStart => exact ⟨0, by omega, rfl, rfl, Below.refl _ _⟩
  case round =>
    obtain ⟨k, hk, rfl, hall, bel⟩ := hrel
    have HA : Hid (falB t (zs.take k) = true) := hall
    have HK : Hid (k + gk = zs.length) := hk
    have HBl : Hid (Below wb.heap.size wb wr) := bel
    obtain ⟨hb3, hrz, f0, f1, hrd⟩ := HWb.out wr bel
    obtain ⟨x0, x1, x2, _, _⟩ := HX0.out wr hb3
    have HRz : Hid (Rz wr xa t xc g t) := hrz
    clear hall bel
    by_cases hlt : k < zs.length
    · obtain ⟨ua', uc', e', _, _, hcell⟩ := hrd.form
      injection e' with q1 q2 q3
      subst q1 q3
      obtain ⟨b2, off2, rfl, hck⟩ := hcell k hlt
      have HM := all_more (fun x => isF t x) zs k hlt
      have HN : Hid (isF t (zs.getD k 0) = false → AI = 2) := fun h => by rw [← HAI2.out, show falB t zs = false from all_no hlt h]; rfl
      have HM2 : Hid (isF t (zs.getD k 0) = true → falB t (zs.take (k + 1)) = true) := fun h => by
        show (zs.take (k + 1)).all _ = true
        rw [HM]; exact Bool.and_eq_true_iff.2 ⟨HA.out, h⟩
      have HIs : Hid (Calls Tryd.prog 34 #[rV xa t.length xc g, .int .i64 (zs.getD k 0)] wr fun e w' => e = .returned (.bool (isF t (zs.getD k 0))) ∧ Below wr.heap.size wr w') := isFalse_any xa t t xc g _ wr hrz
      clear hk HM hcell hrd hrz
      generalize zs.getD k 0 = y at *
      generalize isF t y = yf at *
      cases yf
      · have HT : Hid (AI = 2) := HN.out rfl
        clear HN HM2
        go_wp2_with (go_at_call 34; refine HIs.out.mono ?_; rintro e w5 ⟨rfl, bE⟩; have hb5 := (HWb.out w5 (Below.step HBl.out bE)).1; obtain ⟨y0, y1, y2, _, _⟩ := HX0.out w5 hb5; have HB5 : Hid (Below w0.heap.size w0 w5) := hb5; clear hb5 bE)
        refine bodyPost_ret (ret_rdg rfl rfl (HFin.out _ _ _ HB5.out).2) rfl ?_
        exact ⟨_, _, _, _, by rw [HT.out]; rfl, (HFin.out _ _ _ HB5.out).1, fun h => by rw [HT.out] at h; cases h⟩
      · have HT : Hid (falB t (zs.take (k + 1)) = true) := HM2.out rfl
        clear HN HM2
        go_wp2_with (go_at_call 34; refine HIs.out.mono ?_; rintro e w5 ⟨rfl, bE⟩)
        go_roundg (gk - 1)
        case measure => have := HK.out; omega
        case rel => exact ⟨k + 1, by have := HK.out; omega, by go_num, HT.out, Below.step HBl.out bE⟩
    · obtain rfl : k = zs.length := by omega
      have hfa : falB t zs = true := by have := HA.out; rw [List.take_length] at this; exact this
      have HE : Hid (AI = 0) := by show AI = _; rw [← HAI2.out, hfa]; rfl
      have HFa : Hid (falB t zs = true) := hfa
      have HBw : Hid (Below w0.heap.size w0 wr) := hb3
      clear hk hfa hb3 hrz hrd
      go_wp2_with fail
      refine bodyPost_ret (ret_rdg rfl rfl (HFin.out _ _ _ HBw.out).2) rfl ?_
      refine ⟨_, _, _, _, by rw [HE.out]; rfl, (HFin.out _ _ _ HBw.out).1, fun _ => ⟨g, rfl, rfl, rfl, ?_, HFa.out, HFm.out⟩⟩
      have hz := HRz.out
      have hgx : g ≠ X := by have := HXl.out; have := HgX.out; omega
      exact ⟨HR.out.below (by rw [hX]; exact (HFin.out _ _ _ HBw.out).1), (hz.map.set hgx).set hgx, hz.pre, hz.ws⟩
/-- the three answers of Learn -/
def LnS (w' : World) (B : Nat) (t : List Ent) (zs : List Int) (e : Ending) : Prop :=
  ∃ u, e = .returned (.tuple #[u, .int .i64 (if askI t zs = 0 then lrnB t zs else 0), .int .i64 (askI t zs)]) ∧ Own B w' u (if askI t zs = 0 then lrnC t zs else [])
set_option maxRecDepth 100000 in
set_option maxHeartbeats 3200000 in
theorem learn_any (v vc : Value) (t : List Ent) (zs : List Int) (w : World) (hr : RdE w v t) (hz : Rd w vc zs) :
    Calls Tryd.prog 6 #[v, vc] w fun e w' => LnS w' w.heap.size t zs e ∧ Below w.heap.size w w' := by
  have HRd : Hid (Calls Tryd.prog 17 #[v, vc] w fun e w' => ∃ xa xn xc ym, e = .returned (.tuple #[.agg #[.slice xa xn xc, .map ym], .int .i64 (askI t zs)]) ∧ Below w.heap.size w w' ∧ (askI t zs = 0 → RuS w' v t zs xa xn xc ym)) := readUnder_any v vc t zs w hr hz
  have HZ : Hid (Rd w vc zs) := hz
  unfold LnS
  clear hr hz
  by_cases h0 : askI t zs = 0
  · rw [h0] at HRd ⊢
    rw [if_pos rfl, if_pos rfl]
    go_enter Tryd.func6, Tryd.ntmps6
    go_upto_region 4 with (go_at_call 17; refine HRd.out.mono ?_; rintro e w1 ⟨xa, xn, xc, ym, rfl, bE, hrz⟩; obtain ⟨g, hv, rfl, rfl, hrz, hfa, hfm⟩ := hrz rfl; have HB : Hid (Below w.heap.size w w1 ∧ Rz w1 xa t xc g t ∧ falB t zs = true) := ⟨bE, hrz, hfa⟩; subst hv; clear bE hrz hfa hfm)
    have HWb : Hid (∀ W, Below (w1.alloc (.cells #[.slice xa t.length xc, .map (some g)] 47)).heap.size (w1.alloc (.cells #[.slice xa t.length xc, .map (some g)] 47)) W → Below w.heap.size w W ∧ Rz W xa t xc g t ∧ W.cell? ⟨w1.heap.size, 0, none⟩ = some (.slice xa t.length xc) ∧ W.cell? ⟨w1.heap.size, 1, none⟩ = some (.map (some g)) ∧ Rd W vc zs) := fun W hW => by
      have h1 : Below w1.heap.size w1 W := Below.step (below_box _ _) hW
      have h2 : Below w.heap.size w W := Below.step HB.out.1 h1
      exact ⟨h2, HB.out.2.1.below h1, box_at hW rfl, box_at hW rfl, HZ.out.below h2⟩
    have HWs : Hid (Ws t) := HB.out.2.1.ws
    have HFa : Hid (falB t zs = true) := HB.out.2.2
    have HFl : Hid (∀ x ∈ zs, isF t x = true) := List.all_eq_true.1 HFa.out
    clear HB HRd
    generalize w1.alloc (.cells #[.slice xa t.length xc, .map (some g)] 47) = wb at *
    obtain ⟨Y, hY⟩ : ∃ Y, w1.heap.size = Y := ⟨_, rfl⟩
    rw [hY] at HWb ⊢
    clear hY
    have HTp : Hid (Calls Tryd.prog 18 #[rV xa t.length xc g, vc] wb fun e w' => e = .returned (.int .i64 (topI t zs)) ∧ Below wb.heap.size wb w') := by
      have q := HWb.out wb (Below.refl _ _)
      exact top_any wb xa t xc g vc zs q.2.1 q.2.2.2.2 HFl.out
    obtain ⟨_, _, p0, p1, _⟩ := HWb.out wb (Below.refl _ _)
    by_cases hL : topI t zs = 0
    · have HE1 : Hid (lrnB t zs = -1) := by show _ = _; unfold lrnB; rw [if_pos hL]
      have HE2 : Hid (lrnC t zs = []) := by show _ = _; unfold lrnC; rw [if_pos hL]
      rw [hL] at HTp
      go_wp2_with (go_at_call 18; refine HTp.out.mono ?_; rintro e w2 ⟨rfl, bE⟩; have HB2 : Hid (Below w.heap.size w w2) := (HWb.out w2 bE).1; clear bE)
      go_ret3
      exact ⟨⟨.slice none 0 0, by rw [HE1.out]; rfl, by rw [HE2.out]; exact World.ownsRow_nil _ _ _ _⟩, HB2.out⟩
    · have HE1 : Hid (lrnB t zs = topI t (othL t (topI t zs) (RS t zs))) := by show _ = _; unfold lrnB; rw [if_neg hL]
      have HE2 : Hid (lrnC t zs = oneL t (topI t zs) (RS t zs) :: tid (othL t (topI t zs) (RS t zs))) := by show _ = _; unfold lrnC; rw [if_neg hL]
      obtain ⟨L, hLe⟩ : ∃ L, topI t zs = L := ⟨_, rfl⟩
      rw [hLe] at HTp hL HE1 HE2
      have HRs : Hid (∀ W, Below wb.heap.size wb W → Calls Tryd.prog 20 #[rV xa t.length xc g, vc, .int .i64 L] W fun e w' => ∃ G s, e = .returned (.map (some G)) ∧ Below W.heap.size W w' ∧ Ms w' G t.length s (RS t zs)) := fun W hW => by
        have q := HWb.out W hW
        exact (resolved_any W xa t xc g L vc zs q.2.1 q.2.2.2.2 HFa.out hLe.symm).mono fun e w' ⟨h1, h2⟩ => by
          obtain ⟨s, hs⟩ := h2.ms
          exact ⟨_, s, h1, h2.bel, hs⟩
      have HPa : Hid (∀ W G s, Below wb.heap.size wb W → Ms W G t.length s (RS t zs) → Calls Tryd.prog 19 #[rV xa t.length xc g, .map (some G), .int .i64 L] W fun e w' => ∃ v', e = .returned (.tuple #[v', .int .i64 (lrnB t zs)]) ∧ Own W.heap.size w' v' (lrnC t zs) ∧ Below W.heap.size W w') := fun W G s hW hm => by
        have q := HWb.out W hW
        have r := RS_end HWs.out HFa.out (by rw [hLe]; exact hL)
        rw [hLe] at r
        rw [HE1.out, HE2.out]
        exact parted_any W xa t xc g G t.length s (RS t zs) L q.2.1 hm r.2 r.1 hL
      clear hLe HE1 HE2
      have hLb : (L == 0) = false := by simpa using hL
      go_upto_region 7 with (go_at_call 18; refine HTp.out.mono ?_; rintro e w2 ⟨rfl, bE⟩; have HB2 : Hid (Below wb.heap.size wb w2) := bE; obtain ⟨_, _, p2, p3, _⟩ := HWb.out w2 bE; clear bE)
      have HK2 : Hid (∀ W, Below w2.heap.size w2 W → W.cell? ⟨Y, 0, none⟩ = some (.slice xa t.length xc) ∧ W.cell? ⟨Y, 1, none⟩ = some (.map (some g))) := fun W hW => by
        have q := HWb.out W (Below.step HB2.out hW)
        exact ⟨q.2.2.1, q.2.2.2.1⟩
      go_region_held (fun W' => Below w2.heap.size w2 W' ∧ W'.cell? ⟨Y, 0, none⟩ = some (.slice xa t.length xc) ∧ W'.cell? ⟨Y, 1, none⟩ = some (.map (some g))) (first | exact ⟨(Below.refl _ _).drew, HK2.out _ (Below.refl _ _).drew⟩ | exact ⟨H4.out.1, HK2.out _ H4.out.1⟩ | exact ⟨H3.out.1, HK2.out _ H3.out.1⟩) (first
        | (go_at_call 20; refine (HRs.out _ (Below.step HB2.out (Below.refl _ _).drew)).mono ?_; rintro e w3 ⟨G, s, rfl, b3, hm3⟩; have H3 : Hid (Below w2.heap.size w2 w3 ∧ Ms w3 G t.length s (RS t zs)) := ⟨Below.step (Below.refl _ _).drew b3, hm3⟩; clear b3 hm3)
        | (go_at_call 19; refine (HPa.out _ _ _ (Below.step HB2.out H3.out.1) H3.out.2).mono ?_; rintro e w4 ⟨vA, rfl, o4, b4⟩; have H4 : Hid (Below w2.heap.size w2 w4 ∧ Own w3.heap.size w4 vA (lrnC t zs)) := ⟨Below.step H3.out.1 b4, o4⟩; clear o4 b4))
      all_goals
        go_wp2_with fail
        go_ret3
        exact ⟨⟨vA, rfl, H4.out.2.mono (HWb.out w3 (Below.step HB2.out H3.out.1)).1.size⟩, (HWb.out w4 (Below.step HB2.out H4.out.1)).1⟩
  · rw [if_neg h0, if_neg h0]
    have hb0 : (askI t zs == 0) = false := by simpa using h0
    generalize askI t zs = AI at *
    have HR2 : Hid (Calls Tryd.prog 17 #[v, vc] w fun e w' => ∃ xa xn xc ym, e = .returned (.tuple #[.agg #[.slice xa xn xc, .map ym], .int .i64 AI]) ∧ Below w.heap.size w w') := HRd.out.mono fun e w' ⟨x1, x2, x3, x4, h1, h2, _⟩ => ⟨x1, x2, x3, x4, h1, h2⟩
    clear HRd
    go_enter Tryd.func6, Tryd.ntmps6
    go_wp2_with (go_at_call 17; refine HR2.out.mono ?_; rintro e w1 ⟨xa, xn, xc, ym, rfl, bE⟩; have HB : Hid (Below w.heap.size w w1) := bE; clear bE)
    go_ret3
    exact ⟨⟨.slice none 0 0, rfl, World.ownsRow_nil _ _ _ _⟩, Below.step HB.out (below_box _ _)⟩
end Go.Proofs.YtofojjdegobekaaDoor
set_option linter.unusedSimpArgs false
set_option linter.unusedVariables false
namespace Go.Proofs.YtofojjdegobekaaDoor
open Go Go.RowKit
/-- of the entry k: is the opposite of its literal covered, where out says it of the entries ahead? -/
def cvB (t : List Ent) (S : Int → Bool) (out : List Bool) (k : Nat) : Bool := (t.getD k e0).2.2.length != 0 && (t.getD k e0).2.2.all (fun x => x == (t.getD k e0).1 || S x || lvl t x == 0 || out.getD (plN t x) false)
def covN (t : List Ent) (S : Int → Bool) : Nat → List Bool
  | 0 => []
  | k + 1 => covN t S k ++ [cvB t S (covN t S k) k]
def covB (t : List Ent) (S : Int → Bool) (p : Nat) : Bool := (covN t S t.length).getD p false
section
variable {t : List Ent} {S : Int → Bool}
theorem covN_len : ∀ k, (covN t S k).length = k
  | 0 => rfl
  | k + 1 => by rw [covN, List.length_append, covN_len k]; rfl
theorem covN_at : ∀ n p, p < n → (covN t S n).getD p false = cvB t S (covN t S p) p
  | 0, p, h => by omega
  | n + 1, p, h => by
    rw [covN]
    by_cases e : p = n
    · subst e
      rw [List.getD_eq_getElem?_getD, List.getElem?_append_right (by rw [covN_len]; exact Nat.le_refl _), covN_len]; simp
    · rw [List.getD_eq_getElem?_getD, List.getElem?_append_left (by rw [covN_len]; omega), ← List.getD_eq_getElem?_getD]
      exact covN_at n p (by omega)
theorem covB_at {p : Nat} (h : p < t.length) : covB t S p = cvB t S (covN t S p) p := covN_at _ _ h
theorem Ws.cov (h : Ws t) {p : Nat} (hp : p < t.length) : covB t S p = ((t.getD p e0).2.2.length != 0 && (t.getD p e0).2.2.all (fun x => x == (t.getD p e0).1 || S x || lvl t x == 0 || covB t S (plN t x))) := by
  rw [covB_at hp, cvB]
  by_cases hr : (t.getD p e0).2.2.length = 0
  · rw [hr]; rfl
  congr 1
  rw [Bool.eq_iff_iff, List.all_eq_true, List.all_eq_true]
  have key : ∀ x ∈ (t.getD p e0).2.2, (x == (t.getD p e0).1 || S x || lvl t x == 0 || (covN t S p).getD (plN t x) false) = (x == (t.getD p e0).1 || S x || lvl t x == 0 || covB t S (plN t x)) := fun x hx => by
    by_cases e : x = (t.getD p e0).1
    · rw [beq_iff_eq.2 e]; rfl
    · obtain ⟨h1, j, h2, h3⟩ := (h.reason hp hr).2 x hx e
      have h4 := (h.plN_some h1 h3).1
      rw [covN_at p _ (by omega), ← covB_at (by omega)]
  constructor
  · intro q x hx; rw [← key x hx]; exact q x hx
  · intro q x hx; rw [key x hx]; exact q x hx
end
/-- where a number stands first -/
def fsI (c : List Int) (x : Int) : Option Nat := c.findIdx? (fun y => y == x)
theorem fsI_some {c : List Int} {x : Int} : (fsI c x).isSome = c.contains x := by
  unfold fsI
  rw [List.findIdx?_isSome, Bool.eq_iff_iff]
  simp
theorem fsI_more {c : List Int} {k : Nat} (hk : k < c.length) (y : Int) : fsI (c.take (k + 1)) y = if (fsI (c.take k) (c.getD k 0)).isSome then fsI (c.take k) y else upI (fsI (c.take k)) (c.getD k 0) k y := by
  have key : fsI (c.take (k + 1)) y = (fsI (c.take k) y).or (if c.getD k 0 = y then some k else none) := by
    unfold fsI
    rw [take_succ_getD c 0 k hk, List.findIdx?_append]
    simp [Nat.min_eq_left (Nat.le_of_lt hk)]
  rw [key]
  unfold upI
  by_cases q : y = c.getD k 0
  · subst q
    cases e : fsI (c.take k) (c.getD k 0) with
    | some i => simp
    | none => simp
  · rw [if_neg q, if_neg (fun e => q e.symm)]; simp
/-- a map of places has no more entries than there are places -/
theorem Mi.fit {W : World} {g n N : Nat} {T : Int → Option Nat} (h : Mi W g n T) (hT : ∀ q, (T q).isSome = true → 0 ≤ q ∧ q < (N : Int)) : Mi W g N T := by
  obtain ⟨D, ⟨es, clock, hb, F, hs, hD⟩, hh⟩ := h
  refine ⟨D, ⟨es, clock, hb, F, ?_, hD⟩, hh⟩
  have hp := Maps.fit_apart lawI F
  have hk := Maps.fit_keys F
  have key : ∀ p ∈ es.toList.map (WideElems.rg Tryd.prog 3 (plainElem (H := Unit) Tryd.prog 3)), ∃ x : Int, p.1 = .int .i64 x ∧ 0 ≤ x ∧ x < (N : Int) := fun p hpm => by
    obtain ⟨v, hv⟩ := hk p hpm
    obtain ⟨x, _, hx, _⟩ := Maps.keyOf_int_inv Tryd.underlying3 hv
    refine ⟨x, hx, hT x ?_⟩
    rw [← (hh x).1, hD, Maps.has_eq, List.any_eq_true]
    exact ⟨p, mem_sorted.2 hpm, by rw [hx]; simp [Lit.sameKey]⟩
  let f : Lit × DataW Unit → Int := fun p => match p.1 with | .int _ x => x + 1 | _ => 0
  have h1 : ((es.toList.map (WideElems.rg Tryd.prog 3 (plainElem (H := Unit) Tryd.prog 3))).map f).Pairwise (fun a b => a ≠ b) := by
    rw [List.pairwise_map]
    refine List.Pairwise.imp_of_mem ?_ hp
    intro a b ha hb' hne e
    obtain ⟨x, hx, _⟩ := key a ha
    obtain ⟨y, hy, _⟩ := key b hb'
    apply hne
    rw [hx, hy]
    have e' : x + 1 = y + 1 := by
      have : f a = f b := e
      simp only [f, hx, hy] at this
      exact this
    rw [show x = y by omega]
  have h2 := len_of_apart N _ h1 (fun x hx => by
    obtain ⟨p, hpm, rfl⟩ := List.mem_map.1 hx
    obtain ⟨y, hy, h3, h4⟩ := key p hpm
    show 1 ≤ f p ∧ f p ≤ _
    simp only [f, hy]
    omega)
  simpa using h2
abbrev gvV (X : Nat) : Value := .func (.func 40) #[] #[.pointer (some ⟨X + 1, 0, none⟩), .pointer (some ⟨X, 0, none⟩)]
abbrev cvV (X : Nat) : Value := .func (.func 41) #[] #[.pointer (some ⟨X + 4, 0, none⟩), .pointer (some ⟨X, 0, none⟩), .pointer (some ⟨X + 2, 0, none⟩), .pointer (some ⟨X + 5, 0, none⟩)]
/-- the coverer in memory: X the reading's box, X + 1 the literals' box, X + 2 given, X + 3 the marks, X + 4 their box, X + 5 covered -/
structure Cv (w0 W : World) (X : Nat) (a : Option Addr) (t : List Ent) (c g gs ns : Nat) (cl : List Int) (M : Int → Option Nat) : Prop where
  rz0 : Rz w0 a t c g t
  st0 : Mi w0 gs ns (fsI cl)
  eX : w0.heap.size = X
  bel : Below X w0 W
  box : Bx2 W X 47 (.slice a t.length c) (.map (some g))
  sb : Bo1 W (X + 1) 45 (.map (some gs))
  gf : Bo1 W (X + 2) 56 (gvV X)
  mb : Bo1 W (X + 4) 45 (.map (some (X + 3)))
  cf : Bo1 W (X + 5) 56 (cvV X)
  ms : Mi W (X + 3) t.length M
section
variable {w0 W W' : World} {X : Nat} {a : Option Addr} {t : List Ent} {c g gs ns : Nat} {cl : List Int} {M M' : Int → Option Nat}
theorem Cv.rz (h : Cv w0 W X a t c g gs ns cl M) : Rz W a t c g t := h.rz0.below (by rw [h.eX]; exact h.bel)
theorem Cv.st (h : Cv w0 W X a t c g gs ns cl M) : Mi W gs ns (fsI cl) := h.st0.below (by rw [h.eX]; exact h.bel)
theorem Cv.below (h : Cv w0 W X a t c g gs ns cl M) (hb : Below W.heap.size W W') : Cv w0 W' X a t c g gs ns cl M :=
  ⟨h.rz0, h.st0, h.eX, h.bel.trans (hb.mono (Nat.le_of_lt h.box.lt)), h.box.below hb, h.sb.below hb, h.gf.below hb, h.mb.below hb, h.cf.below hb, h.ms.below hb⟩
theorem Cv.mark (h : Cv w0 W X a t c g gs ns cl M) (p m : Nat) (hp : p < t.length) (hm : m ≤ 2) (hM : ∀ q, (M q).isSome = true → 0 ≤ q ∧ q < (t.length : Int)) : ∃ w', (Instr.mapUpdate 45 (.map (some (X + 3))) (.int .i64 (p : Int)) (.int .i64 (m : Int))).run Tryd.prog W = .ok () w' ∧ Cv w0 w' X a t c g gs ns cl (upI M (p : Int) m) ∧ W.grownBy w' (some (X + 3)) := by
  have hb := h.rz.bnd
  obtain ⟨w', r1, r2, r3⟩ := h.ms.put (x := (p : Int)) (by omega) (by omega) (by unfold maxLen; omega) m (by omega)
  refine ⟨w', r1, ⟨h.rz0, h.st0, h.eX, h.bel.grown r3 (Nat.le_of_lt h.box.lt) (fun k hk => by cases hk; omega), h.box.kept r3 (by simp), h.sb.kept r3 (by simp), h.gf.kept r3 (by simp), h.mb.kept r3 (by simp), h.cf.kept r3 (by simp), r2.fit fun q hq => ?_⟩, r3⟩
  unfold upI at hq
  split at hq
  · rename_i e; subst e; omega
  · exact hM q hq
end
end Go.Proofs.YtofojjdegobekaaDoor
set_option linter.unusedSimpArgs false
set_option linter.unusedVariables false
namespace Go.Proofs.YtofojjdegobekaaDoor
open Go Go.RowKit
/-- the state of the loop of firsts -/
structure FsL (w wr : World) (X : Nat) (zs : List Int) (k : Nat) : Prop where
  ms : Mi wr X k (fsI (zs.take k))
  bel : Below X w wr
theorem FsL.more {w wr : World} {X : Nat} {zs : List Int} {k : Nat} (h : FsL w wr X zs k) (hX : X < wr.heap.size) (hk : k < zs.length) (hb : k < 1000000000000000) (h1 : -9223372036854775808 ≤ zs.getD k 0) (h2 : zs.getD k 0 ≤ 9223372036854775807) (hn : (fsI (zs.take k) (zs.getD k 0)).isSome = false) :
    ∃ w', (Instr.mapUpdate 45 (.map (some X)) (.int .i64 (zs.getD k 0)) (.int .i64 (k : Int))).run Tryd.prog wr = .ok () w' ∧ FsL w w' X zs (k + 1) := by
  obtain ⟨w', r1, r2, r3⟩ := h.ms.put h1 h2 (by unfold maxLen; omega) k (by omega)
  have e : upI (fsI (zs.take k)) (zs.getD k 0) k = fsI (zs.take (k + 1)) := by
    funext y
    rw [fsI_more hk y, hn]; rfl
  exact ⟨w', r1, ⟨by rw [← e]; exact r2, h.bel.grown r3 (Nat.le_of_lt hX) (fun j hj => by cases hj; exact Nat.le_refl _)⟩⟩
set_option maxRecDepth 100000 in
set_option maxHeartbeats 3200000 in
theorem firsts_any (vc : Value) (zs : List Int) (w : World) (hz : Rd w vc zs) (hf : zs.all fmd = true) :
    Calls Tryd.prog 25 #[vc] w fun e w' => e = .returned (.map (some w.heap.size)) ∧ Mi w' w.heap.size zs.length (fsI zs) ∧ Below w.heap.size w w' := by
  have hl := hz.len
  have HZ : Hid (Rd w vc zs) := hz
  obtain ⟨ua, uc, rfl, huc, hum, _⟩ := hz.form
  obtain ⟨X, hX⟩ : ∃ X, w.heap.size = X := ⟨_, rfl⟩
  have HFm : Hid (∀ x ∈ zs, fmd x = true) := List.all_eq_true.1 hf
  obtain ⟨w1, hw1⟩ : ∃ w1, w.alloc (.map #[] 0) = w1 := ⟨_, rfl⟩
  have HS : Hid (FsL w w1 X zs 0) := by
    rw [← hw1, ← hX]
    exact ⟨Mi.made w, below_box _ _⟩
  have hmake : (Instr.makeMap 45 (some (.int .i64 (zs.length : Int)))).run Tryd.prog w = .ok (.map (some X)) w1 := by rw [← hw1, ← hX]; simp [Instr.makeMap, run_underlying Tryd.underlying45, asInt, asIntOf, Result.andThen]
  rw [hX]
  clear hz hf hw1
  go_enter Tryd.func25, Tryd.ntmps25
  go_wp2_with fail
  go_loopg [13] zs.length (fun g' i wr => ∃ k : Nat, k + g' = zs.length ∧ i = .int .i64 k ∧ Hid (FsL w wr X zs k))
  case atStart => exact ⟨0, by omega, rfl, HS.out⟩
  case round =>
    obtain ⟨k, hk, rfl, HL⟩ := hrel
    have HK : Hid (k + gk = zs.length) := hk
    by_cases hlt : k < zs.length
    · obtain ⟨ua', uc', e', _, _, hcell⟩ := (HZ.out.below (by rw [hX]; exact HL.out.bel)).form
      injection e' with q1 q2 q3
      subst q1 q3
      obtain ⟨b2, off2, rfl, hck⟩ := hcell k hlt
      have hr := fmd_range (HFm.out _ (getD_mem' (l := zs) (k := k) (d := 0) hlt))
      have hlk := HL.out.ms.look (x := zs.getD k 0) (by omega) (by omega)
      have hXl := HL.out.ms.lt
      cases hn : (fsI (zs.take k) (zs.getD k 0)).isSome
      · obtain ⟨w5, hrun5, h5⟩ := HL.out.more hXl hlt (by omega) (by omega) (by omega) hn
        have H5 : Hid (FsL w w5 X zs (k + 1)) := h5
        rw [hn] at hlk
        clear hk hcell hr h5 hn
        generalize (fsI (zs.take k) (zs.getD k 0)).getD 0 = fv at *
        generalize zs.getD k 0 = y at *
        go_wp2_with fail
        go_roundg (gk - 1)
        case measure => have := HK.out; omega
        case rel => exact ⟨k + 1, by have := HK.out; omega, by go_num, H5.out⟩
      · have H5 : Hid (FsL w wr X zs (k + 1)) := by
          have e : fsI (zs.take (k + 1)) = fsI (zs.take k) := by
            funext y
            rw [fsI_more hlt y, hn]; rfl
          obtain ⟨D, d1, d2⟩ := HL.out.ms
          exact ⟨by rw [e]; exact ⟨D, d1.mono (by omega), d2⟩, HL.out.bel⟩
        rw [hn] at hlk
        clear hk hcell hr hn
        generalize (fsI (zs.take k) (zs.getD k 0)).getD 0 = fv at *
        generalize zs.getD k 0 = y at *
        go_wp2_with fail
        go_roundg (gk - 1)
        case measure => have := HK.out; omega
        case rel => exact ⟨k + 1, by have := HK.out; omega, by go_num, H5.out⟩
    · obtain rfl : k = zs.length := by omega
      have HE : Hid (Mi wr X zs.length (fsI zs)) := by have := HL.out.ms; rw [List.take_length] at this; exact this
      clear hk
      go_wp2_with fail
      go_ret
      exact ⟨rfl, HE.out, HL.out.bel⟩
end Go.Proofs.YtofojjdegobekaaDoor
set_option linter.unusedSimpArgs false
set_option linter.unusedVariables false
namespace Go.Proofs.YtofojjdegobekaaDoor
open Go
theorem cn_filter (t : List Ent) (L : Int) (T : Int → Bool) : ∀ n, cn t L T n = ((List.range n).filter fun (p : Nat) => T (p : Int) && lvP t p == L).length
  | 0 => rfl
  | n + 1 => by
    unfold cn
    rw [List.range_succ, List.filter_append, List.length_append, cn_filter t L T n]
    congr 1
    rw [List.filter_cons, List.filter_nil]
    by_cases e : (T (n : Int) && lvP t n == L) = true
    · rw [if_pos e, if_pos e]; rfl
    · rw [if_neg e, if_neg e]; rfl
section
variable {t : List Ent} {L : Int} {T : Int → Bool}
theorem Ws.ltS_nodup (h : Ws t) (T : Int → Bool) : (ltS t T).Nodup := by
  unfold ltS
  have hn : ((List.range t.length).filter fun (p : Nat) => T (p : Int)).Nodup := List.nodup_range.filter _
  unfold List.Nodup
  rw [List.pairwise_map]
  refine List.Pairwise.imp_of_mem ?_ hn
  intro p q hp hq hne e
  have h1 := List.mem_range.1 (List.mem_filter.1 hp).1
  have h2 := List.mem_range.1 (List.mem_filter.1 hq).1
  exact hne (h.opP_inj h1 h2 e)
theorem Ws.ltS_fmd (h : Ws t) {x : Int} (hx : x ∈ ltS t T) : fmd x = true := by
  obtain ⟨p, h1, _, rfl⟩ := ltS_mem.1 hx
  exact (h.opP_at h1).1
theorem tid_nodup (zs : List Int) : (tid zs).Nodup := (tid_rising zs).imp fun {a b} h e => by subst e; omega
theorem Ws.tid_ltS (h : Ws t) {x : Int} : x ∈ tid (ltS t T) ↔ ∃ p : Nat, p < t.length ∧ T (p : Int) = true ∧ opP t p = x := by
  rw [mem_tid]
  constructor
  · rintro ⟨h1, _⟩; exact ltS_mem.1 h1
  · intro h1; exact ⟨ltS_mem.2 h1, h.ltS_fmd (ltS_mem.2 h1)⟩
/-- how many of level L -/
theorem Ws.tid_cn (h : Ws t) : ((tid (ltS t T)).filter fun x => lvl t x == L).length = cn t L T t.length := by
  have hp : (tid (ltS t T)).Perm (ltS t T) := (List.perm_ext_iff_of_nodup (tid_nodup _) (h.ltS_nodup T)).2 fun x => by
    rw [mem_tid]; exact ⟨fun q => q.1, fun q => ⟨q, h.ltS_fmd q⟩⟩
  rw [(hp.filter _).length_eq, cn_filter]
  unfold ltS
  rw [List.filter_map, List.length_map, List.filter_filter]
  congr 1
  refine List.filter_congr fun p hpr => ?_
  show (lvl t (opP t p) == L && T (p : Int)) = _
  rw [h.lvl_opP (List.mem_range.1 hpr), Bool.and_comm]
/-- the last of level L -/
structure LastP (t : List Ent) (L : Int) (c : List Int) (one : Int) : Prop where
  has : one ∈ c
  lv : lvl t one = L
  max : ∀ y ∈ c, lvl t y = L → plN t y ≤ plN t one
theorem Ws.last_at (h : Ws t) {one : Int} {k : Nat} (hi : Iv t L k T) (hl : LastP t L (tid (ltS t T)) one) : ∃ p : Nat, p < k ∧ p < t.length ∧ T (p : Int) = true ∧ opP t p = one ∧ plN t one = p ∧ lvP t p = L ∧ ∀ q : Nat, p < q → q < k → T (q : Int) = false := by
  obtain ⟨p, h1, h2, h3⟩ := h.tid_ltS.1 hl.has
  have h4 := (h.opP_at h1).2.2
  rw [h3] at h4
  have h5 : lvP t p = L := by rw [← h.lvl_opP h1, h3]; exact hl.lv
  refine ⟨p, by have := hi.bnd _ h2; omega, h1, h2, h3, h4, h5, fun q hq hqk => ?_⟩
  cases e : T (q : Int) with
  | false => rfl
  | true =>
    have hql : q < t.length := by have := hi.le; omega
    have h6 := lvP_rise h hql (Nat.le_of_lt hq)
    have h7 := hi.lev q e
    have h8 := hl.max (opP t q) (h.tid_ltS.2 ⟨q, hql, e, rfl⟩) (by rw [h.lvl_opP hql]; omega)
    rw [(h.opP_at hql).2.2, h4] at h8
    omega
/-- one step, in lists -/
theorem Ws.step_tid (h : Ws t) {p : Nat} (hp : p < t.length) (hT : ∀ q, T q = true → 0 ≤ q ∧ q < (t.length : Int)) : tid ((tid (ltS t T)).filter (fun x => x != opP t p) ++ (tid (t.getD p e0).2.2).filter (fun x => x != (t.getD p e0).1)) = tid (ltS t (adS t (outS T (p : Int)) (rOth t p))) := by
  refine tid_congr fun x hx => ?_
  rw [List.mem_append, List.mem_filter, List.mem_filter, h.tid_ltS, mem_tid, ltS_mem]
  constructor
  · rintro (⟨⟨q, q1, q2, rfl⟩, q3⟩ | ⟨⟨q1, _⟩, q3⟩)
    · have hne : q ≠ p := fun e => by subst e; simp at q3
      refine ⟨q, q1, (adS_mem t _ _ _).2 (.inl ?_), rfl⟩
      unfold outS
      rw [q2, show ((q : Int) != (p : Int)) = true by simp; omega]; rfl
    · have hm : x ∈ rOth t p := List.mem_filter.2 ⟨q1, q3⟩
      obtain ⟨h1, h2⟩ := h.rOth_at hp hm
      obtain ⟨_, h4, h5, _⟩ := h.isF_at h1
      exact ⟨plN t x, h4, (adS_mem t _ _ _).2 (.inr ⟨x, hm, rfl⟩), h5⟩
  · rintro ⟨q, q1, q2, q3⟩
    rcases (adS_mem t _ _ _).1 q2 with q4 | ⟨y, q4, q5⟩
    · unfold outS at q4
      rw [Bool.and_eq_true, bne_iff_ne] at q4
      refine .inl ⟨⟨q, q1, q4.2, q3⟩, ?_⟩
      rw [← q3, bne_iff_ne]
      exact fun e => q4.1 (by rw [h.opP_inj q1 hp e])
    · obtain ⟨h1, h2⟩ := h.rOth_at hp q4
      obtain ⟨_, h4, h5, _⟩ := h.isF_at h1
      have : plN t y = q := by omega
      rw [this, q3] at h5
      subst h5
      have := List.mem_filter.1 q4
      exact .inr ⟨⟨this.1, hx⟩, this.2⟩
theorem T0_tid (h : Ws t) {zs : List Int} (hf : falB t zs = true) : tid zs = tid (ltS t (T0 t zs)) := by
  unfold falB at hf
  rw [List.all_eq_true] at hf
  refine tid_congr fun x hx => ?_
  rw [ltS_mem]
  constructor
  · intro hm
    obtain ⟨_, h4, h5, _⟩ := h.isF_at (hf x hm)
    exact ⟨plN t x, h4, (adS_mem t _ _ _).2 (.inr ⟨x, hm, rfl⟩), h5⟩
  · rintro ⟨p, h1, h2, rfl⟩
    rcases (adS_mem t _ _ _).1 h2 with q | ⟨y, q1, q2⟩
    · cases q
    · obtain ⟨_, _, h5, _⟩ := h.isF_at (hf y q1)
      have : plN t y = p := by omega
      rw [this] at h5
      rw [h5]; exact q1
/-- the end, in lists -/
theorem Ws.end_tid (h : Ws t) (hi : Iv t L t.length T) (hc : cn t L T t.length = 1) (hL : L ≠ 0) {one : Int} (hl : LastP t L (tid (ltS t T)) one) : one = oneL t L T ∧ (tid (ltS t T)).filter (fun x => x != one && decide (0 < lvl t x)) = tid (othL t L T) := by
  have e1 := (Pr.fin (left := fun _ => false) (O := othL t L T) (C := [one]) ⟨fun q hq => (by cases hq), fun x => ?_, fun x => ?_, (by simp)⟩ h (fun _ => rfl) hc).1
  · have e2 : one = oneL t L T := by simpa using e1
    refine ⟨e2, ?_⟩
    refine rising_unique ((tid_rising _).filter _) (tid_rising _) fun x => ?_
    rw [List.mem_filter, h.tid_ltS, mem_tid]
    unfold othL
    rw [List.mem_filter, ltS_mem]
    constructor
    · rintro ⟨⟨p, h1, h2, rfl⟩, h3⟩
      rw [h.lvl_opP h1] at h3 ⊢
      rw [Bool.and_eq_true, bne_iff_ne, decide_eq_true_eq] at h3
      refine ⟨⟨⟨p, h1, h2, rfl⟩, ?_⟩, (h.opP_at h1).1⟩
      rw [Bool.and_eq_true, bne_iff_ne, bne_iff_ne]
      refine ⟨by omega, fun e => h3.1 ?_⟩
      obtain ⟨q, _, q1, q2, q3, _, q5, _⟩ := h.last_at hi hl
      rw [← q3, cn_one t L T t.length hc h1 q1 h2 q2 e q5]
    · rintro ⟨⟨⟨p, h1, h2, rfl⟩, h3⟩, _⟩
      rw [h.lvl_opP h1] at h3 ⊢
      rw [Bool.and_eq_true, bne_iff_ne, bne_iff_ne] at h3
      refine ⟨⟨p, h1, h2, rfl⟩, ?_⟩
      rw [Bool.and_eq_true, bne_iff_ne, decide_eq_true_eq]
      refine ⟨fun e => h3.2 ?_, ?_⟩
      · rw [← h.lvl_opP h1, e]; exact hl.lv
      · have := (h.lev p h1).1
        have e : lvP t p = (t.getD p e0).2.1 := rfl
        omega
  · unfold othL
    rw [List.mem_filter, ltS_mem]
    constructor
    · rintro ⟨⟨p, h1, h2, rfl⟩, h3⟩
      rw [h.lvl_opP h1] at h3
      simp at h3
      exact ⟨p, h1, h2, rfl, h3.1, h3.2, rfl⟩
    · rintro ⟨p, h1, h2, _, h3, h4, rfl⟩
      refine ⟨⟨p, h1, h2, rfl⟩, ?_⟩
      rw [h.lvl_opP h1]; simp [h3, h4]
  · obtain ⟨q, _, q1, q2, q3, _, q5, _⟩ := h.last_at hi hl
    constructor
    · intro hx
      rw [List.mem_singleton.1 hx]
      exact ⟨q, q1, q2, rfl, q5, q3⟩
    · rintro ⟨p, h1, h2, _, h3, rfl⟩
      rw [cn_one t L T t.length hc h1 q1 h2 q2 h3 q5, q3]; simp
end
end Go.Proofs.YtofojjdegobekaaDoor
set_option linter.unusedSimpArgs false
set_option linter.unusedVariables false
namespace Go.Proofs.YtofojjdegobekaaDoor
open Go Go.RowKit
theorem filter_yes {zs : List Int} {q : Int → Bool} {k : Nat} (h : k < zs.length) (hq : q (zs.getD k 0) = true) : (zs.take (k + 1)).filter q = (zs.take k).filter q ++ [zs.getD k 0] := by
  rw [take_succ_getD zs 0 k h, List.filter_append, List.filter_cons, if_pos hq]; rfl
theorem filter_no {zs : List Int} {q : Int → Bool} {k : Nat} (h : k < zs.length) (hq : q (zs.getD k 0) = false) : (zs.take (k + 1)).filter q = (zs.take k).filter q := by
  rw [take_succ_getD zs 0 k h, List.filter_append, List.filter_cons, if_neg (by rw [hq]; simp)]; simp
/-- the last one so far -/
def LaS (t : List Ent) (L : Int) (c : List Int) (one : Int) : Prop := ((c.filter fun x => lvl t x == L).length = 0 ∧ one = 0) ∨ (0 < (c.filter fun x => lvl t x == L).length ∧ LastP t L c one)
theorem LaS.skip {t : List Ent} {L : Int} {c : List Int} {one : Int} {k : Nat} (hk : k < c.length) (h : LaS t L (c.take k) one) (hn : lvl t (c.getD k 0) ≠ L) : LaS t L (c.take (k + 1)) one := by
  have e := filter_no (q := fun x => lvl t x == L) hk (by simpa using hn)
  unfold LaS at h ⊢
  rw [e]
  rcases h with h | ⟨h1, h2⟩
  · exact .inl h
  · refine .inr ⟨h1, ?_, h2.lv, ?_⟩
    · rw [take_succ_getD c 0 k hk]; exact List.mem_append_left _ h2.has
    · intro y hy hl
      rw [take_succ_getD c 0 k hk] at hy
      rcases List.mem_append.1 hy with q | q
      · exact h2.max y q hl
      · rw [List.mem_singleton.1 q] at hl; exact absurd hl hn
theorem LaS.take' {t : List Ent} {L : Int} {c : List Int} {one : Int} {k : Nat} (hk : k < c.length) (h : LaS t L (c.take k) one) (hl : lvl t (c.getD k 0) = L) (hp : one = 0 ∨ plN t one < plN t (c.getD k 0)) (hne : ∀ x ∈ c, x ≠ 0) : LaS t L (c.take (k + 1)) (c.getD k 0) := by
  have e := filter_yes (q := fun x => lvl t x == L) hk (by simpa using hl)
  unfold LaS at h ⊢
  rw [e]
  refine .inr ⟨by simp, ?_, hl, ?_⟩
  · rw [take_succ_getD c 0 k hk]; simp
  · intro y hy hly
    rw [take_succ_getD c 0 k hk] at hy
    rcases List.mem_append.1 hy with q | q
    · rcases h with h | ⟨h1, h2⟩
      · have : y ∈ (c.take k).filter fun x => lvl t x == L := List.mem_filter.2 ⟨q, by simpa using hly⟩
        rw [List.length_eq_zero_iff.1 h.1] at this
        cases this
      · have := h2.max y q hly
        rcases hp with hp | hp
        · exact absurd hp (hne one (List.mem_of_mem_take h2.has))
        · omega
    · rw [List.mem_singleton.1 q]; exact Nat.le_refl _
theorem LaS.keep {t : List Ent} {L : Int} {c : List Int} {one : Int} {k : Nat} (hk : k < c.length) (h : LaS t L (c.take k) one) (hl : lvl t (c.getD k 0) = L) (h0 : one ≠ 0) (hp : plN t (c.getD k 0) ≤ plN t one) : LaS t L (c.take (k + 1)) one := by
  have e := filter_yes (q := fun x => lvl t x == L) hk (by simpa using hl)
  unfold LaS at h ⊢
  rw [e]
  rcases h with h | ⟨h1, h2⟩
  · exact absurd h.2 h0
  · refine .inr ⟨by simp, ?_, h2.lv, ?_⟩
    · rw [take_succ_getD c 0 k hk]; exact List.mem_append_left _ h2.has
    · intro y hy hly
      rw [take_succ_getD c 0 k hk] at hy
      rcases List.mem_append.1 hy with q | q
      · exact h2.max y q hly
      · rw [List.mem_singleton.1 q]; exact hp
theorem plI_plN {t : List Ent} (h : Ws t) {x : Int} (hx : isF t x = true) : plI t x = (plN t x : Int) := plI_some (h.isF_at hx).2.2.2.2
end Go.Proofs.YtofojjdegobekaaDoor
set_option linter.unusedSimpArgs false
set_option linter.unusedVariables false
namespace Go.Proofs.YtofojjdegobekaaDoor
open Go Go.RowKit
def tA : List Ent := [(1, 1, []), (2, 1, [2, -1]), (3, 2, []), (4, 2, [4, -3, -2]), (5, 2, [5, -4])]
theorem tA_ask : askI tA [-5, -3] = 0 := by decide +kernel
theorem tA_lrn : lrnC tA [-5, -3] = [-3, -2] := by decide +kernel
theorem tA_back : lrnB tA [-5, -3] = 1 := by decide +kernel
/-- a list that has just been made -/
theorem own_made (w : World) (zs : List Int) : Own w.heap.size (w.alloc (.cells (zs.map (Value.int .i64)).toArray 3)) (.slice (some ⟨w.heap.size, 0, none⟩) zs.length zs.length) zs ∨ maxLen < zs.length := by
  by_cases h : zs.length ≤ maxLen
  · exact .inl ⟨by simp, .inr ⟨w.heap.size, zs.length, (zs.map (Value.int .i64)).toArray, rfl, Nat.le_refl _, World.alloc_heap_new w _, Nat.le_refl _, h, by simp, by rw [Nat.mul_one]; exact List.take_of_length_le (by simp)⟩⟩
  · exact .inr (by omega)
theorem own_made' (w : World) (zs : List Int) (h : zs.length ≤ 10) : Own w.heap.size (w.alloc (.cells (zs.map (Value.int .i64)).toArray 3)) (.slice (some ⟨w.heap.size, 0, none⟩) zs.length zs.length) zs := by
  rcases own_made w zs with q | q
  · exact q
  · unfold maxLen at q; omega
/-- the trail of awake, in memory -/
theorem awake_mem (w : World) : ∃ w4, (((w.alloc (.cells #[.int .i64 2, .int .i64 (-1)] 3)).alloc (.cells #[.int .i64 4, .int .i64 (-3), .int .i64 (-2)] 3)).alloc (.cells #[.int .i64 5, .int .i64 (-4)] 3)).alloc
    (.cells #[.int .i64 1, .int .i64 1, .slice none 0 0, .int .i64 2, .int .i64 1, .slice (some ⟨w.heap.size, 0, none⟩) 2 2, .int .i64 3, .int .i64 2, .slice none 0 0, .int .i64 4, .int .i64 2, .slice (some ⟨w.heap.size + 1, 0, none⟩) 3 3, .int .i64 5, .int .i64 2, .slice (some ⟨w.heap.size + 2, 0, none⟩) 2 2] 44) = w4 ∧
    RdE w4 (.slice (some ⟨w.heap.size + 3, 0, none⟩) 5 5) tA ∧ Below w.heap.size w w4 := by
  refine ⟨_, rfl, ?_⟩
  have o1 := own_made' w [2, -1] (by decide)
  have k1 := below_box w (.cells #[.int .i64 2, .int .i64 (-1)] 3)
  have s1 : (w.alloc (.cells #[.int .i64 2, .int .i64 (-1)] 3)).heap.size = w.heap.size + 1 := by simp
  have o1 : Own w.heap.size (w.alloc (.cells #[.int .i64 2, .int .i64 (-1)] 3)) (.slice (some ⟨w.heap.size, 0, none⟩) 2 2) [2, -1] := o1
  generalize w.alloc (.cells #[.int .i64 2, .int .i64 (-1)] 3) = w1 at *
  have o2 : Own w1.heap.size (w1.alloc (.cells #[.int .i64 4, .int .i64 (-3), .int .i64 (-2)] 3)) (.slice (some ⟨w1.heap.size, 0, none⟩) 3 3) [4, -3, -2] := own_made' w1 [4, -3, -2] (by decide)
  have k2 := below_box w1 (.cells #[.int .i64 4, .int .i64 (-3), .int .i64 (-2)] 3)
  have s2 : (w1.alloc (.cells #[.int .i64 4, .int .i64 (-3), .int .i64 (-2)] 3)).heap.size = w.heap.size + 2 := by simp [s1]
  rw [s1] at o2
  generalize w1.alloc (.cells #[.int .i64 4, .int .i64 (-3), .int .i64 (-2)] 3) = w2 at *
  have o3 : Own w2.heap.size (w2.alloc (.cells #[.int .i64 5, .int .i64 (-4)] 3)) (.slice (some ⟨w2.heap.size, 0, none⟩) 2 2) [5, -4] := own_made' w2 [5, -4] (by decide)
  have k3 := below_box w2 (.cells #[.int .i64 5, .int .i64 (-4)] 3)
  have s3 : (w2.alloc (.cells #[.int .i64 5, .int .i64 (-4)] 3)).heap.size = w.heap.size + 3 := by simp [s2]
  rw [s2] at o3
  generalize w2.alloc (.cells #[.int .i64 5, .int .i64 (-4)] 3) = w3 at *
  have k4 := below_box w3 (.cells #[.int .i64 1, .int .i64 1, .slice none 0 0, .int .i64 2, .int .i64 1, .slice (some ⟨w.heap.size, 0, none⟩) 2 2, .int .i64 3, .int .i64 2, .slice none 0 0, .int .i64 4, .int .i64 2, .slice (some ⟨w.heap.size + 1, 0, none⟩) 3 3, .int .i64 5, .int .i64 2, .slice (some ⟨w.heap.size + 2, 0, none⟩) 2 2] 44)
  have cel : ∀ j v, (#[.int .i64 1, .int .i64 1, .slice none 0 0, .int .i64 2, .int .i64 1, .slice (some ⟨w.heap.size, 0, none⟩) 2 2, .int .i64 3, .int .i64 2, .slice none 0 0, .int .i64 4, .int .i64 2, .slice (some ⟨w.heap.size + 1, 0, none⟩) 3 3, .int .i64 5, .int .i64 2, .slice (some ⟨w.heap.size + 2, 0, none⟩) 2 2] : Array Value)[j]? = some v → (w3.alloc (.cells #[.int .i64 1, .int .i64 1, .slice none 0 0, .int .i64 2, .int .i64 1, .slice (some ⟨w.heap.size, 0, none⟩) 2 2, .int .i64 3, .int .i64 2, .slice none 0 0, .int .i64 4, .int .i64 2, .slice (some ⟨w.heap.size + 1, 0, none⟩) 3 3, .int .i64 5, .int .i64 2, .slice (some ⟨w.heap.size + 2, 0, none⟩) 2 2] 44)).cell? ⟨w.heap.size + 3, j, none⟩ = some v := fun j v h => by
    rw [← s3, World.cell?_alloc_mark]; exact h
  have hlt : w.heap.size + 3 < (w3.alloc (.cells #[.int .i64 1, .int .i64 1, .slice none 0 0, .int .i64 2, .int .i64 1, .slice (some ⟨w.heap.size, 0, none⟩) 2 2, .int .i64 3, .int .i64 2, .slice none 0 0, .int .i64 4, .int .i64 2, .slice (some ⟨w.heap.size + 1, 0, none⟩) 3 3, .int .i64 5, .int .i64 2, .slice (some ⟨w.heap.size + 2, 0, none⟩) 2 2] 44)).heap.size := by simp [s3]
  generalize w3.alloc (.cells #[.int .i64 1, .int .i64 1, .slice none 0 0, .int .i64 2, .int .i64 1, .slice (some ⟨w.heap.size, 0, none⟩) 2 2, .int .i64 3, .int .i64 2, .slice none 0 0, .int .i64 4, .int .i64 2, .slice (some ⟨w.heap.size + 1, 0, none⟩) 3 3, .int .i64 5, .int .i64 2, .slice (some ⟨w.heap.size + 2, 0, none⟩) 2 2] 44) = w4 at *
  refine ⟨⟨by decide, some ⟨w.heap.size + 3, 0, none⟩, 5, rfl, by decide, by unfold maxLen; omega, fun _ => ⟨w.heap.size + 3, 0, rfl, hlt, fun j hj => ?_⟩⟩, Below.step k1 (Below.step k2 (Below.step k3 k4))⟩
  have hj5 : j < 5 := hj
  have r1 : Rd w4 (.slice (some ⟨w.heap.size, 0, none⟩) 2 2) [2, -1] := (o1.below (Below.step k2 (Below.step k3 k4))).rd (by decide)
  have r2 : Rd w4 (.slice (some ⟨w.heap.size + 1, 0, none⟩) 3 3) [4, -3, -2] := (o2.below (Below.step k3 k4)).rd (by decide)
  have r3 : Rd w4 (.slice (some ⟨w.heap.size + 2, 0, none⟩) 2 2) [5, -4] := (o3.below k4).rd (by decide)
  match j, hj5 with
  | 0, _ => exact ⟨_, cel 0 _ rfl, cel 1 _ rfl, cel 2 _ rfl, Rd.nil _⟩
  | 1, _ => exact ⟨_, cel 3 _ rfl, cel 4 _ rfl, cel 5 _ rfl, r1⟩
  | 2, _ => exact ⟨_, cel 6 _ rfl, cel 7 _ rfl, cel 8 _ rfl, Rd.nil _⟩
  | 3, _ => exact ⟨_, cel 9 _ rfl, cel 10 _ rfl, cel 11 _ rfl, r2⟩
  | 4, _ => exact ⟨_, cel 12 _ rfl, cel 13 _ rfl, cel 14 _ rfl, r3⟩
set_option maxRecDepth 100000 in
set_option maxHeartbeats 3200000 in
theorem awake15_any (w : World) : Calls Tryd.prog 5 #[] w fun e w' => e = .returned (.bool true) ∧ Below w.heap.size w w' := by
  obtain ⟨w4, hw4, hrd, hbl⟩ := awake_mem w
  obtain ⟨X, hX⟩ : ∃ X, w.heap.size = X := ⟨_, rfl⟩
  rw [hX] at hw4 hrd hbl ⊢
  have HW4 : Hid ((((w.alloc (.cells #[.int .i64 2, .int .i64 (-1)] 3)).alloc (.cells #[.int .i64 4, .int .i64 (-3), .int .i64 (-2)] 3)).alloc (.cells #[.int .i64 5, .int .i64 (-4)] 3)).alloc
    (.cells #[.int .i64 1, .int .i64 1, .slice none 0 0, .int .i64 2, .int .i64 1, .slice (some ⟨X, 0, none⟩) 2 2, .int .i64 3, .int .i64 2, .slice none 0 0, .int .i64 4, .int .i64 2, .slice (some ⟨X + 1, 0, none⟩) 3 3, .int .i64 5, .int .i64 2, .slice (some ⟨X + 2, 0, none⟩) 2 2] 44) = w4) := hw4
  have HB : Hid (Below X w w4) := hbl
  have HRd : Hid (RdE w4 (.slice (some ⟨X + 3, 0, none⟩) 5 5) tA) := hrd
  have HZ : Hid (Rd (w4.alloc (.cells #[.int .i64 (-5), .int .i64 (-3)] 3)) (.slice (some ⟨w4.heap.size, 0, none⟩) 2 2) [-5, -3]) := Own.rd (own_made' w4 [-5, -3] (by decide)) (by decide)
  have HLn : Hid (Calls Tryd.prog 6 #[.slice (some ⟨X + 3, 0, none⟩) 5 5, .slice (some ⟨w4.heap.size, 0, none⟩) 2 2] (w4.alloc (.cells #[.int .i64 (-5), .int .i64 (-3)] 3)) fun e w' => ∃ x, e = .returned (.tuple #[x, .int .i64 1, .int .i64 0]) ∧ Rd w' x [-3, -2] ∧ Below X w w') :=
    (learn_any _ _ tA [-5, -3] _ (HRd.out.below (below_box _ _)) HZ.out).mono fun e w' ⟨⟨x, h3, h4⟩, h5⟩ => by
      rw [tA_ask, if_pos rfl, tA_back] at h3
      rw [tA_ask, if_pos rfl, tA_lrn] at h4
      have hb := Below.step (below_box w4 (.cells #[.int .i64 (-5), .int .i64 (-3)] 3)) h5
      exact ⟨x, h3, h4.rd (by decide), HB.out.trans (hb.mono (by rw [← hX]; exact (show w.heap.size ≤ w4.heap.size from HB.out.size)))⟩
  have HSm : Hid (∀ W x, Rd W x [-3, -2] → Calls Tryd.prog 16 #[x, .slice (some ⟨W.heap.size, 0, none⟩) 2 2] (W.alloc (.cells #[.int .i64 (-3), .int .i64 (-2)] 3)) fun e w' => e = .returned (.bool true) ∧ Below W.heap.size W w') := fun W x h => by
    have q := sameInts_any x (.slice (some ⟨W.heap.size, 0, none⟩) 2 2) [-3, -2] [-3, -2] (W.alloc (.cells #[.int .i64 (-3), .int .i64 (-2)] 3)) (h.below (below_box _ _)) (Own.rd (own_made' W [-3, -2] (by decide)) (by decide))
    rw [show (([-3, -2] : List Int) == [-3, -2]) = true by decide] at q
    exact q.mono fun e w' ⟨h1, h2⟩ => ⟨h1, Below.step (below_box _ _) h2⟩
  clear hw4 hrd hbl
  go_enter Tryd.func5, Tryd.ntmps5
  go_upto_region 2 with fail
  simp only [Nat.add_assoc, Nat.reduceAdd]
  rw [HW4.out]
  clear HW4
  go_wp2_with (first
    | (go_at_call 6; refine HLn.out.mono ?_; rintro e w6 ⟨x6, rfl, r6, b6⟩; have H6 : Hid (Rd w6 x6 [-3, -2] ∧ Below X w w6) := ⟨r6, b6⟩; clear r6 b6)
    | (go_at_call 16; refine (HSm.out _ _ H6.out.1).mono ?_; rintro e w7 ⟨rfl, b7⟩; have H7 : Hid (Below X w w7) := H6.out.2.trans (b7.mono (by rw [← hX]; exact (show w.heap.size ≤ w6.heap.size from H6.out.2.size))); clear b7))
  go_ret
  exact ⟨rfl, H7.out⟩
end Go.Proofs.YtofojjdegobekaaDoor
set_option linter.unusedSimpArgs false
set_option linter.unusedVariables false
namespace Go.Proofs.YtofojjdegobekaaDoor
open Go Go.RowKit
theorem fmd_not (x : Int) : fmd x = !(x == 0 || decide (1048576 < x) || decide (x < -1048576)) := by
  rcases fmd_cases x with ⟨h, h0, h1, h2⟩ | ⟨h, h0⟩
  · rw [h, beq_eq_false_iff_ne.2 h0, decide_eq_false (by omega), decide_eq_false (by omega)]; rfl
  · rw [h]
    rcases h0 with h0 | h0 | h0
    · rw [h0]; rfl
    · rw [decide_eq_true h0]; simp
    · rw [decide_eq_true h0]; simp
set_option maxHeartbeats 1600000 in
theorem shaped15_any (v : Value) (zs : List Int) (w : World) (hr : Rd w v zs) :
    Calls Tryd.prog 10 #[v] w fun e w' => e = .returned (.bool (zs.all fmd)) ∧ w' = w := by
  have hl := hr.len
  obtain ⟨a, c, rfl, hc, hm, hcell⟩ := hr.form
  have HC : Hid (∀ k, k < zs.length → ∃ b off, a = some ⟨b, off, none⟩ ∧ w.cell? ⟨b, off + k, none⟩ = some (.int .i64 (zs.getD k 0))) := hcell
  clear hcell hr
  go_enter Tryd.func10, Tryd.ntmps10
  go_wp2
  go_loopg [3] zs.length (fun g i wr => ∃ k : Nat, k + g = zs.length ∧ i = .int .i64 k ∧ (zs.take k).all fmd = true ∧ wr = w)
  case atStart => exact ⟨0, by omega, rfl, rfl, rfl⟩
  case round =>
    obtain ⟨k, hk, rfl, hall, rfl⟩ := hrel
    have HA : Hid ((zs.take k).all fmd = true) := hall
    have HK : Hid (k + gk = zs.length) := hk
    clear hall
    by_cases hlt : k < zs.length
    · obtain ⟨b, off, rfl, hck⟩ := HC.out k hlt
      have HS : Hid ((zs.take (k + 1)).all fmd = ((zs.take k).all fmd && fmd (zs.getD k 0))) := all_take_succ zs k hlt
      rcases fmd_cases (zs.getD k 0) with ⟨hf, h0, h1, h2⟩ | ⟨hf, h0⟩
      · have HT : Hid ((zs.take (k + 1)).all fmd = true) := by show _ = _; rw [HS.out, HA.out, hf]; rfl
        have h0b : (zs.getD k 0 == 0) = false := by simpa using h0
        have h1' : ¬ 1048576 < zs.getD k 0 := by omega
        have h2' : ¬ zs.getD k 0 < -1048576 := by omega
        clear hk hf h0 h1 h2
        generalize zs.getD k 0 = z at *
        go_wp2
        go_roundg (gk - 1)
        case measure => have := HK.out; omega
        case rel => exact ⟨k + 1, by have := HK.out; omega, by go_num, HT.out, rfl⟩
      · have HF : Hid (zs.all fmd = false) := all_false_of hlt hf
        clear hk hf
        generalize zs.getD k 0 = z at *
        rcases h0 with h0 | h0 | h0
        · have h0b : (z == 0) = true := by simpa using h0
          go_wp2
          go_ret
          exact ⟨ret_bool HF.out.symm, rfl⟩
        · have h0b : (z == 0) = false := by simp; omega
          have h1' : ¬ 1048576 < z := by omega
          go_wp2
          go_ret
          exact ⟨ret_bool HF.out.symm, rfl⟩
        · have h0b : (z == 0) = false := by simp; omega
          go_wp2
          go_ret
          exact ⟨ret_bool HF.out.symm, rfl⟩
    · obtain rfl : k = zs.length := by omega
      have HE : Hid (zs.all fmd = true) := by have := HA.out; rw [List.take_length] at this; exact this
      clear hk
      go_wp2
      go_ret
      exact ⟨ret_bool HE.out.symm, rfl⟩
/-- what is learnt: the first literal alone of the greatest level, none of level 0, the others rising -/
theorem lrn_is {t : List Ent} (h : Ws t) {zs : List Int} (hf : falB t zs = true) (hL : topI t zs ≠ 0) :
    (∀ x ∈ lrnC t zs, isF t x = true ∧ 1 ≤ lvl t x) ∧ 0 < (lrnC t zs).length ∧ (∀ i, i < (lrnC t zs).length → (lvl t ((lrnC t zs).getD i 0) = topI t zs ↔ i = 0)) ∧ ((lrnC t zs).drop 1).Pairwise (fun a b => idx a < idx b) ∧ lrnB t zs = topI t ((lrnC t zs).drop 1) ∧ 0 ≤ lrnB t zs ∧ lrnB t zs < topI t zs := by
  obtain ⟨hc, hi⟩ := RS_end h hf hL
  have hLp : 0 < topI t zs := by have := (topI_is t zs).1; omega
  have e1 : lrnC t zs = oneL t (topI t zs) (RS t zs) :: tid (othL t (topI t zs) (RS t zs)) := by unfold lrnC; rw [if_neg hL]
  have e2 : lrnB t zs = topI t (othL t (topI t zs) (RS t zs)) := by unfold lrnB; rw [if_neg hL]
  generalize topI t zs = L at *
  generalize RS t zs = R at *
  obtain ⟨p, h1, h2, h3⟩ := cn_pos t L R t.length (by omega)
  have hone : oneL t L R = opP t p := by
    have hl : opP t p ∈ (ltS t R).filter fun x => lvl t x == L := List.mem_filter.2 ⟨ltS_mem.2 ⟨p, h1, h2, rfl⟩, by rw [h.lvl_opP h1, h3]; simp⟩
    have hall : ∀ x ∈ (ltS t R).filter (fun x => lvl t x == L), x = opP t p := fun x hx => by
      obtain ⟨k1, k2⟩ := List.mem_filter.1 hx
      obtain ⟨q, q1, q2, rfl⟩ := ltS_mem.1 k1
      rw [h.lvl_opP q1] at k2
      rw [cn_one t L R t.length hc q1 h1 q2 h2 (by simpa using k2) h3]
    unfold oneL
    generalize (ltS t R).filter (fun x => lvl t x == L) = l at hl hall
    match l, hl with
    | y :: r, _ => exact hall y (by simp)
  have hoth : ∀ x ∈ tid (othL t L R), isF t x = true ∧ 1 ≤ lvl t x ∧ lvl t x < L := fun x hx => by
    obtain ⟨k1, k2⟩ := List.mem_filter.1 (mem_tid.1 hx).1
    obtain ⟨q, q1, q2, rfl⟩ := ltS_mem.1 k1
    rw [Bool.and_eq_true, bne_iff_ne, bne_iff_ne] at k2
    have hv := h.lvl_opP q1
    have := hi.lev q q2
    have := (h.lev q q1).1
    have e : lvP t q = (t.getD q e0).2.1 := rfl
    exact ⟨(h.opP_at q1).2.1, by omega, by omega⟩
  have hcg : topI t (othL t L R) = topI t (tid (othL t L R)) := topI_congr t fun x => ⟨fun hx => mem_tid.2 ⟨hx, h.ltS_fmd (List.mem_filter.1 hx).1⟩, fun hx => (mem_tid.1 hx).1⟩
  have hlt : topI t (othL t L R) < L := by
    rcases (topI_is t (tid (othL t L R))).2.2 with e | ⟨x, hx, e⟩
    · omega
    · have := (hoth x hx).2.2; omega
  rw [e1, e2, hone]
  refine ⟨fun x hx => ?_, by simp, fun i hi' => ?_, ?_, ?_, ?_, hlt⟩
  · rcases List.mem_cons.1 hx with rfl | hx
    · exact ⟨(h.opP_at h1).2.1, by rw [h.lvl_opP h1]; omega⟩
    · exact ⟨(hoth x hx).1, (hoth x hx).2.1⟩
  · cases i with
    | zero =>
      simp only [List.getD_cons_zero]
      rw [h.lvl_opP h1]; simp [h3]
    | succ i =>
      simp only [List.getD_cons_succ]
      have hm := getD_mem' (l := tid (othL t L R)) (k := i) (d := 0) (by simpa using hi')
      have := (hoth _ hm).2.2
      constructor
      · intro e; omega
      · intro e; cases e
  · exact tid_rising _
  · exact hcg
  · exact (topI_is t _).1
end Go.Proofs.YtofojjdegobekaaDoor
