/-
  learn: covered.
  KEEP: len below nil form rd mono one more grown lt size cell some none of ofNat add out step row get at mk new made look put del kept drew alloc has same other map rde take lit lev lstB pre ws cells bnd on start app set box bel rz tidy ms reason c f
-/
import Derived.Test.YtkchabdlpeifjaaKLnCx
set_option linter.unusedSimpArgs false
set_option linter.unusedVariables false
namespace Go.Proofs.Ytkchabdlpeifjaa
open Go Go.RowKit
theorem cov_any {t : List Ent} (h : Ws t) {cl : List Int} {p : Nat} (hp : p < t.length) : covB t (fun x => cl.contains x) p = ((t.getD p e0).2.2.length != 0 && !((t.getD p e0).2.2.any (lkB t cl (t.getD p e0).1))) := by
  rw [h.cov hp]
  congr 1
  unfold lkB
  rw [Bool.eq_iff_iff, List.all_eq_true, Bool.not_eq_true', List.any_eq_false]
  constructor
  · intro q x hx
    rw [q x hx]; simp
  · intro q x hx
    have := q x hx
    rw [Bool.not_eq_true, Bool.not_eq_false'] at this
    exact this
set_option maxRecDepth 100000 in
set_option maxHeartbeats 6400000 in
theorem covered_at (w0 : World) (X : Nat) (a : Option Addr) (t : List Ent) (c g gs ns : Nat) (cl : List Int) (p : Nat) (hp : p < t.length) (hIH : ∀ q, q < p → CvC w0 X a t c g gs ns cl q) : CvC w0 X a t c g gs ns cl p := by
  intro W M h hi hr
  have hbn := h.rz.bnd
  have hget := h.ms.get (x := (p : Int)) (by omega) (by omega)
  have b2 := h.mb.c
  have HH : Hid (Cv w0 W X a t c g gs ns cl M) := h
  have HI : Hid (InP t M) := hi
  have HR : Hid (Rgt t (fun x => cl.contains x) M (p + 1)) := hr
  have HWs : Hid (Ws t) := h.rz.ws
  cases hm : M (p : Int) with
  | some m =>
    have hmv := hr p (by omega) m hm
    rw [hm] at hget
    have hget' : (Instr.lookup 43 (.map (some (X + 3))) (.int .i64 (p : Int)) false).run Try.prog W = .ok (.int .i64 (m : Int)) W := hget
    clear hget h hi hr hIH hm
    cases hcv : covB t (fun x => cl.contains x) p
    · rw [hcv] at hmv
      obtain rfl : m = 1 := by simpa using hmv
      rw [show ((1 : Nat) : Int) = 1 from rfl] at hget'
      clear hmv hcv
      go_enter Try.func55, Try.ntmps55
      go_wp2_with fail
      go_ret
      exact ⟨rfl, CvS.same HH.out HI.out HR.out (Below.refl _ _)⟩
    · rw [hcv] at hmv
      obtain rfl : m = 2 := by simpa using hmv
      rw [show ((2 : Nat) : Int) = 2 from rfl] at hget'
      clear hmv hcv
      go_enter Try.func55, Try.ntmps55
      go_wp2_with fail
      go_ret
      exact ⟨rfl, CvS.same HH.out HI.out HR.out (Below.refl _ _)⟩
  | none =>
    rw [hm] at hget
    have hget' : (Instr.lookup 43 (.map (some (X + 3))) (.int .i64 (p : Int)) false).run Try.prog W = .ok (.int .i64 0) W := hget
    have b0 := h.box.c0
    obtain ⟨b, off, u, rfl, hbl, c0, c1, c2, hru⟩ := h.rz0.cells hp
    obtain ⟨ra, rc, rfl, hrc, hrm, _⟩ := hru.form
    have hlr := hru.len
    have hW0 : Below w0.heap.size w0 W := by rw [h.eX]; exact h.bel
    have d0 : W.cell? ⟨b, off + p * 3, none⟩ = some (.int .i64 (t.getD p e0).1) := (hW0.cell (p := ⟨b, off + p * 3, none⟩) hbl).trans c0
    have d2 : W.cell? ⟨b, off + p * 3 + 2, none⟩ = some (.slice ra (t.getD p e0).2.2.length rc) := (hW0.cell (p := ⟨b, off + p * 3 + 2, none⟩) hbl).trans c2
    have HRu : Hid (Rd w0 (.slice ra (t.getD p e0).2.2.length rc) (t.getD p e0).2.2) := hru
    have hCv := cov_any (cl := cl) h.rz.ws hp
    have HXs : Hid (∀ x ∈ (t.getD p e0).2.2, x ≠ (t.getD p e0).1 → isF t x = true ∧ plN t x < p) := fun x hx hne => h.rz.ws.rOth_at hp (List.mem_filter.2 ⟨hx, by simpa using hne⟩)
    have hX5 : X + 5 < W.heap.size := h.cf.lt
    have HIH : Hid (∀ q, q < p → CvC w0 X (some ⟨b, off, none⟩) t c g gs ns cl q) := hIH
    obtain ⟨rs, hrs⟩ : ∃ rs, (t.getD p e0).2.2 = rs := ⟨_, rfl⟩
    obtain ⟨lt, hlt⟩ : ∃ lt, (t.getD p e0).1 = lt := ⟨_, rfl⟩
    rw [hrs, hlt] at HXs hCv
    rw [hlt] at d0
    rw [hrs] at d2 HRu hlr hrc
    have hba := below_box W (.cells #[.int .i64 0] 3)
    have hbW : b < W.heap.size := Nat.lt_of_lt_of_le hbl hW0.size
    have a0 : (W.alloc (.cells #[.int .i64 0] 3)).cell? ⟨b, off + p * 3, none⟩ = some (.int .i64 lt) := (hba.cell (p := ⟨b, off + p * 3, none⟩) hbW).trans d0
    have a2 : (W.alloc (.cells #[.int .i64 0] 3)).cell? ⟨b, off + p * 3 + 2, none⟩ = some (.slice ra rs.length rc) := (hba.cell (p := ⟨b, off + p * 3 + 2, none⟩) hbW).trans d2
    have a1 : (W.alloc (.cells #[.int .i64 0] 3)).cell? ⟨X, 0, none⟩ = some (.slice (some ⟨b, off, none⟩) t.length c) := (hba.cell (p := ⟨X, 0, none⟩) h.box.lt).trans b0
    have hbb := below_box W (.cells #[.int .i64 lt] 3)
    have e0' : (W.alloc (.cells #[.int .i64 lt] 3)).cell? ⟨b, off + p * 3, none⟩ = some (.int .i64 lt) := (hbb.cell (p := ⟨b, off + p * 3, none⟩) hbW).trans d0
    have e2' : (W.alloc (.cells #[.int .i64 lt] 3)).cell? ⟨b, off + p * 3 + 2, none⟩ = some (.slice ra rs.length rc) := (hbb.cell (p := ⟨b, off + p * 3 + 2, none⟩) hbW).trans d2
    have e1' : (W.alloc (.cells #[.int .i64 lt] 3)).cell? ⟨X, 0, none⟩ = some (.slice (some ⟨b, off, none⟩) t.length c) := (hbb.cell (p := ⟨X, 0, none⟩) h.box.lt).trans b0
    -- the world behind region 3, and the first mark
    have hb3 : Below W.heap.size W (W.drew.alloc (.cells #[.int .i64 lt] 3)) := Below.step (Below.refl _ _).drew (below_box _ _)
    obtain ⟨w3, hw3⟩ : ∃ w3, W.drew.alloc (.cells #[.int .i64 lt] 3) = w3 := ⟨_, rfl⟩
    have hlb : Bo1 w3 W.heap.size 3 (.int .i64 lt) := by rw [← hw3]; exact Bo1.new W.drew 3 (.int .i64 lt)
    rw [hw3] at hb3
    obtain ⟨w4, hrun4, hcv4, hg4⟩ := (h.below hb3).mark p 2 hp (by omega) hi
    rw [show ((2 : Nat) : Int) = 2 from rfl] at hrun4
    have b3 : w3.cell? ⟨X + 4, 0, none⟩ = some (.map (some (X + 3))) := (h.below hb3).mb.c
    have HG4 : Hid (W.grownBy w4 (some (X + 3))) := World.grownBy.trans ((grown_below hb3).but _) hg4
    have HC4 : Hid (Cv w0 w4 X (some ⟨b, off, none⟩) t c g gs ns cl (upI M (p : Int) 2)) := hcv4
    have HI4 : Hid (InP t (upI M (p : Int) 2)) := fun q hq => by
      unfold upI at hq
      split at hq
      · rename_i e; subst e; omega
      · exact HI.out q hq
    have HR4 : Hid (Rgt t (fun x => cl.contains x) (upI M (p : Int) 2) p) := fun r hrp m hm2 => by
      unfold upI at hm2
      rw [if_neg (by omega)] at hm2
      exact HR.out r (by omega) m hm2
    have HCF : Hid (Calls Try.prog 57 #[.slice ra rs.length rc, .func (.func 56) #[] #[.pointer (some ⟨W.heap.size, 0, none⟩), .pointer (some ⟨X + 2, 0, none⟩), .pointer (some ⟨X + 5, 0, none⟩), .pointer (some ⟨X, 0, none⟩)]] w4 fun e w' => e = .returned (.bool (rs.any (lkB t cl lt))) ∧ CvS w0 w4 w' X (some ⟨b, off, none⟩) t c g gs ns cl (upI M (p : Int) 2) p) :=
      containsF_any w0 w4 X _ t c g gs ns cl (upI M (p : Int) 2) p W.heap.size _ rs lt HC4.out HI4.out HR4.out HIH.out (hlb.kept hg4 (by simp; omega)) hX5 HRu.out HXs.out
    have b4 : w4.cell? ⟨X + 4, 0, none⟩ = some (.map (some (X + 3))) := hcv4.mb.c
    -- what a mark of p leaves behind it
    have HFin : Hid (∀ w5 M5 m w6, CvS w0 w4 w5 X (some ⟨b, off, none⟩) t c g gs ns cl (upI M (p : Int) 2) p → Cv w0 w6 X (some ⟨b, off, none⟩) t c g gs ns cl M5 → InP t M5 → Rgt t (fun x => cl.contains x) M5 p → (∀ r : Int, (p : Int) < r → M5 r = M r) → M5 (p : Int) = some m → m = (if covB t (fun x => cl.contains x) p then 2 else 1) → W.grownBy w6 (some (X + 3)) → CvS w0 W w6 X (some ⟨b, off, none⟩) t c g gs ns cl M (p + 1)) := fun w5 M5 m w6 _ k1 k2 k3 k4 k5 k6 k7 =>
      ⟨M5, k1, k2, fun r hrp m' hm' => by
        by_cases e : r = p
        · subst e
          rw [k5] at hm'
          rw [← Option.some.inj hm']; exact k6
        · exact k3 r (by omega) m' hm', fun r hrp => k4 r (by omega), k7⟩
    have HMk : Hid (∀ w5 M5, Cv w0 w5 X (some ⟨b, off, none⟩) t c g gs ns cl M5 → InP t M5 → ∃ w6, (Instr.mapUpdate 43 (.map (some (X + 3))) (.int .i64 (p : Int)) (.int .i64 1)).run Try.prog w5 = .ok () w6 ∧ (Instr.lookup 43 (.map (some (X + 3))) (.int .i64 (p : Int)) false).run Try.prog w6 = .ok (.int .i64 1) w6 ∧ w6.cell? ⟨X + 4, 0, none⟩ = some (.map (some (X + 3))) ∧ Cv w0 w6 X (some ⟨b, off, none⟩) t c g gs ns cl (upI M5 (p : Int) 1) ∧ w5.grownBy w6 (some (X + 3)) ∧ InP t (upI M5 (p : Int) 1)) := fun w5 M5 k1 k2 => by
      obtain ⟨w6, r1, r2, r3⟩ := k1.mark p 1 hp (by omega) k2
      have r4 := r2.ms.get (x := (p : Int)) (by omega) (by omega)
      have e : upI M5 (p : Int) 1 (p : Int) = some 1 := by unfold upI; rw [if_pos rfl]
      rw [e] at r4
      refine ⟨w6, r1, r4, r2.mb.c, r2, r3, fun q hq => ?_⟩
      unfold upI at hq
      split at hq
      · rename_i e'; subst e'; omega
      · exact k2 q hq
    have HFi1 : Hid (∀ w5 w6 M5, Rgt t (fun x => cl.contains x) M5 p → (∀ r : Int, (p : Int) ≤ r → M5 r = upI M (p : Int) 2 r) → W.grownBy w5 (some (X + 3)) → Cv w0 w6 X (some ⟨b, off, none⟩) t c g gs ns cl (upI M5 (p : Int) 1) → w5.grownBy w6 (some (X + 3)) → InP t (upI M5 (p : Int) 1) → covB t (fun x => cl.contains x) p = false → CvS w0 W w6 X (some ⟨b, off, none⟩) t c g gs ns cl M (p + 1)) := fun w5 w6 M5 k3 k4 k5 k6 k7 k8 k9 =>
      ⟨upI M5 (p : Int) 1, k6, k8, fun r hrp m' hm' => by
        unfold upI at hm'
        by_cases e : r = p
        · subst e
          rw [if_pos rfl] at hm'
          rw [← Option.some.inj hm', k9]; rfl
        · rw [if_neg (by omega)] at hm'
          exact k3 r (by omega) m' hm', fun r hrp => by
        unfold upI
        rw [if_neg (by omega), k4 r (by omega)]
        unfold upI
        rw [if_neg (by omega)], World.grownBy.trans k5 k7⟩
    clear hba hbb h hi hr hIH hcv4 hg4 hlb c0 c1 c2 hru hW0 HFin hm hget hrs hlt hb3 hbl
    obtain ⟨CB, hCB⟩ : ∃ CB, covB t (fun x => cl.contains x) p = CB := ⟨_, rfl⟩
    have HCB : Hid (covB t (fun x => cl.contains x) p = CB) := hCB
    have HCe : Hid (CB = (rs.length != 0 && !(rs.any (lkB t cl lt)))) := by rw [← hCB]; exact hCv
    rw [hCB]
    clear hCB hCv
    have HW3 : Hid (W.drew.alloc (.cells #[.int .i64 lt] 3) = w3) := hw3
    clear hw3
    by_cases hz : rs.length = 0
    · obtain ⟨w6, r1, r2, r3, r4, r5, r6⟩ := HMk.out w4 _ HC4.out HI4.out
      have hcb : CB = false := by rw [HCe.out, hz]; rfl
      have HS6 : Hid (CvS w0 W w6 X (some ⟨b, off, none⟩) t c g gs ns cl M (p + 1)) := HFi1.out w4 w6 _ HR4.out (fun _ _ => rfl) HG4.out r4 r5 r6 (by rw [HCB.out, hcb])
      rw [hz] at d2 a2 e2'
      subst hcb
      clear HMk HFi1 HCF HCe HCB r4 r5 r6 HC4 HI4 HR4
      go_enter Try.func55, Try.ntmps55
      go_upto_region 3 with fail
      go_cut [7, 8] from 18 to 29 (fun t7 t8 wx => t7 = .pointer (some ⟨W.heap.size, 0, none⟩) ∧ t8 = .slice ra 0 rc ∧ wx = W.drew.alloc (.cells #[.int .i64 lt] 3))
      case first =>
        go_region_law (fail)
        all_goals
          go_wp2_with fail
          go_meet
          exact ⟨rfl, rfl, rfl⟩
      case rest =>
        obtain ⟨rfl, rfl, rfl⟩ := hcut
        rw [HW3.out]
        clear a0 a1 a2 e0' e1' e2' d0 d2 hget' b0
        go_wp2_with fail
        go_ret
        exact ⟨rfl, HS6.out⟩
    · have hzb : ((rs.length : Int) == 0) = false := beq_eq_false_iff_ne.2 (by omega)
      cases hany : rs.any (lkB t cl lt)
      · have hcb : CB = true := by rw [HCe.out, hany, show (rs.length != 0) = true by simpa using hz]; rfl
        have HS6 : Hid (∀ w5, CvS w0 w4 w5 X (some ⟨b, off, none⟩) t c g gs ns cl (upI M (p : Int) 2) p → (Instr.lookup 43 (.map (some (X + 3))) (.int .i64 (p : Int)) false).run Try.prog w5 = .ok (.int .i64 2) w5 ∧ w5.cell? ⟨X + 4, 0, none⟩ = some (.map (some (X + 3))) ∧ CvS w0 W w5 X (some ⟨b, off, none⟩) t c g gs ns cl M (p + 1)) := fun w5 ⟨M5, k1, k2, k3, k4, k5⟩ => by
          have k6 := k1.ms.get (x := (p : Int)) (by omega) (by omega)
          have e : M5 (p : Int) = some 2 := by rw [k4 _ (Int.le_refl _)]; unfold upI; rw [if_pos rfl]
          rw [e] at k6
          refine ⟨k6, k1.mb.c, M5, k1, k2, fun r hrp m' hm' => ?_, fun r hrp => ?_, World.grownBy.trans HG4.out k5⟩
          · by_cases e2 : r = p
            · subst e2
              rw [e] at hm'
              rw [← Option.some.inj hm', HCB.out, hcb]; rfl
            · exact k3 r (by omega) m' hm'
          · rw [k4 r (by omega)]
            unfold upI
            rw [if_neg (by omega)]
        rw [hany] at HCF
        clear HMk HFi1 HCe HC4 HI4 HR4 hany
        go_enter Try.func55, Try.ntmps55
        go_upto_region 3 with fail
        go_cut [7, 8] from 18 to 29 (fun t7 t8 wx => t7 = .pointer (some ⟨W.heap.size, 0, none⟩) ∧ t8 = .slice ra rs.length rc ∧ wx = W.drew.alloc (.cells #[.int .i64 lt] 3))
        case first =>
          go_region_law (fail)
          all_goals
            go_wp2_with fail
            go_meet
            exact ⟨rfl, rfl, rfl⟩
        case rest =>
          obtain ⟨rfl, rfl, rfl⟩ := hcut
          rw [HW3.out]
          clear a0 a1 a2 e0' e1' e2' d0 d2 hget' b0
          go_wp2_with (go_at_call 57; refine HCF.out.mono ?_; rintro e w5 ⟨rfl, k5⟩; obtain ⟨g5, c5, s5⟩ := HS6.out w5 k5; have H5 : Hid (CvS w0 W w5 X (some ⟨b, off, none⟩) t c g gs ns cl M (p + 1)) := s5; clear s5 k5)
          go_ret
          exact ⟨by rw [hcb]; rfl, H5.out⟩
      · have hcb : CB = false := by rw [HCe.out, hany]; simp
        have HS6 : Hid (∀ w5, CvS w0 w4 w5 X (some ⟨b, off, none⟩) t c g gs ns cl (upI M (p : Int) 2) p → w5.cell? ⟨X + 4, 0, none⟩ = some (.map (some (X + 3))) ∧ ∃ w6, (Instr.mapUpdate 43 (.map (some (X + 3))) (.int .i64 (p : Int)) (.int .i64 1)).run Try.prog w5 = .ok () w6 ∧ (Instr.lookup 43 (.map (some (X + 3))) (.int .i64 (p : Int)) false).run Try.prog w6 = .ok (.int .i64 1) w6 ∧ w6.cell? ⟨X + 4, 0, none⟩ = some (.map (some (X + 3))) ∧ CvS w0 W w6 X (some ⟨b, off, none⟩) t c g gs ns cl M (p + 1)) := fun w5 ⟨M5, k1, k2, k3, k4, k5⟩ => by
          obtain ⟨w6, r1, r2, r3, r4, r5, r6⟩ := HMk.out w5 M5 k1 k2
          exact ⟨k1.mb.c, w6, r1, r2, r3, HFi1.out w5 w6 M5 k3 k4 (World.grownBy.trans HG4.out k5) r4 r5 r6 (by rw [HCB.out, hcb])⟩
        rw [hany] at HCF
        clear HMk HFi1 HCe HC4 HI4 HR4 hany
        go_enter Try.func55, Try.ntmps55
        go_upto_region 3 with fail
        go_cut [7, 8] from 18 to 29 (fun t7 t8 wx => t7 = .pointer (some ⟨W.heap.size, 0, none⟩) ∧ t8 = .slice ra rs.length rc ∧ wx = W.drew.alloc (.cells #[.int .i64 lt] 3))
        case first =>
          go_region_law (fail)
          all_goals
            go_wp2_with fail
            go_meet
            exact ⟨rfl, rfl, rfl⟩
        case rest =>
          obtain ⟨rfl, rfl, rfl⟩ := hcut
          rw [HW3.out]
          clear a0 a1 a2 e0' e1' e2' d0 d2 hget' b0
          go_wp2_with (go_at_call 57; refine HCF.out.mono ?_; rintro e w5 ⟨rfl, k5⟩; obtain ⟨c5, w6, g6, g7, c6, s6⟩ := HS6.out w5 k5; have H6 : Hid (CvS w0 W w6 X (some ⟨b, off, none⟩) t c g gs ns cl M (p + 1)) := s6; clear s6 k5)
          go_ret
          exact ⟨by rw [hcb]; rfl, H6.out⟩
end Go.Proofs.Ytkchabdlpeifjaa
