/-
  ArenaLives, walked.
  KEEP: set on app at below new trans refl start ap kept rd rds mono own row cells lt box lo ml ms c0 f0 form max find eq ma some none more map keep mv c kill kst book step after block size cell alloc from same bx pw walk
-/
import Derived.Test.YtbhjpahieghepaaKAo9
import Derived.Deep.RegionHeldLaw
import Derived.Test.YtbhjpahieghepaaJArK
import Derived.Sort.AtCallIn
import Derived.Sort.CutIn
set_option linter.unusedSimpArgs false
set_option linter.unusedVariables false
namespace Go.Proofs.Ytbhjpahieghepaa.arenaLives
open Go Go.RowKit Go.Maps Go.Shelf Go.Proofs.Ytbhjpahieghepaa

attribute [local go_sem] Oper.semAt_some

theorem run_store_fn (P : Program) (w : World) (a : Addr) (m : Mode) (gf : Nat) (lb : Array Value) : (store a (.func (.func gf) #[] lb) m).run P w = stored P w a (.func (.func gf) #[] lb) m := run_store P w a _ m rfl
attribute [local go_sem] run_store_fn
theorem on_cells {w W : World} {D b m N : Nat} {v : Value} {S : List Seg} (h : On w W D b m N v S) : W.cell? ⟨D, 0, none⟩ = some (.pointer (some ⟨b, 0, none⟩)) ∧ W.cell? ⟨D, 1, none⟩ = some (.pointer (some ⟨m, 0, none⟩)) := by
  obtain ⟨F, rv, L, tv, mv, T, p, f, n1, n2⟩ := h.ex
  exact ⟨p.cells.1, p.cells.2.1⟩
theorem rd_one4 (w : World) (x : Int) : Rd (w.alloc (.cells #[.int .i64 x] 3)) (.slice (some ⟨w.heap.size, 0, none⟩) 1 1) [x] := rd_one w x
set_option maxRecDepth 100000 in
set_option maxHeartbeats 6400000 in
theorem walk (s t : Value) (ops opt : List AOp) (kk : Int) (w : World) (hr : RdO w s ops) (ht : RdO w t opt) (hN : cost ops + cost opt ≤ 4194304) (hg : ∀ o ∈ ops, ∀ x ∈ o.lits, Rng x) (hg2 : ∀ o ∈ opt, ∀ x ∈ o.lits, Rng x) (hkk : Rng kk) :
    Calls Try.prog 3 #[s, t, .int .i64 kk] w fun e w' => e = .returned (.bool true) ∧ Below w.heap.size w w' := by
  obtain ⟨sa, sc, rfl, hsc, hscm, hcells⟩ := hr
  obtain ⟨ta, tc, rfl, htc, htcm, htcells⟩ := ht
  unfold maxLen at hscm htcm
  refine calls_marks4s 12 Try.func3 rfl ?_
  simp only [Try.ntmps3, List.size_toArray, List.length_cons, List.length_nil, Nat.reduceAdd, Nat.reduceSub, Array.replicate_succ, Array.replicate_zero, List.push_toArray, List.append_toArray, List.nil_append, List.cons_append]
  go_wp2_with fail
  refine (made4_any _).mono ?_
  rintro e w1 ⟨a, b, m, n, rfl, g1, g2, g3, g4, l1, l2, l3, l4, e1, e2, bl⟩
  have hbk : Below w.heap.size w ((w.alloc (.cells #[.int .i64 kk] 3)).alloc (.cells #[.bool false] 4)) := Below.step (below_box _ _) (below_box _ _)
  have HKb : Hid (Below w.heap.size w ((w.alloc (.cells #[.int .i64 kk] 3)).alloc (.cells #[.bool false] 4)) ∧ ((w.alloc (.cells #[.int .i64 kk] 3)).alloc (.cells #[.bool false] 4)).heap[w.heap.size]? = some (.cells #[.int .i64 kk] 3 (0, 0)) ∧ ((w.alloc (.cells #[.int .i64 kk] 3)).alloc (.cells #[.bool false] 4)).heap[w.heap.size + 1]? = some (.cells #[.bool false] 4 (0, 0))) := by
    have e1 := World.alloc_heap_new w (.cells #[.int .i64 kk] 3)
    have e2 := World.alloc_heap_new (w.alloc (.cells #[.int .i64 kk] 3)) (.cells #[.bool false] 4)
    rw [World.size_alloc] at e2
    exact ⟨hbk, at_on e1, e2⟩
  clear hbk
  generalize ((w.alloc (.cells #[.int .i64 kk] 3)).alloc (.cells #[.bool false] 4)) = Wb at *
  have HO0 : Hid (On Wb ((w1.alloc (.cells #[.pointer (some ⟨a, 0, none⟩), .pointer (some ⟨m, 0, none⟩), .slice none 0 0, .slice none 0 0] 28)).alloc (.cells #[.pointer (some ⟨b, 0, none⟩), .pointer (some ⟨n, 0, none⟩), .slice none 0 0, .slice none 0 0] 28)) w1.heap.size a m 0 (.slice none 0 0) []) := by
    have d1 := World.alloc_heap_new w1 (.cells #[.pointer (some ⟨a, 0, none⟩), .pointer (some ⟨m, 0, none⟩), .slice none 0 0, .slice none 0 0] 28)
    have hs := bl.size
    exact ⟨⟨_, _, _, _, _, _, Pr4.new (at_on d1) (at_on (at_on g1)) (at_on (at_on g3)), fun k q => by omega, Nat.le_refl _, Nat.le_refl _⟩, Nat.le_refl _, Below.step (Below.step bl (below_box _ _)) (below_box _ _)⟩
  have hsz : ((w1.alloc (.cells #[.pointer (some ⟨a, 0, none⟩), .pointer (some ⟨m, 0, none⟩), .slice none 0 0, .slice none 0 0] 28)).alloc (.cells #[.pointer (some ⟨b, 0, none⟩), .pointer (some ⟨n, 0, none⟩), .slice none 0 0, .slice none 0 0] 28)).heap.size = w1.heap.size + 1 + 1 := by rw [World.size_alloc, World.size_alloc]
  clear g1 g2 g3 g4 l1 l2 l3 l4 e1 e2 bl
  go_wp2_with fail
  generalize ((w1.alloc (.cells #[.pointer (some ⟨a, 0, none⟩), .pointer (some ⟨m, 0, none⟩), .slice none 0 0, .slice none 0 0] 28)).alloc (.cells #[.pointer (some ⟨b, 0, none⟩), .pointer (some ⟨n, 0, none⟩), .slice none 0 0, .slice none 0 0] 28)) = W1 at *
  have HE0 : Hid (Calls Try.prog 5 #[.pointer (some ⟨w1.heap.size, 0, none⟩), .agg #[.int .i64 1, .int .i64 0, .int .i64 0, .slice (some ⟨w1.heap.size + 1 + 1, 0, none⟩) 1 1, .bool false]] (W1.alloc (.cells #[.int .i64 3] 3)) fun e w' => e = .returned (.bool true) ∧ ∃ v S, On Wb w' w1.heap.size a m 2 v S) := by
    rw [← hsz]
    exact (on_own HO0.out (below_box _ _) (by omega) ⟨1, 0, 0, [3], false⟩ (.slice (some ⟨W1.heap.size, 0, none⟩) 1 1) (by simp) (rd_one4 W1 3) (fun g hg => by simp [Value.ownBlock] at hg; subst hg; simp) (by intro x hx; simp at hx; subst hx; exact ⟨by omega, by omega⟩) ⟨by simp, by simp⟩).mono fun e w' q => ⟨q.1, by obtain ⟨v, S, h, _⟩ := q.2; exact ⟨v, S, h⟩⟩
  clear hsz HO0
  refine HE0.out.mono ?_
  rintro e w2 ⟨rfl, on2⟩
  have HO1 : Hid (∃ v S, On Wb w2 w1.heap.size a m 2 v S) := on2
  clear on2 HE0
  generalize w1.heap.size = D at *
  have HC : Hid (cost ops + cost opt ≤ 4194304) := hN
  have HG : Hid (∀ o ∈ ops, ∀ x ∈ o.lits, Rng x) := hg
  have HG2 : Hid (∀ o ∈ opt, ∀ x ∈ o.lits, Rng x) := hg2
  have HOps : Hid (∀ (j : Nat) (hj : j < ops.length), ∃ b off u, sa = some ⟨b, off, none⟩ ∧ b < w.heap.size ∧
    w.cell? ⟨b, off + j * 5, none⟩ = some (.int .i64 ops[j].kind) ∧ w.cell? ⟨b, off + j * 5 + 1, none⟩ = some (.int .i64 ops[j].which) ∧ w.cell? ⟨b, off + j * 5 + 2, none⟩ = some (.int .i64 ops[j].ref) ∧
    w.cell? ⟨b, off + j * 5 + 3, none⟩ = some u ∧ w.cell? ⟨b, off + j * 5 + 4, none⟩ = some (.bool ops[j].learnt) ∧ Rd w u ops[j].lits ∧ (Lit.int .i64 ops[j].ref).wf = true) := hcells
  have HOpt : Hid (∀ (j : Nat) (hj : j < opt.length), ∃ b off u, ta = some ⟨b, off, none⟩ ∧ b < w.heap.size ∧
    w.cell? ⟨b, off + j * 5, none⟩ = some (.int .i64 opt[j].kind) ∧ w.cell? ⟨b, off + j * 5 + 1, none⟩ = some (.int .i64 opt[j].which) ∧ w.cell? ⟨b, off + j * 5 + 2, none⟩ = some (.int .i64 opt[j].ref) ∧
    w.cell? ⟨b, off + j * 5 + 3, none⟩ = some u ∧ w.cell? ⟨b, off + j * 5 + 4, none⟩ = some (.bool opt[j].learnt) ∧ Rd w u opt[j].lits ∧ (Lit.int .i64 opt[j].ref).wf = true) := htcells
  clear hN hg hg2 hcells htcells
  go_wp2_with fail
  go_loopg [10] ops.length (fun q i' wr => ∃ k : Nat, k + q = ops.length ∧ i' = .int .i64 k ∧ Hid (∃ v S, On Wb wr D a m (2 + cost (ops.take k)) v S))
  case atStart => exact ⟨0, by omega, rfl, HO1⟩
  case round =>
    obtain ⟨k, hk, rfl, HT⟩ := hrel
    have HK : Hid (k + gk = ops.length) := hk
    clear hk
    by_cases hlt : k < ops.length
    · obtain ⟨b0, off, u, hsa, hbl, k0, k1, k2, k3, k4, hrd, hwf⟩ := HOps.out k hlt
      subst hsa
      have HLT : Hid (k < ops.length) := hlt
      have hrdb : Rd Wb u ops[k].lits := hrd.below HKb.out.1
      have HSc : Hid (∀ W v S N, On Wb W D a m N v S → W.cell? ⟨b0, off + k * 5, none⟩ = some (.int .i64 ops[k].kind) ∧ W.cell? ⟨b0, off + k * 5 + 1, none⟩ = some (.int .i64 ops[k].which) ∧ W.cell? ⟨b0, off + k * 5 + 2, none⟩ = some (.int .i64 ops[k].ref) ∧ W.cell? ⟨b0, off + k * 5 + 3, none⟩ = some u ∧ W.cell? ⟨b0, off + k * 5 + 4, none⟩ = some (.bool ops[k].learnt) ∧ W.cell? ⟨D, 0, none⟩ = some (.pointer (some ⟨a, 0, none⟩)) ∧ W.cell? ⟨D, 1, none⟩ = some (.pointer (some ⟨m, 0, none⟩))) := fun W v S N h => by
        have hcell : ∀ o, W.cell? ⟨b0, o, none⟩ = w.cell? ⟨b0, o, none⟩ := fun o => (h.bel.cell (p := ⟨b0, o, none⟩) (Nat.lt_of_lt_of_le hbl HKb.out.1.size)).trans (HKb.out.1.cell (p := ⟨b0, o, none⟩) hbl)
        exact ⟨(hcell _).trans k0, (hcell _).trans k1, (hcell _).trans k2, (hcell _).trans k3, (hcell _).trans k4, (on_cells h).1, (on_cells h).2⟩
      have HS1 : Hid (Calls Try.prog 5 #[.pointer (some ⟨D, 0, none⟩), .agg #[.int .i64 ops[k].kind, .int .i64 ops[k].which, .int .i64 ops[k].ref, u, .bool ops[k].learnt]] wr.drew fun e w' => e = .returned (.bool true) ∧ ∃ v S, On Wb w' D a m (2 + cost (ops.take (k + 1))) v S) := by
        obtain ⟨v, S, on⟩ := HT.out
        have hct := cost_take ops k hlt
        have hcl := cost_le ops (k + 1)
        have hck := HC.out
        have hce : 2 + cost (ops.take k) + (ops[k].lits.length + 1) = 2 + cost (ops.take (k + 1)) := by omega
        have h5 := on_step (on.below (Below.refl _ _).drew) (by omega) ops[k] u (by omega) hrdb (HG.out _ (List.getElem_mem hlt)) (wf_rng hwf)
        exact h5.mono fun e w' q => ⟨q.1, by obtain ⟨v', S', h, _⟩ := q.2; exact ⟨v', S', hce ▸ h⟩⟩
      have HSa := (show Hid _ from (by obtain ⟨v, S, on⟩ := HT.out; exact HSc.out _ v S _ (on.below (Below.refl _ _).drew) : wr.drew.cell? ⟨b0, off + k * 5, none⟩ = some (.int .i64 ops[k].kind) ∧ wr.drew.cell? ⟨b0, off + k * 5 + 1, none⟩ = some (.int .i64 ops[k].which) ∧ wr.drew.cell? ⟨b0, off + k * 5 + 2, none⟩ = some (.int .i64 ops[k].ref) ∧ wr.drew.cell? ⟨b0, off + k * 5 + 3, none⟩ = some u ∧ wr.drew.cell? ⟨b0, off + k * 5 + 4, none⟩ = some (.bool ops[k].learnt) ∧ wr.drew.cell? ⟨D, 0, none⟩ = some (.pointer (some ⟨a, 0, none⟩)) ∧ wr.drew.cell? ⟨D, 1, none⟩ = some (.pointer (some ⟨m, 0, none⟩))))
      have HN : Hid (2 + cost (ops.take (k + 1)) ≤ 1099511627776) := by
        have hcl := cost_le ops (k + 1)
        have hck := HC.out
        have h : 2 + cost (ops.take (k + 1)) ≤ 1099511627776 := by omega
        exact h
      clear k0 k1 k2 k3 k4 hrd hwf hrdb
      generalize ops[k].kind = x0 at *
      generalize ops[k].which = x1 at *
      generalize ops[k].ref = x2 at *
      generalize ops[k].learnt = x4 at *
      go_upto_region 7 with fail
      go_region_held (fun W' => W'.cell? ⟨b0, off + k * 5, none⟩ = some (.int .i64 x0) ∧ W'.cell? ⟨b0, off + k * 5 + 1, none⟩ = some (.int .i64 x1) ∧ W'.cell? ⟨b0, off + k * 5 + 2, none⟩ = some (.int .i64 x2) ∧ W'.cell? ⟨b0, off + k * 5 + 3, none⟩ = some u ∧ W'.cell? ⟨b0, off + k * 5 + 4, none⟩ = some (.bool x4) ∧ W'.cell? ⟨D, 0, none⟩ = some (.pointer (some ⟨a, 0, none⟩)) ∧ W'.cell? ⟨D, 1, none⟩ = some (.pointer (some ⟨m, 0, none⟩))) (first | with_reducible exact HSa.out | with_reducible exact HSz.out | with_reducible exact HSy.out | with_reducible exact HSx.out) (first
        | (go_at_call 5; refine Calls.mono HS1.out ?_; rintro e wx ⟨rfl, onx⟩; obtain ⟨vx, Sx, onx⟩ := onx; have HOx : Hid (On Wb wx D a m (2 + cost (ops.take (k + 1))) vx Sx) := onx; have HSx := (show Hid _ from HSc.out _ _ _ _ onx); clear onx)
        | (go_at_call 7; obtain ⟨Lx, eL, cL⟩ := on_same HOx.out HN.out; refine Calls.mono cL ?_; rintro e wy ⟨la, lc, rfl, ry, oy, bq⟩; have HRy : Hid (_ ∧ _ ∧ _) := ⟨eL, ry, oy⟩; have HOy : Hid (On Wb wy D a m (2 + cost (ops.take (k + 1))) vx Sx) := HOx.out.below bq; have HSy := (show Hid _ from HSc.out _ _ _ _ HOy.out); clear ry oy bq eL cL)
        | (go_at_call 6; refine Calls.mono (same4_any _ _ _ _ _ _ _ HOy.out.ar (Nat.le_trans HOy.out.fl HN.out) HRy.out.2.1 HRy.out.2.2 HRy.out.1) ?_; rintro e wz ⟨rfl, bz⟩; have HOz : Hid (On Wb wz D a m (2 + cost (ops.take (k + 1))) vx Sx) := HOy.out.below bz; have HSz := (show Hid _ from HSc.out _ _ _ _ HOz.out); clear bz))
      go_wp2
      go_roundg (gk - 1)
      case measure => have := HK.out; have := HLT.out; omega
      case rel => exact ⟨k + 1, by have := HK.out; have := HLT.out; omega, by go_num, _, _, HOz.out⟩
    · obtain rfl : k = ops.length := by have := HK.out; omega
      rw [List.take_length] at HT
      clear hlt
      obtain ⟨v, S, on⟩ := HT.out
      have c0 := (on_cells on).1
      have hck := HC.out
      have hfl := on.fl
      have hAr := on.ar
      have HON : Hid (On Wb wr D a m (2 + cost ops) v S) := on
      clear on HT HOps HG HK
      go_wp2_with fail
      refine (live_any a v S _ hAr (by omega) (by omega)).mono ?_
      rintro e w3 ⟨Bl, u, g, rfl, bx3, row3, lB, b3, hg3⟩
      have hnn := fn_nil5s 28 #[.pointer (some ⟨Bl, 0, none⟩)]
      have hn3 := World.alloc_heap_new w3 (.cells #[.nilFunc] 39)
      have q1 : (w3.alloc (.cells #[.nilFunc] 39)).cell? ⟨w3.heap.size, 0, none⟩ = some .nilFunc := by simp only [World.cell?, hn3]; rfl
      have q2 : (w3.alloc (.cells #[.nilFunc] 39)).frozen? ⟨w3.heap.size, 0, none⟩ = false := by simp only [World.frozen?, hn3]; rfl
      go_wp2_with fail
      clear q1 q2 hn3 c0
      have HB4 : Hid (Below w3.heap.size w3 ((w3.alloc (.cells #[.func (.func 28) #[] #[.pointer (some ⟨Bl, 0, none⟩)]] 39)).alloc (.cells #[.slice none 0 0] 36)) ∧ ((w3.alloc (.cells #[.func (.func 28) #[] #[.pointer (some ⟨Bl, 0, none⟩)]] 39)).alloc (.cells #[.slice none 0 0] 36)).heap[w3.heap.size]? = some (.cells #[.func (.func 28) #[] #[.pointer (some ⟨Bl, 0, none⟩)]] 39 (0, 0)) ∧ ((w3.alloc (.cells #[.func (.func 28) #[] #[.pointer (some ⟨Bl, 0, none⟩)]] 39)).alloc (.cells #[.slice none 0 0] 36)).heap[w3.heap.size + 1]? = some (.cells #[.slice none 0 0] 36 (0, 0))) := by
        have e1 := World.alloc_heap_new w3 (.cells #[.func (.func 28) #[] #[.pointer (some ⟨Bl, 0, none⟩)]] 39)
        have e2 := World.alloc_heap_new (w3.alloc (.cells #[.func (.func 28) #[] #[.pointer (some ⟨Bl, 0, none⟩)]] 39)) (.cells #[.slice none 0 0] 36)
        rw [World.size_alloc] at e2
        exact ⟨Below.step (below_box _ _) (below_box _ _), at_on e1, e2⟩
      generalize ((w3.alloc (.cells #[.func (.func 28) #[] #[.pointer (some ⟨Bl, 0, none⟩)]] 39)).alloc (.cells #[.slice none 0 0] 36)) = W4 at *
      have HO4 : Hid (On Wb W4.drew D a m (2 + cost ops) v S) := ((HON.out.below b3).below HB4.out.1).below (Below.refl _ _).drew
      have HWt : Hid (W4.drew.heap[w3.heap.size + 1]? = some (.cells #[.slice none 0 0] 36 (0, 0))) := HB4.out.2.2
      have hcw : ∀ W, Below W4.drew.heap.size W4.drew W → W.cell? ⟨D, 1, none⟩ = some (.pointer (some ⟨m, 0, none⟩)) ∧ W.cell? ⟨w3.heap.size + 1, 0, none⟩ = some (.slice none 0 0) ∧ W.frozen? ⟨w3.heap.size + 1, 0, none⟩ = false := fun W hW => by
        have e5 := (hW.block _ (Array.getElem?_eq_some_iff.1 HWt.out).1).trans HWt.out
        exact ⟨(on_cells (HO4.out.below hW)).2, by simp only [World.cell?, e5]; rfl, by simp only [World.frozen?, e5]; rfl⟩
      have HCw : Hid (∀ W, Below W4.drew.heap.size W4.drew W → W.cell? ⟨D, 1, none⟩ = some (.pointer (some ⟨m, 0, none⟩)) ∧ W.cell? ⟨w3.heap.size + 1, 0, none⟩ = some (.slice none 0 0) ∧ W.frozen? ⟨w3.heap.size + 1, 0, none⟩ = false) := hcw
      clear hcw
      have HSa := (show Hid _ from HCw.out _ (Below.refl _ _))
      obtain ⟨M, hMe, hMo, hMl⟩ := on_same3 HON.out (by omega)
      have HMe : Hid (M.map (fun x => (x.2.pl, x.2.lits)) = rdL (lv 0 S)) := hMe
      have HMs : Hid (∀ x ∈ M, Own 0 wr x.1 x.2.lits ∧ ∀ k, x.1.ownBlock = some k → v.ownBlock ≠ some k) := hMo
      have HMo : Hid (∀ x ∈ M, Own 0 w3 x.1 x.2.lits) := fun x hx => (hMo x hx).1.below b3
      have HMl : Hid (Calls Try.prog 7 #[.pointer (some ⟨m, 0, none⟩)] W4.drew fun e w' => ∃ a c, e = .returned (.slice a M.length c) ∧ w'.ownsRow W4.drew.heap.size 43 4 (.slice a M.length c) M.length (rowsM M) ∧ Below W4.drew.heap.size W4.drew w') := hMl _ (Below.step b3 (Below.step HB4.out.1 (Below.refl _ _).drew))
      have hMlen : M.length ≤ 4194306 := by
        have h1 := congrArg List.length hMe
        have h2 := lv_len_le S 0
        unfold rdL at h1
        simp only [List.length_map] at h1
        omega
      clear hMe hMl hMo
      obtain ⟨iK, hiK, hK0, hK1, hK2⟩ := info_parts infoM4
      have undM : Try.prog.underlying 36 = some (.slice 43) := by kernel_rfl
      go_upto_region 11 with fail
      go_cut [] from 60 to 64 (fun wx => Wt w3 wx Bl M)
      case first =>
        have x1 := HSa.out.1
        have x2 := HSa.out.2.1
        go_region_law (first
          | (refine step_append_row rfl (.tmp 60) (.tmp 63) 36 rfl _ 43 iK _ 4 40 undM hiK hK0 hK1 hK2 rfl (by decide) la M.length lc (rowsM M) (by simp [Act.eval, Act.put]) (by simp [Act.eval, Act.put]) HRy.out.1 (rowsM_one HMo.out) (by unfold maxLen; omega) (by omega) ?_; intro vz wz oz bz; have HRz : Hid (wz.ownsRow wy.heap.size 43 4 vz M.length (rowsM M) ∧ Below W4.drew.heap.size W4.drew wz) := ⟨oz, Below.step HRy.out.2 bz⟩; obtain ⟨za, zc, hvz⟩ := row_form4 oz; subst hvz; have z2 := (HCw.out _ HRz.out.2).2.1; have z3 := (HCw.out _ HRz.out.2).2.2; clear oz bz)
          | (go_simp; go_at_call 7; refine Calls.mono HMl.out ?_; rintro e wy ⟨la, lc, rfl, ry, bq⟩; have HRy : Hid (wy.ownsRow W4.drew.heap.size 43 4 (.slice la M.length lc) M.length (rowsM M) ∧ Below W4.drew.heap.size W4.drew wy) := ⟨ry, bq⟩; have y1 := (HCw.out _ bq).1; have y2 := (HCw.out _ bq).2.1; clear ry bq; dsimp only))
        all_goals
          go_wp2_with fail
          go_meet
          exact Wt.put (W4 := W4.drew) (Below.step HB4.out.1 (Below.refl _ _).drew) HB4.out.2.1 HB4.out.2.2 HRz.out.2 HRy.out.2.size HRz.out.1
      case rest =>
      have HWt5 : Hid (Wt w3 wc Bl M) := hcut
      have HOl : Ol wr v S S g := by
        rcases hg3 with e | ⟨c, e⟩
        · exact .inl (by rw [e]; try rfl)
        · subst e; exact Ol.start hAr
      have HZ0 : Hid (Oz Wb wc wc (fun k => wr.heap.size ≤ k ∧ k < wc.heap.size) D a m (2 + cost ops) v S S g M) := Oz.start HON.out (Below.step b3 hcut.bel) HOl HMs.out
      have HLv : Hid (Bl < w3.heap.size ∧ w3.heap.size ≤ wc.heap.size ∧ (∀ k, u.ownBlock = some k → wr.heap.size ≤ k ∧ k < w3.heap.size) ∧ wr.heap.size ≤ Bl) := ⟨(Array.getElem?_eq_some_iff.1 bx3).1, hcut.bel.size, fun k hk => World.ownsRow.lt row3 k hk, lB⟩
      have HBx3 : Hid (_ ∧ _) := ⟨bx3, row3⟩
      have HFl : Hid ((flat S).length ≤ 1099511627776) := (by have h : (flat S).length ≤ 1099511627776 := by omega
                                                              exact h)
      have HB3 : Hid (wr.heap.size ≤ w3.heap.size) := b3.size
      have HBw3 : Hid (Wb.heap.size ≤ wr.heap.size) := HON.out.bel.size
      have d0 : wc.cell? ⟨w3.heap.size, 0, none⟩ = some (.func (.func 28) #[] #[.pointer (some ⟨Bl, 0, none⟩)]) := by
        have := hcut.sb
        simp only [World.cell?, this]; rfl
      obtain ⟨Q, hQ⟩ : ∃ Q : Nat → Prop, Q = fun k => wr.heap.size ≤ k ∧ k < wc.heap.size := ⟨_, rfl⟩
      rw [← hQ] at HZ0
      obtain ⟨wL, hwL⟩ : ∃ wL, wL = wr := ⟨_, rfl⟩
      subst hwL
      have HQ : Hid (Q = fun k => wL.heap.size ≤ k ∧ k < wc.heap.size) := hQ
      clear hQ hcut HWt HCw HSa HB4 HO4 HMl HOl hg3 bx3 row3 hAr HMs HON hfl
      go_wp2_with fail
      go_loopg [13] opt.length (fun q i' wx => ∃ k : Nat, k + q = opt.length ∧ i' = .int .i64 k ∧ Hid (∃ v' S', Oz Wb wc wx Q D a m (2 + cost ops + cost (opt.take k)) v' S' S g M))
      case atStart => exact ⟨0, by omega, rfl, v, S, HZ0.out⟩
      case round =>
        obtain ⟨k, hk, rfl, HT⟩ := hrel
        have HK : Hid (k + gk = opt.length) := hk
        clear hk
        by_cases hlt : k < opt.length
        · obtain ⟨b0, off, u5, hta, hbl, k0, k1, k2, k3, k4, hrd, hwf⟩ := HOpt.out k hlt
          subst hta
          have HLT : Hid (k < opt.length) := hlt
          have hrdb : Rd Wb u5 opt[k].lits := hrd.below HKb.out.1
          obtain ⟨v6, S6, oz⟩ := HT.out
          have hcell : ∀ o, wr.cell? ⟨b0, o, none⟩ = w.cell? ⟨b0, o, none⟩ := fun o => (oz.oq.bel.cell (p := ⟨b0, o, none⟩) (Nat.lt_of_lt_of_le hbl HKb.out.1.size)).trans (HKb.out.1.cell (p := ⟨b0, o, none⟩) hbl)
          have j0 := (hcell _).trans k0
          have j1 := (hcell _).trans k1
          have j2 := (hcell _).trans k2
          have j3 := (hcell _).trans k3
          have j4 := (hcell _).trans k4
          have HS1 : Hid (Calls Try.prog 5 #[.pointer (some ⟨D, 0, none⟩), .agg #[.int .i64 opt[k].kind, .int .i64 opt[k].which, .int .i64 opt[k].ref, u5, .bool opt[k].learnt]] wr fun e w' => e = .returned (.bool true) ∧ ∃ v S', Oz Wb wc w' Q D a m (2 + cost ops + cost (opt.take (k + 1))) v S' S g M) := by
            have hct := cost_take opt k hlt
            have hcl := cost_le opt (k + 1)
            have hck := HC.out
            have hce : 2 + cost ops + cost (opt.take k) + (opt[k].lits.length + 1) = 2 + cost ops + cost (opt.take (k + 1)) := by omega
            have h5 := oz_step oz (by omega) opt[k] u5 (by omega) hrdb (HG2.out _ (List.getElem_mem hlt)) (wf_rng hwf)
            exact h5.mono fun e w' q => ⟨q.1, by obtain ⟨v', S', h⟩ := q.2; exact ⟨v', S', hce ▸ h⟩⟩
          clear k0 k1 k2 k3 k4 hrd hwf hrdb hcell oz HT
          generalize opt[k].kind = x0 at *
          generalize opt[k].which = x1 at *
          generalize opt[k].ref = x2 at *
          generalize opt[k].learnt = x4 at *
          go_wp2_with (go_at_call 5; refine Calls.mono HS1.out ?_; rintro e wx ⟨rfl, onx⟩; have HOx : Hid (∃ v S', Oz Wb wc wx Q D a m (2 + cost ops + cost (opt.take (k + 1))) v S' S g M) := onx; clear onx)
          go_roundg (gk - 1)
          case measure => have := HK.out; have := HLT.out; omega
          case rel => exact ⟨k + 1, by have := HK.out; have := HLT.out; omega, by go_num, HOx⟩
        · obtain rfl : k = opt.length := by have := HK.out; omega
          rw [List.take_length] at HT
          clear hlt HOpt HG2 HK
          obtain ⟨v6, S6, oz⟩ := HT.out
          obtain ⟨za, zc, wx6, sb6⟩ := Wx.of oz HQ.out HWt5.out HBx3.out.1 HBx3.out.2 HLv.out.2.2.2 (Nat.le_refl _) HB3.out HMe.out HFl.out
          have HWx : Hid (Wx wr Bl (w3.heap.size + 1) g wL.heap.size u S M za zc) := wx6
          have HOz : Hid (Oz Wb wc wr Q D a m (2 + cost ops + cost opt) v6 S6 S g M) := oz
          have hs3 : w3.heap.size + 1 < wr.heap.size := (Array.getElem?_eq_some_iff.1 wx6.wb).1
          have HSb : Hid (∀ W, Below wr.heap.size wr W → W.cell? ⟨w3.heap.size, 0, none⟩ = some (.func (.func 28) #[] #[.pointer (some ⟨Bl, 0, none⟩)])) := fun W hW => by
            have := (hW.block _ (Array.getElem?_eq_some_iff.1 sb6).1).trans sb6
            simp only [World.cell?, this]; rfl
          have HKk : Hid (∀ W, Below wr.heap.size wr W → W.cell? ⟨w.heap.size, 0, none⟩ = some (.int .i64 kk)) := fun W hW => by
            have hl := (Array.getElem?_eq_some_iff.1 HKb.out.2.1).1
            have h5 : W.heap[w.heap.size]? = some (.cells #[.int .i64 kk] 3 (0, 0)) := (hW.block _ (Nat.lt_of_lt_of_le hl oz.oq.bel.size)).trans ((oz.oq.bel.block _ hl).trans HKb.out.2.1)
            simp only [World.cell?, h5]; rfl
          have HS0 : Hid (Sm wr (wr.alloc (.cells #[.int .i64 0] 3)) 0) := ⟨below_box _ _, World.alloc_heap_new _ _⟩
          have q0 := HSb.out _ HS0.out.bel
          have HEG : Hid (∀ args W, (callFunc 28 args).run Try.prog W = .ok (.enter 28 args) W) := fun _ _ => rfl
          clear HT oz wx6 sb6 HZ0 d0
          go_wp2
          refine (wpIn_wide (n := 12)).1 ?_
          refine' wpIn_rangeW_brk rfl (by omega) (gf := 28) (lb := #[.pointer (some ⟨Bl, 0, none⟩)]) rfl trivial HEG.out (HWx.out.seq (12 - 1) (by omega)) Kq.trans (fun W l o o' hl _ _ _ => Kq.putObj (Nat.le_trans (by simp) hl) HWx.out.lt) (fun W o h => h.alloc o HWx.out.lt) (Kq.of_below HS0.out.bel HWx.out.lt) (fun _ => rfl)
            (fun pre W => Sm wr W pre.length)
            (fun W => ∃ n : Nat, n ≤ M.length ∧ Sm wr W n)
            4
            (fun s X Y row h hg hr => Sm.from (by simp) () X Y row h hg hr)
            (fun s X Y row h hg hr => by obtain ⟨n, hn, h⟩ := h; exact ⟨n, hn, Sm.from (by simp) () X Y row h hg hr⟩)
            (fun m pre => VL_from _ _ _ pre)
            HS0.out
            _ ?assign1 ?body1 ?done1 (fun a w h => h) ?tail1
          case assign1 =>
            intro l x W K hK
            gi_wp2
            exact hK
          case done1 =>
            intro xs W hS sm
            refine ⟨xs.length, ?_, sm⟩
            have h5 := congrArg List.length hS
            have h6 := congrArg List.length HMe.out
            simp only [List.length_map] at h5 h6
            omega
          case body1 =>
            rintro l' pre ⟨xp, xs, xl⟩ W0 W sm0 hsz hZ ⟨hpx, ho⟩
            dsimp only at ho
            have sm := hZ (fun W => Sm wr W pre.length) (Sm.from (by simp)) sm0
            have hW0s : W0.heap.size ≤ W.heap.size := hZ (fun W => W0.heap.size ≤ W.heap.size) (fun _ X Y row h hg hr => Nat.le_trans h hg.size) (Nat.le_refl _)
            obtain ⟨hkM, hxl, gw, la, lc, hza, e0, e1, hoM, cw⟩ := HWx.out.item sm.bel hpx
            subst hza
            obtain ⟨ax, cx, hxs⟩ := own_form ho
            subst hxs
            have cn := sm.cell.1
            have ck := HKk.out W sm.bel
            have HSm : Hid (Sm wr W pre.length) := sm
            have HE : Hid (Calls Try.prog 9 #[.slice ax xl.length cx, .slice la xl.length lc] W fun e w' => e = .returned (.bool true) ∧ Below W.heap.size W w') := by
              have h5 := requal4_any _ _ xl xl W (ho.rd (by omega)) (hoM.rd (by omega))
              rw [show (xl == xl) = true from beq_self_eq_true xl] at h5
              exact h5
            have HLen : Hid ((pre ++ [((xp, .slice ax xl.length cx, xl) : Itl)]).length = pre.length + 1) := by show _ = _; simp
            have HkM : Hid (pre.length < M.length) := hkM
            have hbx : (xp == xp) = true := beq_self_eq_true _
            have hbn : (xp != xp) = false := by simp
            have hki : (pre.length : Int) < (M.length : Int) := by omega
            clear hpx hZ hoM sm sm0 ho hkM
            generalize pre.length = kp at *
            gi_wp2_with fail
            refine ⟨trivial, ?_⟩
            refine ((callsIn_wide.2 HE.out).inRound l').mono ?_
            rintro e w4 ⟨rfl, b4⟩
            have HS4 : Hid (Sm wr w4 kp ∧ Below W.heap.size W w4) := ⟨HSm.out.below b4, b4⟩
            have c4 := HS4.out.1.cell.1
            have f4 := HS4.out.1.cell.2
            have k4 := HKk.out w4 HS4.out.1.bel
            clear b4 cn cw e0 e1 ck
            by_cases hkk : (kp : Int) = kk
            · have hke : ((kp : Int) == kk) = true := by rw [hkk]; exact beq_self_eq_true _
              gi_wp2
              exact ⟨keeps_below4 HS4.out.2, rfl, kp, Nat.le_of_lt HkM.out, HS4.out.1⟩
            · have hke : ((kp : Int) == kk) = false := beq_eq_false_iff_ne.2 hkk
              have hkb : kp ≤ 4194306 := by have := HkM.out; omega
              have HEnd : Hid (KeepsOthers W (w4.setCell ⟨wr.heap.size, 0, none⟩ (.int .i64 ((kp : Int) + 1))) ∧ Kq (Qw Bl g u S) W (w4.setCell ⟨wr.heap.size, 0, none⟩ (.int .i64 ((kp : Int) + 1))) ∧ Sm wr (w4.setCell ⟨wr.heap.size, 0, none⟩ (.int .i64 ((kp : Int) + 1))) (pre ++ [((xp, .slice ax xl.length cx, xl) : Itl)]).length) := by
                refine ⟨(keeps_below4 HS4.out.2).trans (KeepsOthers.setCell _ _ _), ?_, by rw [HLen.out]; exact HS4.out.1.next⟩
                exact sm_kq HWx.out.lt HSm.out HS4.out.2
              gi_wp2
              exact HEnd.out
          case tail1 =>
            rintro Dm W3 hDm0 ⟨n3, hn3, sm3⟩ hK3
            have hDm9 : wr.heap.size + 1 ≤ Dm := by simpa using hDm0
            have c3 := sm3.cell.1
            have f3 := sm3.cell.2
            have HS3 : Hid (Sn wr (W3.setCell ⟨wr.heap.size, 0, none⟩ (.int .i64 0)) 0 Dm) := ⟨sm3.zero, (KeepsOthers.setCell W3 ⟨wr.heap.size, 0, none⟩ (.int .i64 0)).same Dm _ hK3 rfl⟩
            have hz3 : (W3.setCell ⟨wr.heap.size, 0, none⟩ (.int .i64 0)).heap.size = W3.heap.size := World.size_setCell _ _ _
            have hDl : Dm < W3.heap.size := (Array.getElem?_eq_some_iff.1 hK3).1
            have q3 := HSb.out _ HS3.out.sm.bel
            clear sm3 hK3 q0 hDm0
            go_upto_region 28 with fail
            clear c3 f3
            generalize W3.setCell ⟨wr.heap.size, 0, none⟩ (.int .i64 0) = W4 at *
            rw [← hz3] at hDl
            clear hz3
            have hsz4 : wr.heap.size + 1 ≤ W4.heap.size := by omega
            go_wp2
            refine (wpIn_wide (n := 12)).1 ?_
            refine' wpIn_rangeWl rfl (by omega) (gf := 28) (lb := #[.pointer (some ⟨Bl, 0, none⟩)]) rfl trivial HEG.out (HWx.out.seq (12 - 1) (by omega)) Kq.trans (fun W l o o' hl _ _ _ => Kq.putObj (by omega) HWx.out.lt) (fun W o h => h.alloc o HWx.out.lt) (Kq.of_below HS3.out.sm.bel HWx.out.lt) (fun _ => rfl)
              (fun pre W => Sn wr W pre.length Dm)
              (fun c pre W => False)
              (fun s X Y row h hg hr => Sn.from hsz4 hDl () X Y row h hg hr)
              (fun c s A B row hs hg hr => hs)
              (fun m pre => VL_from _ _ _ pre)
              HS3.out
              _ ?assign2 ?body2 ?done2 ?stop2
            case assign2 =>
              intro l x W K hK
              gi_wp2
              exact hK
            case stop2 =>
              rintro D2 c pre W hD hSp h hK
              exact h.elim
            case body2 =>
              rintro l' pre ⟨xp, xs, xl⟩ W0 W hle ⟨r, hlr⟩ sn0 hsz hZ ⟨hpx, ho⟩
              dsimp only at ho
              have sn := hZ (fun W => Sn wr W pre.length Dm) (Sn.from hsz4 hDl) sn0
              have hW0s : W0.heap.size ≤ W.heap.size := hZ (fun W => W0.heap.size ≤ W.heap.size) (fun _ X Y row h hg hr => Nat.le_trans h hg.size) (Nat.le_refl _)
              obtain ⟨ax, cx, hxs⟩ := own_form ho
              subst hxs
              have HPx : Hid ((pre ++ [((xp, .slice ax xl.length cx, xl) : Itl)]).map Itl.proj <+: rdL (lv 0 S)) := hpx
              have HSn : Hid (Sn wr W pre.length Dm) := sn
              have HOx : Hid (Own W0.heap.size W (.slice ax xl.length cx) xl) := ho
              have HSi : Hid (Sm W (W.alloc (.cells #[.int .i64 0] 3)) 0) := ⟨below_box _ _, World.alloc_heap_new _ _⟩
              have HLr : Hid ((W.alloc (.cells #[.int .i64 0] 3)).heap[l']? = some (.loop r)) := at_on hlr
              have qi := HSb.out _ (Below.step sn.sm.bel HSi.out.bel)
              have HWs : Hid (wr.heap.size + 1 ≤ W.heap.size ∧ W0.heap.size ≤ W.heap.size) := ⟨by have := (Array.getElem?_eq_some_iff.1 sn.sm.nb).1; omega, hW0s⟩
              clear hpx sn sn0 hZ ho hlr hW0s
              gi_wp2
              refine' wpIn_rangeWx HLr.out (by omega) (gf := 28) (lb := #[.pointer (some ⟨Bl, 0, none⟩)]) rfl HEG.out (HWx.out.seq _ (by omega)) Kq.trans (fun W' l o o' hl _ _ _ => Kq.putObj (by have := HWs.out.1; simp at hl; omega) HWx.out.lt) (fun W o h => h.alloc o HWx.out.lt) (Kq.of_below (Below.step HSn.out.sm.bel HSi.out.bel) HWx.out.lt) (fun _ => rfl)
                (fun pre' Wi => Sm W Wi pre'.length)
                (fun c pre W => False)
                (fun s X Y row h hg hr => Sm.from (by simp) () X Y row h hg hr)
                (fun c s A B row hs hg hr => hs)
                (fun m pre => VL_from _ _ _ pre)
                HSi.out
                _ ?assign3 ?body3 ?done3 ?stop3
              case assign3 =>
                intro l x W K hK
                gi_wp2
                exact hK
              case stop3 =>
                rintro c pre W hSp h
                exact h.elim
              case body3 =>
                rintro l'' pre' ⟨yp, ys, yl⟩ Y0 Y smi0 hszi hZi ⟨hpy, hoy⟩
                dsimp only at hoy
                have smi := hZi (fun X => Sm W X pre'.length) (Sm.from (by simp)) smi0
                have hY0s : Y0.heap.size ≤ Y.heap.size := hZi (fun X => Y0.heap.size ≤ X.heap.size) (fun _ X Y row h hg hr => Nat.le_trans h hg.size) (Nat.le_refl _)
                have hbY := Below.step HSn.out.sm.bel smi.bel
                obtain ⟨hkM, hxl, gw, la, lc, hza, e0, e1, hoM, cw⟩ := HWx.out.item hbY hpy
                subst hza
                obtain ⟨ay, cy, hys⟩ := own_form hoy
                subst hys
                have cn := smi.cell.1
                have HSm : Hid (Sm W Y pre'.length) := smi
                have HE : Hid (Calls Try.prog 9 #[.slice ay yl.length cy, .slice la yl.length lc] Y fun e w' => e = .returned (.bool true) ∧ Below Y.heap.size Y w') := by
                  have h5 := requal4_any _ _ yl yl Y (hoy.rd (by omega)) (hoM.rd (by omega))
                  rw [show (yl == yl) = true from beq_self_eq_true yl] at h5
                  exact h5
                have HLen : Hid ((pre' ++ [((yp, .slice ay yl.length cy, yl) : Itl)]).length = pre'.length + 1) := by show _ = _; simp
                have HX : Hid (Own Y0.heap.size Y (.slice ay yl.length cy) yl) := hoy
                have hsz' : W.heap.size + 2 ≤ Y0.heap.size := by simpa using hszi
                have HW0 : Hid (Y0.heap.size ≤ Y.heap.size) := hY0s
                have hbx : (yp == yp) = true := beq_self_eq_true _
                have hbn : (yp != yp) = false := by simp
                have hki : (pre'.length : Int) < (M.length : Int) := by omega
                have hkb : pre'.length ≤ 4194306 := by omega
                clear hpy hZi hoM smi smi0 hoy hbY hkM
                generalize pre'.length = kp at *
                gi_wp2_with fail
                refine ⟨trivial, ?_⟩
                refine (((callsIn_wide.2 HE.out).inRound l').inRound l'').mono ?_
                rintro e w4 ⟨rfl, b4⟩
                have HB4 : Hid (Below Y0.heap.size Y w4 ∧ KeepsOthers Y w4) := ⟨b4.mono HW0.out, keeps_below4 b4⟩
                have HX4 : Hid (Own Y0.heap.size w4 (.slice ay yl.length cy) yl) := HX.out.below b4
                have c4 := (HSm.out.below b4).cell.1
                clear b4 cn cw e0 e1
                gi_wp2
                gi_loopg [22] yl.length (fun q i wr => ∃ (k : Nat) (Z : List Int), k + q = yl.length ∧ i = .int .i64 k ∧ Z.length = yl.length ∧ Hid (Own Y0.heap.size wr (.slice ay yl.length cy) Z) ∧ Hid (Below Y0.heap.size Y wr ∧ KeepsOthers Y wr))
                case atStart => exact ⟨0, yl, by omega, rfl, rfl, HX4, HB4⟩
                case round =>
                  obtain ⟨k, Z, hk, rfl, hZl, HOr, HBr⟩ := hrel
                  have HK : Hid (k + gk = yl.length) := hk
                  have HZl : Hid (Z.length = yl.length) := hZl
                  obtain ⟨wq, hwq⟩ : ∃ wq, wq = wr := ⟨_, rfl⟩
                  subst hwq
                  have HSr : Hid (Sm W wq kp) := HSm.out.low HBr.out.1 (by omega)
                  have cr := HSr.out.cell.1
                  have fr := HSr.out.cell.2
                  clear hk hZl c4
                  by_cases hlt : k < yl.length
                  · obtain ⟨gx, hgx, -⟩ := own_pos HOr.out (by have := HZl.out; omega)
                    subst hgx
                    obtain ⟨o5, ⟨u5, q5⟩, f5, l5⟩ := own_write HOr.out HZl.out hlt (7000000 + (kp : Int))
                    have HLT : Hid (k < yl.length) := hlt
                    have HN5 : Hid (Own Y0.heap.size (wq.setCell ⟨gx, k, none⟩ (.int .i64 (7000000 + (kp : Int)))) (.slice (some ⟨gx, 0, none⟩) yl.length cy) (Z.set k (7000000 + (kp : Int))) ∧ (Z.set k (7000000 + (kp : Int))).length = yl.length ∧ Below Y0.heap.size Y (wq.setCell ⟨gx, k, none⟩ (.int .i64 (7000000 + (kp : Int)))) ∧ KeepsOthers Y (wq.setCell ⟨gx, k, none⟩ (.int .i64 (7000000 + (kp : Int))))) := ⟨o5, by rw [List.length_set]; exact HZl.out, HBr.out.1.setCell (p := ⟨gx, k, none⟩) l5 _, HBr.out.2.trans (KeepsOthers.setCell _ _ _)⟩
                    clear o5
                    gi_wp2
                    gi_roundg (gk - 1)
                    case measure => have := HK.out; have := HLT.out; omega
                    case rel => exact ⟨k + 1, _, by have := HK.out; have := HLT.out; omega, by go_num, HN5.out.2.1, HN5.out.1, HN5.out.2.2⟩
                  · obtain rfl : k = yl.length := by have := HK.out; omega
                    have HEnd : Hid (KeepsOthers Y (wq.setCell ⟨W.heap.size, 0, none⟩ (.int .i64 ((kp : Int) + 1))) ∧ Kq (Qw Bl g u S) Y (wq.setCell ⟨W.heap.size, 0, none⟩ (.int .i64 ((kp : Int) + 1))) ∧ Sm W (wq.setCell ⟨W.heap.size, 0, none⟩ (.int .i64 ((kp : Int) + 1))) (pre' ++ [((yp, .slice ay yl.length cy, yl) : Itl)]).length) := by
                      have hg := grown_set wq ⟨W.heap.size, 0, none⟩ (.int .i64 ((kp : Int) + 1))
                      refine ⟨HBr.out.2.trans (KeepsOthers.setCell _ _ _), ⟨Nat.le_trans HBr.out.1.size hg.size, fun k hk => ?_⟩, by rw [HLen.out]; exact HSr.out.next⟩
                      have hk' := HWx.out.lt k hk
                      have hw' := HWs.out.1
                      exact (hg.block k (by have := HBr.out.1.size; have := HSr.out.bel.size; omega) (by intro e; have e' : k = W.heap.size := (by simpa using e); omega)).trans (HBr.out.1.block k (by omega))
                    clear hlt
                    gi_wp2
                    exact HEnd.out
              case done3 =>
                rintro zs W5 hS sm5
                have hzl : zs.length = M.length := by
                  have h5 := congrArg List.length hS
                  have h6 := congrArg List.length HMe.out
                  simp only [List.length_map] at h5 h6
                  omega
                rw [hzl] at sm5
                have hbY := Below.step HSn.out.sm.bel sm5.bel
                obtain ⟨hkM, hxl, gw, la, lc, hza, e0, e1, hoM, cw⟩ := HWx.out.item hbY HPx.out
                subst hza
                have cm := sm5.cell.1
                have cn : W5.cell? ⟨wr.heap.size, 0, none⟩ = some (.int .i64 (pre.length : Int)) := (HSn.out.sm.below sm5.bel).cell.1
                have HE : Hid (Calls Try.prog 9 #[.slice ax xl.length cx, .slice la xl.length lc] W5 fun e w' => e = .returned (.bool true) ∧ Below W5.heap.size W5 w') := by
                  have h5 := requal4_any _ _ xl xl W5 ((HOx.out.below sm5.bel).rd (by omega)) (hoM.rd (by omega))
                  rw [show (xl == xl) = true from beq_self_eq_true xl] at h5
                  exact h5
                have HLen : Hid ((pre ++ [((xp, .slice ax xl.length cx, xl) : Itl)]).length = pre.length + 1) := by show _ = _; simp
                have HB5 : Hid (Below W.heap.size W W5) := sm5.bel
                have hbx : (xp == xp) = true := beq_self_eq_true _
                have hbn : (xp != xp) = false := by simp
                have hbm : ((M.length : Int) != (M.length : Int)) = false := by simp
                have hki : (pre.length : Int) < (M.length : Int) := by omega
                have hkb : pre.length ≤ 4194306 := by omega
                clear hS hzl sm5 hbY hoM hkM
                generalize hkp : pre.length = kp at *
                gi_wp2_with fail
                refine ⟨trivial, ?_⟩
                refine ((callsIn_wide.2 HE.out).inRound l').mono ?_
                rintro e w6 ⟨rfl, b6⟩
                have HB6 : Hid (Below W.heap.size W w6) := Below.step HB5.out b6
                have c6 := (HSn.out.sm.below HB6.out).cell.1
                have f6 := (HSn.out.sm.below HB6.out).cell.2
                have HEnd : Hid (KeepsOthers W (w6.setCell ⟨wr.heap.size, 0, none⟩ (.int .i64 ((kp : Int) + 1))) ∧ Kq (Qw Bl g u S) W (w6.setCell ⟨wr.heap.size, 0, none⟩ (.int .i64 ((kp : Int) + 1))) ∧ Sn wr (w6.setCell ⟨wr.heap.size, 0, none⟩ (.int .i64 ((kp : Int) + 1))) (pre ++ [((xp, .slice ax xl.length cx, xl) : Itl)]).length Dm) := by
                  refine ⟨(keeps_below4 HB6.out).trans (KeepsOthers.setCell _ _ _), sm_kq HWx.out.lt HSn.out.sm HB6.out, ⟨by rw [HLen.out]; exact (HSn.out.sm.below HB6.out).next, ?_⟩⟩
                  have h5 := (HB6.out.block Dm (Array.getElem?_eq_some_iff.1 HSn.out.dm).1).trans HSn.out.dm
                  exact (KeepsOthers.setCell w6 ⟨wr.heap.size, 0, none⟩ (.int .i64 ((kp : Int) + 1))).same Dm _ h5 rfl
                clear b6 cn cm cw e0 e1
                gi_wp2
                exact HEnd.out
            case done2 =>
              rintro D2 ys W5 hD2 hS sn5 hK5
              have hyl : ys.length = M.length := by
                have h5 := congrArg List.length hS
                have h6 := congrArg List.length HMe.out
                simp only [List.length_map] at h5 h6
                omega
              rw [hyl] at sn5
              have HO5' : Hid (On Wb W5 D a m (2 + cost ops + cost opt) v6 S6) := HOz.out.oq.on.below sn5.sm.bel
              have HRb : Hid (∀ W, Below W5.heap.size W5 W → W.heap[w.heap.size + 1]? = some (.cells #[.bool false] 4 (0, 0))) := fun W hW => by
                have hl := (Array.getElem?_eq_some_iff.1 HKb.out.2.2).1
                have hb := Below.step (Below.step HOz.out.oq.bel sn5.sm.bel) hW
                exact (hb.block _ hl).trans HKb.out.2.2
              have HSc : Hid (∀ W, Below W5.heap.size W5 W → W.cell? ⟨wr.heap.size, 0, none⟩ = some (.int .i64 (M.length : Int)) ∧ W.cell? ⟨w3.heap.size + 1, 0, none⟩ = some (.slice za M.length zc) ∧ W.cell? ⟨D, 0, none⟩ = some (.pointer (some ⟨a, 0, none⟩)) ∧ W.cell? ⟨D, 1, none⟩ = some (.pointer (some ⟨m, 0, none⟩)) ∧ W.cell? ⟨w.heap.size + 1, 0, none⟩ = some (.bool false) ∧ W.frozen? ⟨w.heap.size + 1, 0, none⟩ = false) := fun W hW => by
                have hb := Below.step sn5.sm.bel hW
                have h5 := (hb.block _ (Array.getElem?_eq_some_iff.1 HWx.out.wb).1).trans HWx.out.wb
                have h6 := HRb.out W hW
                exact ⟨(sn5.sm.below hW).cell.1, by simp only [World.cell?, h5]; rfl, (on_cells (HO5'.out.below hW)).1, (on_cells (HO5'.out.below hW)).2, by simp only [World.cell?, h6]; rfl, by simp only [World.frozen?, h6]; rfl⟩
              have hNN : 2 + cost ops + cost opt ≤ 1099511627776 := by have := HC.out; omega
              have HNN : Hid (2 + cost ops + cost opt ≤ 1099511627776) := hNN
              have HMk : Hid (W5.heap[Dm]? = some (.deferred (some [])) ∧ W5.heap[D2]? = some (.deferred (some []))) := ⟨sn5.dm, hK5⟩
              have HB5w : Hid (Below w.heap.size w W5) := Below.step HKb.out.1 (Below.step HOz.out.oq.bel sn5.sm.bel)
              have hsw5 : w.heap.size + 2 ≤ wr.heap.size := by
                have h1 := (Array.getElem?_eq_some_iff.1 HKb.out.2.2).1
                have h2 := HOz.out.oq.bel.size
                omega
              have hbe : ((M.length : Int) == (M.length : Int)) = true := beq_self_eq_true _
              have HS4 : Hid (∀ W, Below W5.heap.size W5 W → W.cell? ⟨wr.heap.size, 0, none⟩ = some (.int .i64 (M.length : Int)) ∧ W.cell? ⟨w3.heap.size + 1, 0, none⟩ = some (.slice za M.length zc) ∧ W.cell? ⟨D, 0, none⟩ = some (.pointer (some ⟨a, 0, none⟩)) ∧ W.cell? ⟨D, 1, none⟩ = some (.pointer (some ⟨m, 0, none⟩))) := fun W hW => by
                obtain ⟨q1, q2, q3, q4, _, _⟩ := HSc.out W hW
                exact ⟨q1, q2, q3, q4⟩
              have hWbs : w.heap.size + 1 < Wb.heap.size := (Array.getElem?_eq_some_iff.1 HKb.out.2.2).1
              have hDs : Wb.heap.size ≤ D := by
                obtain ⟨F, rv, L, tv, mv, T, p, f, n1, n2⟩ := HO5'.out.ex
                exact f D p.fD.1
              have hLs : Wb.heap.size ≤ w3.heap.size := Nat.le_trans HBw3.out HB3.out
              have HSt0 : Hid (∀ W y, Below W5.heap.size W5 W → (W.setCell ⟨w.heap.size + 1, 0, none⟩ y).cell? ⟨wr.heap.size, 0, none⟩ = some (.int .i64 (M.length : Int)) ∧ (W.setCell ⟨w.heap.size + 1, 0, none⟩ y).cell? ⟨w3.heap.size + 1, 0, none⟩ = some (.slice za M.length zc) ∧ (W.setCell ⟨w.heap.size + 1, 0, none⟩ y).cell? ⟨D, 0, none⟩ = some (.pointer (some ⟨a, 0, none⟩)) ∧ (W.setCell ⟨w.heap.size + 1, 0, none⟩ y).cell? ⟨D, 1, none⟩ = some (.pointer (some ⟨m, 0, none⟩))) := fun W y hW => by
                obtain ⟨q1, q2, q3, q4⟩ := HS4.out W hW
                have hg := grown_set W ⟨w.heap.size + 1, 0, none⟩ y
                have key : ∀ k o z, k ≠ w.heap.size + 1 → W.cell? ⟨k, o, none⟩ = some z → (W.setCell ⟨w.heap.size + 1, 0, none⟩ y).cell? ⟨k, o, none⟩ = some z := fun k o z hk hz => (World.cell?_of_block (hg.block k (World.block_lt_of_cell? _ _ hz) (by intro e; exact hk (by simpa using e)))).trans hz
                exact ⟨key _ _ _ (by omega) q1, key _ _ _ (by omega) q2, key _ _ _ (by omega) q3, key _ _ _ (by omega) q4⟩
              have HSa := (show Hid _ from HS4.out _ (Below.refl _ _).drew)
              clear hS hyl sn5 hK5 hNN
              go_upto_region 45 with fail
              go_region_held (fun W' => W'.cell? ⟨wr.heap.size, 0, none⟩ = some (.int .i64 (M.length : Int)) ∧ W'.cell? ⟨w3.heap.size + 1, 0, none⟩ = some (.slice za M.length zc) ∧ W'.cell? ⟨D, 0, none⟩ = some (.pointer (some ⟨a, 0, none⟩)) ∧ W'.cell? ⟨D, 1, none⟩ = some (.pointer (some ⟨m, 0, none⟩))) (first | with_reducible exact HSa.out | with_reducible exact HSz.out | with_reducible exact HSy.out | with_reducible exact HSt.out) (first
                | (go_at_call 7; obtain ⟨Lx, eL, cL⟩ := on_same (HO5'.out.below (Below.refl _ _).drew) HNN.out; refine Calls.mono cL ?_; rintro e wy ⟨la5, lc5, rfl, ry, oy, bq⟩; have HRy : Hid (_ ∧ _ ∧ _) := ⟨eL, ry, oy⟩; have HBy : Hid (Below W5.heap.size W5 wy) := Below.step (Below.refl _ _).drew bq; have HSy := (show Hid _ from HS4.out _ HBy.out); clear ry oy bq eL cL)
                | (go_at_call 6; refine Calls.mono (same4_any _ _ _ _ _ _ _ (HO5'.out.below HBy.out).ar (Nat.le_trans (HO5'.out.below HBy.out).fl HNN.out) HRy.out.2.1 HRy.out.2.2 HRy.out.1) ?_; rintro e wz ⟨rfl, bz⟩; have HBz : Hid (Below W5.heap.size W5 wz) := Below.step HBy.out bz; have HSz := (show Hid _ from HS4.out _ HBz.out); have z5 := (HSc.out _ HBz.out).2.2.2.2.1; have z6 := (HSc.out _ HBz.out).2.2.2.2.2; have HSt := (show Hid _ from HSt0.out wz (.bool true) HBz.out); clear bz))
              go_wp2
              have mz1 := (HBz.out.block Dm (Array.getElem?_eq_some_iff.1 HMk.out.1).1).trans HMk.out.1
              have mz2 := (HBz.out.block D2 (Array.getElem?_eq_some_iff.1 HMk.out.2).1).trans HMk.out.2
              have k1 := (KeepsOthers.setCell wz ⟨w.heap.size + 1, 0, none⟩ (.bool true)).same Dm _ mz1 rfl
              have k2 := (KeepsOthers.setCell wz ⟨w.heap.size + 1, 0, none⟩ (.bool true)).same D2 _ mz2 rfl
              have kr : (wz.setCell ⟨w.heap.size + 1, 0, none⟩ (.bool true)).heap[w.heap.size + 1]? = some (.cells #[.bool true] 4 (0, 0)) := set_heap4 (HRb.out _ HBz.out) 0 (.bool true)
              have hDD : Dm ≠ D2 := by omega
              refine ⟨by simp, .inl ⟨_, _, rfl, run_takeDeferred k2, ?_⟩⟩
              have hKD := (World.putObj_heap_other (w := wz.setCell ⟨w.heap.size + 1, 0, none⟩ (.bool true)) (o := .deferred none) hDD).trans k1
              refine ⟨by simp, .inl ⟨_, _, rfl, run_takeDeferred hKD, ?_⟩⟩
              have hr1 := (World.putObj_heap_other (w := wz.setCell ⟨w.heap.size + 1, 0, none⟩ (.bool true)) (o := .deferred none) (k := w.heap.size + 1) (r := D2) (by omega)).trans kr
              have hr2 := (World.putObj_heap_other (w := (wz.setCell ⟨w.heap.size + 1, 0, none⟩ (.bool true)).putObj D2 (.deferred none)) (o := .deferred none) (k := w.heap.size + 1) (r := Dm) (by omega)).trans hr1
              refine ⟨_, res_cell4 rfl rfl (by simp only [World.cell?, hr2]; rfl), rfl, ?_⟩
              exact (((Below.step HB5w.out HBz.out).setCell (p := ⟨w.heap.size + 1, 0, none⟩) (by simp) _).trans (belowK_b (w := w) (Nat.le_refl _) _ D2 _ _ (by omega) k2 rfl rfl)).trans (belowK_b (w := w) (Nat.le_refl _) _ Dm _ _ (by omega) hKD rfl rfl)
end Go.Proofs.Ytbhjpahieghepaa.arenaLives
