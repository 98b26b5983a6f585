/-
  ArenaKeeps, walked.
  KEEP: set on app at below new trans refl start ap kept rd rds mono
-/
import Derived.Test.YtbioehbcopmepaaArK3
import Derived.Deep.CutRange
set_option linter.unusedSimpArgs false
set_option linter.unusedVariables false
namespace Go.Proofs.Ytbioehbcopmepaa
open Go Go.RowKit Go.Maps

theorem infoK : (Try.prog.info? 52).map (fun i => (i.zero, i.size, i.bytes)) = some (some (.agg #[.int .i64 0, .slice none 0 0, .bool false, .bool false]), 4, 40) := by kernel_rfl
theorem ptr_not_nil (a : Addr) (w : World) : (binOp BinOp.eql 23 (.pointer (some a)) (.pointer none)).run Try.prog w = .ok (.bool false) w := by rfl
theorem cell_four_new (w : World) (x0 x1 x2 x3 : Value) (t : TypeId) : ∀ j u, [x0, x1, x2, x3][j]? = some u → (w.alloc (.cells #[x0, x1, x2, x3] t)).cell? ((⟨w.heap.size, 0, none⟩ : Addr).add j) = some u := by
  intro j u hu
  rw [Addr.add_lit, World.cell?_alloc_at _ _ _ _ rfl]
  match j, hu with
  | 0, hu => simpa using hu
  | 1, hu => simpa using hu
  | 2, hu => simpa using hu
  | 3, hu => simpa using hu
theorem rd_two (w : World) (x y : Int) : Rd (w.alloc (.cells #[.int .i64 x, .int .i64 y] 3)) (.slice (some ⟨w.heap.size, 0, none⟩) 2 2) [x, y] := by
  have hh := World.alloc_heap_new w (.cells #[.int .i64 x, .int .i64 y] 3)
  refine ⟨by simp, some ⟨w.heap.size, 0, none⟩, 2, rfl, by simp, by unfold maxLen; omega, by simp, fun _ => ⟨w.heap.size, 0, rfl, by rw [World.size_alloc]; omega, fun j hj => ?_⟩⟩
  have : j < 2 := by simpa using hj
  match j, this with
  | 0, _ => rw [World.cell?_alloc_at _ _ _ _ rfl]; rfl
  | 1, _ => rw [World.cell?_alloc_at _ _ _ _ rfl]; rfl
theorem own_two (w : World) (x y : Int) : Own w.heap.size (w.alloc (.cells #[.int .i64 x, .int .i64 y] 3)) (.slice (some ⟨w.heap.size, 0, none⟩) 2 2) [x, y] :=
  World.ownsRow_lit w #[.int .i64 x, .int .i64 y] 2 (Nat.le_refl _) (by unfold maxLen; omega) (by simp)
/-- where the statement stands -/
structure KI (w W : World) (b : Nat) (v : Value) (S : List Seg) (rv : Value) (L : List Ent) (N : Nat) : Prop where
  k : K0 w W b v S rv L
  eq : bk L = lv 0 S
  pos : 0 < L.length
  words : (flat S).length ≤ N
  len : L.length ≤ N
theorem KI.below {w W W' : World} {b : Nat} {v : Value} {S : List Seg} {rv : Value} {L : List Ent} {N : Nat} (h : KI w W b v S rv L N) (hb : Below W.heap.size W W') : KI w W' b v S rv L N := ⟨h.k.below hb, h.eq, h.pos, h.words, h.len⟩

set_option maxRecDepth 4000 in
set_option maxHeartbeats 12800000 in
theorem arenaKeeps_walk (s : Value) (ops : List AOp) (w : World) (hr : RdO w s ops) (hN : cost ops ≤ 4194304) :
    Calls Try.prog 5 #[s] w fun e w' => e = .returned (.bool true) ∧ Below w.heap.size w w' := by
  obtain ⟨sa, sc, rfl, hsc, hscm, hcells⟩ := hr
  obtain ⟨iK, hiK, hK0, hK1, hK2⟩ := info_parts infoK
  unfold maxLen at hscm
  have HO : Hid (∀ (j : Nat) (hj : j < ops.length), ∃ b off u, sa = some ⟨b, off, none⟩ ∧ b < w.heap.size ∧
    w.cell? ⟨b, off + j * 5, none⟩ = some (.int .i64 ops[j].kind) ∧ w.cell? ⟨b, off + j * 5 + 1, none⟩ = some (.int .i64 ops[j].which) ∧ w.cell? ⟨b, off + j * 5 + 2, none⟩ = some (.int .i64 ops[j].ref) ∧
    w.cell? ⟨b, off + j * 5 + 3, none⟩ = some u ∧ w.cell? ⟨b, off + j * 5 + 4, none⟩ = some (.bool ops[j].learnt) ∧ Rd w u ops[j].lits ∧ (Lit.int .i64 ops[j].ref).wf = true) := hcells
  clear hcells
  go_enter Try.func5, Try.ntmps5
  go_wp2_with fail
  refine (arNew_any w).mono ?_
  rintro e w1 ⟨rfl, rfl⟩
  have hpn := ptr_not_nil ⟨w.heap.size, 0, none⟩
  have HA1 : Hid (Ar (w.alloc (.cells #[.slice none 0 0, .int .i64 0] 88)) w.heap.size (.slice none 0 0) []) := ⟨Bx2.new _ _ _ _, World.ownsRow_nil _ _ _ _, fun x hx => by cases hx⟩
  have HB1 : Hid (Below w.heap.size w (w.alloc (.cells #[.slice none 0 0, .int .i64 0] 88))) := below_box _ _
  have hs1 : (w.alloc (.cells #[.slice none 0 0, .int .i64 0] 88)).heap.size = w.heap.size + 1 := by simp
  generalize w.alloc (.cells #[.slice none 0 0, .int .i64 0] 88) = w1 at *
  go_wp2_with fail
  have HBa : Hid (Below w1.heap.size w1 (((w1.alloc (.cells #[.int .i64 7, .int .i64 (-2)] 3)).alloc (.cells #[.int .i64 0, .slice (some ⟨w.heap.size + 1, 0, none⟩) 2 2, .bool false, .bool true] 52)).alloc (.cells #[.int .i64 7, .int .i64 (-2)] 3))) := Below.step (Below.step (below_box _ _) (below_box _ _)) (below_box _ _)
  have HOf : Hid (Own w1.heap.size (((w1.alloc (.cells #[.int .i64 7, .int .i64 (-2)] 3)).alloc (.cells #[.int .i64 0, .slice (some ⟨w.heap.size + 1, 0, none⟩) 2 2, .bool false, .bool true] 52)).alloc (.cells #[.int .i64 7, .int .i64 (-2)] 3)) (.slice (some ⟨w.heap.size + 1, 0, none⟩) 2 2) [7, -2]) := by
    have := ((own_two w1 7 (-2)).below (below_box _ (.cells #[.int .i64 0, .slice (some ⟨w.heap.size + 1, 0, none⟩) 2 2, .bool false, .bool true] 52))).below (below_box _ (.cells #[.int .i64 7, .int .i64 (-2)] 3))
    rw [hs1] at this ⊢; exact this
  have HRd : Hid (Rd (((w1.alloc (.cells #[.int .i64 7, .int .i64 (-2)] 3)).alloc (.cells #[.int .i64 0, .slice (some ⟨w.heap.size + 1, 0, none⟩) 2 2, .bool false, .bool true] 52)).alloc (.cells #[.int .i64 7, .int .i64 (-2)] 3)) (.slice (some ⟨w.heap.size + 1 + 1 + 1, 0, none⟩) 2 2) [7, -2]) := by
    have := rd_two ((w1.alloc (.cells #[.int .i64 7, .int .i64 (-2)] 3)).alloc (.cells #[.int .i64 0, .slice (some ⟨w.heap.size + 1, 0, none⟩) 2 2, .bool false, .bool true] 52)) 7 (-2)
    rw [show ((w1.alloc (.cells #[.int .i64 7, .int .i64 (-2)] 3)).alloc (.cells #[.int .i64 0, .slice (some ⟨w.heap.size + 1, 0, none⟩) 2 2, .bool false, .bool true] 52)).heap.size = w.heap.size + 1 + 1 + 1 by simp [hs1]] at this
    exact this
  have HBx : Hid ((((w1.alloc (.cells #[.int .i64 7, .int .i64 (-2)] 3)).alloc (.cells #[.int .i64 0, .slice (some ⟨w.heap.size + 1, 0, none⟩) 2 2, .bool false, .bool true] 52)).alloc (.cells #[.int .i64 7, .int .i64 (-2)] 3)).heap[w.heap.size + 1 + 1]? = some (.cells #[.int .i64 0, .slice (some ⟨w.heap.size + 1, 0, none⟩) 2 2, .bool false, .bool true] 52 (0, 0))) := by
    show _ = _
    have h1 := World.alloc_heap_new (w1.alloc (.cells #[.int .i64 7, .int .i64 (-2)] 3)) (.cells #[.int .i64 0, .slice (some ⟨w.heap.size + 1, 0, none⟩) 2 2, .bool false, .bool true] 52)
    rw [show (w1.alloc (.cells #[.int .i64 7, .int .i64 (-2)] 3)).heap.size = w.heap.size + 1 + 1 by simp [hs1]] at h1
    rw [(below_box ((w1.alloc (.cells #[.int .i64 7, .int .i64 (-2)] 3)).alloc (.cells #[.int .i64 0, .slice (some ⟨w.heap.size + 1, 0, none⟩) 2 2, .bool false, .bool true] 52)) (.cells #[.int .i64 7, .int .i64 (-2)] 3)).block (w.heap.size + 1 + 1) (by simp [hs1])]
    exact h1
  have hsz4 : (((w1.alloc (.cells #[.int .i64 7, .int .i64 (-2)] 3)).alloc (.cells #[.int .i64 0, .slice (some ⟨w.heap.size + 1, 0, none⟩) 2 2, .bool false, .bool true] 52)).alloc (.cells #[.int .i64 7, .int .i64 (-2)] 3)).heap.size = w.heap.size + 4 := by simp [hs1]
  generalize (((w1.alloc (.cells #[.int .i64 7, .int .i64 (-2)] 3)).alloc (.cells #[.int .i64 0, .slice (some ⟨w.heap.size + 1, 0, none⟩) 2 2, .bool false, .bool true] 52)).alloc (.cells #[.int .i64 7, .int .i64 (-2)] 3)) = w4 at *
  refine (arPut_any w.heap.size (.slice none 0 0) _ [] [7, -2] false w4 (HA1.out.below HBa.out) HRd.out (fun g hg => ?_) rfl (by simp [flat])).mono ?_
  · obtain rfl : g = w.heap.size + 1 + 1 + 1 := by simpa [Value.ownBlock] using hg.symm
    exact ⟨by omega, by simp [Value.ownBlock]⟩
  rintro e w5 ⟨rfl, v5, ar5, mv5⟩
  have HC0 : Hid (w5.heap[w.heap.size + 1 + 1]? = some (.cells #[.int .i64 0, .slice (some ⟨w.heap.size + 1, 0, none⟩) 2 2, .bool false, .bool true] 52 (0, 0))) := by
    show _ = _
    rw [mv5.block _ (by omega) (by omega) (by simp [Value.ownBlock])]; exact HBx.out
  have HK5 : Hid (K0 w w5 w.heap.size v5 [⟨[7, -2], false, true⟩] (.slice none 0 0) []) := by
    have h0 : K0 w w4 w.heap.size (.slice none 0 0) [] (.slice none 0 0) [] := ⟨HA1.out.below HBa.out, ⟨World.ownsRow_nil _ _ _ _, fun x hx => (by cases hx)⟩, fun x hx => (by cases hx), HB1.out.trans (HBa.out.mono (by omega)), Nat.le_refl _, fun g hg => (by cases hg)⟩
    exact h0.mv mv5 ar5
  have HU5 : Hid (Own w.heap.size w5 (.slice (some ⟨w.heap.size + 1, 0, none⟩) 2 2) [7, -2]) := (HOf.out.mono (by omega)).mv mv5 (fun g hg => by obtain rfl : g = w.heap.size + 1 := (by simpa [Value.ownBlock] using hg.symm); exact ⟨by omega, by simp [Value.ownBlock]⟩)
  have HS5 : Hid (∀ g, v5.ownBlock = some g → w.heap.size + 1 ≠ g) := fun g hg e => by
    rcases mv5.new with h1 | h1
    · rw [h1] at hg; cases hg
    · have := h1 g hg; omega
  have hsz5 : w.heap.size + 4 ≤ w5.heap.size := by rw [← hsz4]; exact mv5.size
  have k0 : w5.cell? ⟨w.heap.size + 1 + 1, 0, none⟩ = some (.int .i64 0) := by simp [World.cell?, HC0.out]
  have k1 : w5.cell? ⟨w.heap.size + 1 + 1, 1, none⟩ = some (.slice (some ⟨w.heap.size + 1, 0, none⟩) 2 2) := by simp [World.cell?, HC0.out]
  have k2 : w5.cell? ⟨w.heap.size + 1 + 1, 2, none⟩ = some (.bool false) := by simp [World.cell?, HC0.out]
  have k3 : w5.cell? ⟨w.heap.size + 1 + 1, 3, none⟩ = some (.bool true) := by simp [World.cell?, HC0.out]
  clear ar5 mv5 HBx HRd HOf HBa HA1 HB1 hpn
  go_wp2_with (at_builtin; refine wpList_append_own _ rfl _ _ 50 rfl w.heap.size 52 iK (.agg #[.int .i64 0, .slice none 0 0, .bool false, .bool false]) 4 40 Try.underlying50 hiK hK0 hK1 hK2 rfl (by decide) _ 0 [] rfl (World.ownsRow_nil _ _ _ _) _ 1 1 [.int .i64 0, .slice (some ⟨w.heap.size + 1, 0, none⟩) 2 2, .bool false, .bool true] rfl rfl (cell_four_new _ _ _ _ _ _) (by simp [Value.oneCell']) (by unfold maxLen; omega) (by omega) (by simp; omega) ?_; intro rv6 w6 own6 gr6 hn6; clear hn6; obtain ⟨ra6, rc6, hrv6⟩ := row_form4 own6; subst hrv6; have HR6 : Hid (w6.ownsRow w.heap.size 52 4 (.slice ra6 1 rc6) 1 [.int .i64 0, .slice (some ⟨w.heap.size + 1, 0, none⟩) 2 2, .bool false, .bool true]) := own6; have HG6 : Hid ((w5.alloc (.cells #[.int .i64 0, .slice (some ⟨w.heap.size + 1, 0, none⟩) 2 2, .bool false, .bool true] 52)).grownBy w6 none) := gr6; clear own6 gr6 k0 k1 k2 k3)
  have HI0 : Hid (∃ v, KI w w6 w.heap.size v [⟨[7, -2], false, true⟩] (.slice ra6 1 rc6) [(.slice (some ⟨w.heap.size + 1, 0, none⟩) 2 2, ⟨0, [7, -2], false, true⟩)] (3 + cost (ops.take 0))) := by
    have b56 : Below w5.heap.size w5 w6 := Below.step (below_box _ _) ⟨HG6.out.os, HG6.out.tape, HG6.out.output, HG6.out.size, fun k hk => HG6.out.block k hk (by simp)⟩
    refine ⟨v5, ⟨⟨HK5.out.ar.below b56, ⟨HR6.out, fun x hx => ?_⟩, fun x hx g hg => ?_, HK5.out.bel.trans (b56.mono HK5.out.bel.size), Nat.le_refl _, HK5.out.hv⟩, by simp [bk, lv], by simp, by simp [flat, cost], by simp [cost]⟩⟩
    · obtain rfl := List.mem_singleton.1 hx
      exact HU5.out.below b56
    · obtain rfl := List.mem_singleton.1 hx
      obtain rfl : g = w.heap.size + 1 := by simpa [Value.ownBlock] using hg.symm
      exact ⟨by omega, fun e => HS5.out _ e.symm rfl⟩
  have HSz : Hid (∀ i, cost (ops.take i) ≤ cost ops) := cost_le ops
  clear HR6 HG6 HK5 HU5 HS5 HC0 hsz5 hsz4 hs1
  go_wp2
  go_loopg [4, 8] ops.length (fun g s4 s8 wr => ∃ (i : Nat) (S : List Seg) (L : List Ent) (v : Value), i + g = ops.length ∧ s8 = .int .i64 i ∧ Hid (KI w wr w.heap.size v S s4 L (3 + cost (ops.take i))))
  case atStart =>
    obtain ⟨v, hv⟩ := HI0.out
    exact ⟨0, _, _, v, by omega, rfl, hv⟩
  case round =>
    obtain ⟨i, S, L, v, hi, rfl, HI⟩ := hrel
    have HIn : Hid (i + gk = ops.length) := hi
    by_cases hlt : i < ops.length
    · obtain ⟨sb, so, lu, hsa, hsbl, o0, o1, o2, o3, o4, hrd, hwf⟩ := HO.out i hlt
      subst hsa
      have HB := HI.out.k.bel
      have hc : ∀ o, wr.cell? ⟨sb, o, none⟩ = w.cell? ⟨sb, o, none⟩ := fun o => HB.cell (p := ⟨sb, o, none⟩) hsbl
      have HCost : Hid (cost (ops.take (i + 1)) = cost (ops.take i) + 1 + ops[i].lits.length) := cost_take ops i hlt
      have hcn := HSz.out (i + 1)
      rw [HCost.out] at hcn
      obtain ⟨la, lc, rfl, _⟩ := hrd.form
      have p0 : wr.cell? ⟨sb, so + i * 5, none⟩ = some (.int .i64 ops[i].kind) := (hc _).trans o0
      have p1 : wr.cell? ⟨sb, so + i * 5 + 1, none⟩ = some (.int .i64 ops[i].which) := (hc _).trans o1
      have p2 : wr.cell? ⟨sb, so + i * 5 + 2, none⟩ = some (.int .i64 ops[i].ref) := (hc _).trans o2
      have p3 : wr.cell? ⟨sb, so + i * 5 + 3, none⟩ = some (.slice la ops[i].lits.length lc) := (hc _).trans o3
      have p4 : wr.cell? ⟨sb, so + i * 5 + 4, none⟩ = some (.bool ops[i].learnt) := (hc _).trans o4
      have HRd : Hid (Rd w (.slice la ops[i].lits.length lc) ops[i].lits) := hrd
      have HWf : Hid ((Lit.int .i64 ops[i].ref).wf = true) := hwf
      clear o0 o1 o2 o3 o4 hrd hwf hc HB hi
      have HWords := HI.out.words
      have HLen := HI.out.len
      obtain ⟨ra, rc, hs4⟩ := row_form4 HI.out.k.bok.row
      subst hs4
      have HI1 : Hid (KI w (wr.alloc (.cells #[.int .i64 ops[i].kind, .int .i64 ops[i].which, .int .i64 ops[i].ref, .slice la ops[i].lits.length lc, .bool ops[i].learnt] 34)) w.heap.size v S (.slice ra L.length rc) L (3 + cost (ops.take i))) := HI.out.below (below_box _ _)
      have HBx : Hid (Bx5 (wr.alloc (.cells #[.int .i64 ops[i].kind, .int .i64 ops[i].which, .int .i64 ops[i].ref, .slice la ops[i].lits.length lc, .bool ops[i].learnt] 34)) wr.heap.size (.int .i64 ops[i].kind) (.int .i64 ops[i].which) (.int .i64 ops[i].ref) (.slice la ops[i].lits.length lc) (.bool ops[i].learnt)) := Bx5.new _ _ _ _ _ _
      have hzz : wr.heap.size < (wr.alloc (.cells #[.int .i64 ops[i].kind, .int .i64 ops[i].which, .int .i64 ops[i].ref, .slice la ops[i].lits.length lc, .bool ops[i].learnt] 34)).heap.size := HBx.out.lt
      generalize ops[i] = o at *
      go_wp2_with fail
      generalize (wr.alloc (.cells #[.int .i64 o.kind, .int .i64 o.which, .int .i64 o.ref, .slice la o.lits.length lc, .bool o.learnt] 34)) = W0 at *
      have hl8 : (flat S).length * 8 ≤ 140737488351232 := by omega
      have hl32 : (flat S).length * 32 ≤ 140737488351232 := by omega
      refine (arWords_any w.heap.size v S W0 HI1.out.k.ar hl8).mono ?_
      rintro e w2 ⟨rfl, rfl⟩
      obtain ⟨q0, q2, q3, q4⟩ := HBx.out.c
      clear p0 p1 p2 p3 p4
      by_cases hk1 : o.kind = 1
      · rw [hk1] at q0
        have HRd2 : Hid (Rd w2 (.slice la o.lits.length lc) o.lits) := HRd.out.below (by have := HI1.out.k.bel; exact this)
        have h8 := HRd2.out.len
        have HCp : Hid (∀ W, Below w2.heap.size w2 W → Calls Try.prog 17 #[.slice la o.lits.length lc] W fun e w' => ∃ v', e = .returned v' ∧ Own W.heap.size w' v' o.lits ∧ Below W.heap.size W w') := fun W hW => copied4_any _ _ W (HRd2.out.below hW)
        have HS : Hid (∀ W, Below w2.heap.size w2 W → W.cell? ⟨wr.heap.size, 3, none⟩ = some (.slice la o.lits.length lc) ∧ W.cell? ⟨wr.heap.size, 4, none⟩ = some (.bool o.learnt)) := fun W hW => ⟨(HBx.out.below hW).c.2.2.1, (HBx.out.below hW).c.2.2.2⟩
        cases hsd : o.lits.all fmd
        · have HPut : Hid (∀ W u, Own w2.heap.size W u o.lits → Calls Try.prog 15 #[.pointer (some ⟨w.heap.size, 0, none⟩), u, .bool o.learnt] W fun e w' => e = .returned (.tuple #[.int .i64 0, .int .i64 1]) ∧ w' = W) := fun W u hu => put_bad _ u o.lits _ W (hu.rd h8) hsd
          have HSnd : Hid (∀ W, Below w2.heap.size w2 W → Calls Try.prog 18 #[.slice la o.lits.length lc] W fun e w' => e = .returned (.bool false) ∧ w' = W) := fun W hW => by rw [← hsd]; exact sound4_any _ _ W (HRd2.out.below hW)
          clear hk1
          go_wp2_with fail
          go_region_held (fun W => W.cell? ⟨wr.heap.size, 3, none⟩ = some (.slice la o.lits.length lc) ∧ W.cell? ⟨wr.heap.size, 4, none⟩ = some (.bool o.learnt)) (first | exact HS.out _ (Below.refl _ _).drew | exact HS.out _ b3.out) (first
            | (go_at_call 17; refine (HCp.out _ (Below.refl _ _).drew).mono ?_; rintro e w3 ⟨u3, rfl, own3, bel3⟩; have O3 : Hid (Own w2.heap.size w3 u3 o.lits) := own3; have b3 : Hid (Below w2.heap.size w2 w3) := Below.step (Below.refl _ _).drew bel3; clear own3 bel3)
            | (go_at_call 15; refine (HPut.out _ _ O3.out).mono ?_; rintro e w4 ⟨rfl, rfl⟩))
          all_goals
            have d3 := (HS.out _ b3.out).1
            have hbb : (((flat S).length : Int) == ((flat S).length : Int)) = true := beq_self_eq_true _
            go_wp2_with fail
            refine (HSnd.out _ b3.out).mono ?_
            rintro e w5 ⟨rfl, rfl⟩
            go_wp2_with fail
            refine (arWords_any w.heap.size v S _ (HI1.out.k.ar.below b3.out) hl8).mono ?_
            rintro e w6 ⟨rfl, rfl⟩
            go_wp2
            go_roundg (gk - 1)
            case measure => have := HIn.out; omega
            case rel => exact ⟨i + 1, S, L, v, by have := HIn.out; omega, by go_num, (HI1.out.k.below b3.out), HI1.out.eq, HI1.out.pos, by rw [HCost.out]; omega, by rw [HCost.out]; omega⟩
        · have HPut : Hid (∀ W u, Below w2.heap.size w2 W → Own w2.heap.size W u o.lits → Calls Try.prog 15 #[.pointer (some ⟨w.heap.size, 0, none⟩), u, .bool o.learnt] W fun e w' => PutS W w.heap.size v S ⟨o.lits, o.learnt, true⟩ e w') := fun W u hW hu => by
            refine arPut_any w.heap.size v u S o.lits o.learnt W (HI1.out.k.ar.below hW) (hu.rd h8) (fun g hg => ?_) hsd (by omega)
            have h1 := (hu.lt g hg).1
            refine ⟨?_, fun e => ?_⟩
            · have := HI1.out.k.ar.box.lt; omega
            · have := (HI1.out.k.ar.own.lt g e.symm).2; omega
          have HSnd : Hid (∀ W, Rd W (.slice la o.lits.length lc) o.lits → Calls Try.prog 18 #[.slice la o.lits.length lc] W fun e w' => e = .returned (.bool true) ∧ w' = W) := fun W hW => by rw [← hsd]; exact sound4_any _ _ W hW
          have HFl : Hid ((flat (S ++ [⟨o.lits, o.learnt, true⟩])).length = (flat S).length + 1 + o.lits.length) := by show _ = _; rw [flat_one]; simp; omega
          clear hk1
          go_wp2_with fail
          go_region_held (fun W => W.cell? ⟨wr.heap.size, 3, none⟩ = some (.slice la o.lits.length lc) ∧ W.cell? ⟨wr.heap.size, 4, none⟩ = some (.bool o.learnt)) (first | exact HS.out _ (Below.refl _ _).drew | exact HS.out _ b3.out | exact ⟨M4.out.1.c.2.2.1, M4.out.1.c.2.2.2⟩) (first
            | (go_at_call 17; refine (HCp.out _ (Below.refl _ _).drew).mono ?_; rintro e w3 ⟨u3, rfl, own3, bel3⟩; have O3 : Hid (Own w2.heap.size w3 u3 o.lits) := own3; have b3 : Hid (Below w2.heap.size w2 w3) := Below.step (Below.refl _ _).drew bel3; clear own3 bel3)
            | (go_at_call 15; refine (HPut.out _ _ b3.out O3.out).mono ?_; rintro e w4 ⟨rfl, v4, ar4, mv4⟩; have M4 : Hid (Bx5 w4 wr.heap.size (.int .i64 o.kind) (.int .i64 o.which) (.int .i64 o.ref) (.slice la o.lits.length lc) (.bool o.learnt) ∧ K0 w w4 w.heap.size v4 (S ++ [⟨o.lits, o.learnt, true⟩]) (.slice ra L.length rc) L) := ⟨(HBx.out.below b3.out).mv (HI1.out.k.ar.below b3.out) mv4, (HI1.out.k.below b3.out).mv mv4 ar4⟩; clear ar4 mv4))
          all_goals
            have HR4 : Hid (Rd w4 (.slice la o.lits.length lc) o.lits) := HRd.out.below M4.out.2.bel
            have d3 := M4.out.1.c.2.2.1
            have d4 := M4.out.1.c.2.2.2
            have hbb : (((flat S).length : Int) == ((flat S).length : Int)) = true := beq_self_eq_true _
            go_wp2_with fail
            refine (HSnd.out _ HR4.out).mono ?_
            rintro e w5 ⟨rfl, rfl⟩
            have HWd : Hid (∀ W, Below w5.heap.size w5 W → Calls Try.prog 16 #[.pointer (some ⟨w.heap.size, 0, none⟩)] W fun e w' => e = .returned (.int .i64 (((flat S).length : Int) + 1 + (o.lits.length : Int))) ∧ w' = W) := fun W hW => by
              have := arWords_any w.heap.size v4 (S ++ [⟨o.lits, o.learnt, true⟩]) W (M4.out.2.ar.below hW) (by rw [HFl.out]; omega)
              rw [HFl.out, show (((flat S).length + 1 + o.lits.length : Nat) : Int) = ((flat S).length : Int) + 1 + (o.lits.length : Int) by omega] at this
              exact this
            have hbc : ((((flat S).length : Int) + 1 + (o.lits.length : Int)) == (((flat S).length : Int) + 1 + (o.lits.length : Int))) = true := beq_self_eq_true _
            go_wp2_with fail
            go_quiet ((go_at_call 16; exact Calls.quiet_of_same (HWd.out _ (below_drewN _ _))))
            have M6 : Hid (Bx5 (w5.drewN nq) wr.heap.size (.int .i64 o.kind) (.int .i64 o.which) (.int .i64 o.ref) (.slice la o.lits.length lc) (.bool o.learnt) ∧ K0 w (w5.drewN nq) w.heap.size v4 (S ++ [⟨o.lits, o.learnt, true⟩]) (.slice ra L.length rc) L) := ⟨M4.out.1.below (below_drewN _ _), M4.out.2.below (below_drewN _ _)⟩
            have HR6 : Hid (Rd (w5.drewN nq) (.slice la o.lits.length lc) o.lits) := HR4.out.below (below_drewN _ _)
            generalize w5.drewN nq = w6 at *
            have HCp6 : Hid (∀ W, Below w6.heap.size w6 W → Calls Try.prog 17 #[.slice la o.lits.length lc] W fun e w' => ∃ v', e = .returned v' ∧ Own W.heap.size w' v' o.lits ∧ Below W.heap.size W w') := fun W hW => copied4_any _ _ W (HR6.out.below hW)
            clear d3 d4 q0 q2 q3 q4 hbb hbc HWd HSnd HPut HCp HS
            have d3 := M6.out.1.c.2.2.1
            have d4 := M6.out.1.c.2.2.2
            have hs6 : w.heap.size ≤ w6.heap.size := M6.out.2.bel.size
            go_wp2_with fail
            go_region_law (first
              | (go_simp; go_at_call 17; refine (HCp6.out _ (Below.refl _ _).drew).mono ?_; rintro e w7 ⟨u7, rfl, own7, bel7⟩; obtain ⟨ua7, uc7, hu7⟩ := own_form own7; subst hu7; have O7 : Hid (Own w6.heap.size w7 (.slice ua7 o.lits.length uc7) o.lits) := own7; have b7 : Hid (Below w6.heap.size w6 w7) := Below.step (Below.refl _ _).drew bel7; have e4 := (M6.out.1.below b7.out).c.2.2.2; have R7 : Hid (w7.ownsRow w.heap.size 52 4 (.slice ra L.length rc) L.length (rowsK L)) := (M6.out.2.below b7.out).bok.row; have s7 : w6.heap.size ≤ w7.heap.size := b7.out.size; clear own7 bel7; dsimp only)
              | (refine step_append_own rfl (.tmp 94) (.tmp 102) 50 rfl w.heap.size 52 iK (.agg #[.int .i64 0, .slice none 0 0, .bool false, .bool false]) 4 40 Try.underlying50 hiK hK0 hK1 hK2 rfl (by decide) (.slice ra L.length rc) L.length (rowsK L) (by simp [Act.eval, Act.put]) (World.ownsRow.alloc R7.out _) ⟨w7.heap.size, 0, none⟩ 1 1 [.int .i64 (flat S).length, .slice ua7 o.lits.length uc7, .bool o.learnt, .bool true] (by simp [Act.eval, Act.put]) rfl (cell_four_new _ _ _ _ _ _) (by simp [Value.oneCell']) (by unfold maxLen; omega) (by omega) (by simp; omega) ?_; intro rv8 w8 own8 gr8; obtain ⟨ra8, rc8, hrv8⟩ := row_form4 own8; subst hrv8; have K8 : Hid (K0 w w8 w.heap.size v4 (S ++ [⟨o.lits, o.learnt, true⟩]) (.slice ra8 (L.length + 1) rc8) (L ++ [(.slice ua7 o.lits.length uc7, ⟨(flat S).length, o.lits, o.learnt, true⟩)])) := M6.out.2.book (k := ⟨(flat S).length, o.lits, o.learnt, true⟩) (Below.step b7.out (below_box _ _)) (O7.out.below (below_box _ _)) own8 gr8; clear own8 gr8))
            all_goals
              have E8 : Hid (bk (L ++ [(.slice ua7 o.lits.length uc7, ⟨(flat S).length, o.lits, o.learnt, true⟩)]) = lv 0 (S ++ [⟨o.lits, o.learnt, true⟩])) := by
                show _ = _
                rw [bk_append, lv_append, HI1.out.eq]; simp [bk, lv]
              have L8 : Hid ((L ++ [((.slice ua7 o.lits.length uc7, ⟨(flat S).length, o.lits, o.learnt, true⟩) : Ent)]).length = L.length + 1) := by show _ = _; simp
              clear d3 d4
              go_wp2_with fail
              refine (found_any w.heap.size w.heap.size v4 _ (S ++ [⟨o.lits, o.learnt, true⟩]) _ w8 (K8.out.kst E8.out) (by rw [HFl.out]; omega)).mono ?_
              rintro e w9 ⟨rfl, bel9⟩
              go_wp2
              go_roundg (gk - 1)
              case measure => have := HIn.out; omega
              case rel => exact ⟨i + 1, _, _, v4, by have := HIn.out; omega, by go_num, K8.out.below bel9, E8.out, by rw [L8.out]; omega, by rw [HFl.out, HCost.out]; omega, by rw [L8.out, HCost.out]; omega⟩
      · by_cases hk4 : o.kind = 4
        · rw [hk4] at q0
          have HNeg : Hid (∀ W, Below w2.heap.size w2 W → Calls Try.prog 19 #[.pointer (some ⟨w.heap.size, 0, none⟩), .int .i64 (-1)] W fun e w' => e = .returned (.int .i64 2) ∧ w' = W) := fun W hW => arDrop_none w.heap.size v S (-1) W (HI1.out.k.ar.below hW) hl8 (find_neg (by omega))
          have HEnd : Hid (∀ W, Below w2.heap.size w2 W → Calls Try.prog 19 #[.pointer (some ⟨w.heap.size, 0, none⟩), .int .i64 ((flat S).length : Int)] W fun e w' => e = .returned (.int .i64 2) ∧ w' = W) := fun W hW => arDrop_none w.heap.size v S _ W (HI1.out.k.ar.below hW) hl8 (find_end S)
          have hpos := HI1.out.pos
          clear hk1
          by_cases hneg : o.ref < 0
          · go_wp2_with fail
            refine (HNeg.out _ (Below.refl _ _)).mono ?_
            rintro e w3 ⟨rfl, rfl⟩
            go_wp2_with fail
            refine (HEnd.out _ (Below.refl _ _)).mono ?_
            rintro e w4 ⟨rfl, rfl⟩
            go_wp2
            go_roundg (gk - 1)
            case measure => have := HIn.out; omega
            case rel => exact ⟨i + 1, S, L, v, by have := HIn.out; omega, by go_num, HI1.out.k, HI1.out.eq, HI1.out.pos, by rw [HCost.out]; omega, by rw [HCost.out]; omega⟩
          · obtain ⟨k, hk⟩ : ∃ k : Nat, o.ref.tmod (L.length : Int) = (k : Int) := ⟨(o.ref.tmod (L.length : Int)).toNat, (Int.toNat_of_nonneg (Int.tmod_nonneg _ (by omega))).symm⟩
            have hkL : k < L.length := by
              have := Int.tmod_lt_of_pos o.ref (show (0 : Int) < (L.length : Int) by omega)
              rw [hk] at this; omega
            obtain ⟨g, cap, erv, hnc, hcm, hBg, hgl, c0, c1, c2, c3⟩ := HI1.out.k.bok.cells hkL
            injection erv with e1 e2 e3
            subst e1; subst e3
            clear e2
            unfold maxLen at hcm
            cases hlive : L[k].2.live
            · rw [hlive] at c3
              go_wp2_with fail
              refine (HNeg.out _ (Below.refl _ _)).mono ?_
              rintro e w3 ⟨rfl, rfl⟩
              go_wp2_with fail
              refine (HEnd.out _ (Below.refl _ _)).mono ?_
              rintro e w4 ⟨rfl, rfl⟩
              go_wp2
              go_roundg (gk - 1)
              case measure => have := HIn.out; omega
              case rel => exact ⟨i + 1, S, L, v, by have := HIn.out; omega, by go_num, HI1.out.k, HI1.out.eq, HI1.out.pos, by rw [HCost.out]; omega, by rw [HCost.out]; omega⟩
            · rw [hlive] at c3
              have HF : Hid (find S L[k].2.pl = some ⟨L[k].2.lits, L[k].2.learnt, true⟩) := (HI1.out.k.kst HI1.out.eq).find hkL hlive
              have HE : Hid (bk (L.set k (L[k].1, { L[k].2 with live := false })) = lv 0 (dropAt S L[k].2.pl)) := bk_kill HI1.out.eq hkL hlive HF.out
              have HDl : Hid ((flat (dropAt S L[k].2.pl)).length = (flat S).length) := dropAt_len HF.out
              have HDn : Hid (find (dropAt S L[k].2.pl) L[k].2.pl = none) := find_dropped HF.out
              have HLl : Hid ((L.set k (L[k].1, { L[k].2 with live := false })).length = L.length) := List.length_set
              have HDrop := arDrop_some w.heap.size v S L[k].2.pl _ w2 HI1.out.k.ar hl8 HF.out
              have HKill : Hid (∀ W, K0 w W w.heap.size v (dropAt S L[k].2.pl) (.slice (some ⟨g, 0, none⟩) L.length rc) L → K0 w (W.setCell ⟨g, k * 4 + 3, none⟩ (.bool false)) w.heap.size v (dropAt S L[k].2.pl) (.slice (some ⟨g, 0, none⟩) L.length rc) (L.set k (L[k].1, { L[k].2 with live := false }))) := fun W hW => hW.kill hkL
              have HCel : Hid (∀ W, K0 w W w.heap.size v (dropAt S L[k].2.pl) (.slice (some ⟨g, 0, none⟩) L.length rc) L → W.cell? ⟨g, k * 4, none⟩ = some (.int .i64 L[k].2.pl) ∧ W.cell? ⟨g, k * 4 + 3, none⟩ = some (.bool L[k].2.live) ∧ W.frozen? ⟨g, k * 4 + 3, none⟩ = false) := fun W hW => by
                obtain ⟨g', cap', e', _, _, _, _, d0, _, _, d3⟩ := hW.bok.cells hkL
                injection e' with e1 _ _
                injection e1 with e1
                injection e1 with e1
                subst e1
                rcases hW.bok.row.2 with ⟨e, _⟩ | ⟨g2, cap2, cur, e, _, hh, _⟩
                · cases e
                · injection e with e1 _ _
                  injection e1 with e1
                  injection e1 with e1
                  subst e1
                  exact ⟨d0, d3, by simp [World.frozen?, hh]⟩
              generalize hLS : L.set k (L[k].1, { L[k].2 with live := false }) = L' at *
              generalize hDS : dropAt S L[k].2.pl = S' at *
              clear hLS hDS
              generalize L[k].2.pl = pl at *
              have hl8' : (flat S').length * 8 ≤ 140737488351232 := by rw [HDl.out]; omega
              go_wp2_with fail
              refine HDrop.mono ?_
              clear HDrop
              rintro e w3 ⟨rfl, ar3, mv3⟩
              have HK3 : Hid (K0 w w3 w.heap.size v S' (.slice (some ⟨g, 0, none⟩) L.length rc) L) := HI1.out.k.mv mv3 ar3
              obtain ⟨d0, d3, df⟩ := HCel.out w3 HK3.out
              clear ar3 mv3 c0 c1 c2 c3
              have hbb : (((flat S).length : Int) == ((flat S).length : Int)) = true := beq_self_eq_true _
              go_wp2_with fail
              refine (arWords_any w.heap.size v S' w3 HK3.out.ar hl8').mono ?_
              rw [HDl.out]
              rintro e w4 ⟨rfl, rfl⟩
              go_wp2_with fail
              refine (arDrop_none w.heap.size v S' pl _ HK3.out.ar hl8' HDn.out).mono ?_
              rintro e w5 ⟨rfl, rfl⟩
              have HK5 : Hid (K0 w (w5.setCell ⟨g, k * 4 + 3, none⟩ (.bool false)) w.heap.size v S' (.slice (some ⟨g, 0, none⟩) L.length rc) L') := HKill.out w5 HK3.out
              have f0 : (w5.setCell ⟨g, k * 4 + 3, none⟩ (.bool false)).cell? ⟨g, k * 4, none⟩ = some (.int .i64 pl) := by
                rw [World.cell?_setCell_other _ _ _ _ (by intro e; injection e with _ e; omega)]; exact d0
              go_wp2_with fail
              clear d0 d3 df
              generalize w5.setCell ⟨g, k * 4 + 3, none⟩ (.bool false) = w6 at *
              refine (arGet_none w.heap.size v S' pl w6 HK5.out.ar hl8' HDn.out).mono ?_
              rintro e w7 ⟨rfl, rfl⟩
              go_wp2_with fail
              have HLr := arLearnt_any w.heap.size v S' pl w7 HK5.out.ar hl8'
              rw [HDn.out] at HLr
              refine HLr.mono ?_
              clear HLr
              rintro e w8 ⟨rfl, rfl⟩
              go_wp2_with fail
              refine (found_any w.heap.size w.heap.size v _ S' L' _ (HK5.out.kst HE.out) hl8').mono ?_
              rintro e w9 ⟨rfl, bel9⟩
              go_wp2
              go_roundg (gk - 1)
              case measure => have := HIn.out; omega
              case rel => exact ⟨i + 1, S', L', v, by have := HIn.out; omega, by go_num, HK5.out.below bel9, HE.out, by rw [HLl.out]; omega, by rw [HDl.out, HCost.out]; omega, by rw [HLl.out, HCost.out]; omega⟩
        · by_cases hk6 : o.kind = 6
          · rw [hk6] at q0
            clear hk1 hk4
            go_wp2_with fail
            refine (swept_any w.heap.size w.heap.size v _ S L w2 (HI1.out.k.kst HI1.out.eq) hl8 hl32 (Nat.le_refl _) HI1.out.k.hv HI1.out.k.bel.size).mono ?_
            rintro e w3 ⟨rfl, v3, L3, kst3, hL3, hv3, bel3⟩
            have HI3 : Hid (KI w w3 w.heap.size v3 (swp S) (.slice ra L.length rc) L3 (3 + cost (ops.take i))) := by
              refine ⟨⟨kst3.ar, kst3.bok, kst3.sep, HI1.out.k.bel.trans bel3, Nat.le_refl _, fun g hg => Nat.le_trans HI1.out.k.bel.size (hv3 g hg)⟩, kst3.eq, by rw [hL3]; exact HI1.out.pos, ?_, by rw [hL3]; exact HLen⟩
              have h1 := wordsL_le S (lv 0 S).length
              have h2 : wordsL (lv 0 S) = flat (swp S) := (flat_swp S 0).symm
              rw [List.take_length, h2] at h1
              omega
            have hl9 : (flat (swp S)).length * 8 ≤ 140737488351232 := by have := HI3.out.words; omega
            clear kst3 hv3 bel3
            go_wp2_with fail
            refine (found_any w.heap.size w.heap.size v3 _ (swp S) L3 w3 (HI3.out.k.kst HI3.out.eq) hl9).mono ?_
            rintro e w4 ⟨rfl, bel4⟩
            go_wp2
            go_roundg (gk - 1)
            case measure => have := HIn.out; omega
            case rel => exact ⟨i + 1, swp S, L3, v3, by have := HIn.out; omega, by go_num, (HI3.out.k.below bel4), HI3.out.eq, HI3.out.pos, by have := HI3.out.words; rw [HCost.out]; omega, by have := HI3.out.len; rw [HCost.out]; omega⟩
          · have e1 : (o.kind == 1) = false := beq_eq_false_iff_ne.2 hk1
            have e4 : (o.kind == 4) = false := beq_eq_false_iff_ne.2 hk4
            have e6 : (o.kind == 6) = false := beq_eq_false_iff_ne.2 hk6
            clear hk1 hk4 hk6
            generalize o.kind = ok at *
            go_wp2_with fail
            refine (found_any w.heap.size w.heap.size v _ S L w2 (HI1.out.k.kst HI1.out.eq) hl8).mono ?_
            rintro e w3 ⟨rfl, bel3⟩
            go_wp2
            go_roundg (gk - 1)
            case measure => have := HIn.out; omega
            case rel => exact ⟨i + 1, S, L, v, by have := HIn.out; omega, by go_num, (HI1.out.k.below bel3), HI1.out.eq, HI1.out.pos, by rw [HCost.out]; omega, by rw [HCost.out]; omega⟩
    · obtain rfl : i = ops.length := by omega
      have hcn := HSz.out ops.length
      have HWords := HI.out.words
      have hl8 : (flat S).length * 8 ≤ 140737488351232 := by omega
      have hl32 : (flat S).length * 32 ≤ 140737488351232 := by omega
      obtain ⟨ra, rc, hs4⟩ := row_form4 HI.out.k.bok.row
      subst hs4
      clear hi
      go_wp2_with fail
      refine (found_any w.heap.size w.heap.size v _ S L wr (HI.out.k.kst HI.out.eq) hl8).mono ?_
      rintro e w2 ⟨rfl, bel2⟩
      have HI2 : Hid (KI w w2 w.heap.size v S (.slice ra L.length rc) L (3 + cost (ops.take ops.length))) := HI.out.below bel2
      go_wp2_with fail
      refine (swept_any w.heap.size w.heap.size v _ S L w2 (HI2.out.k.kst HI2.out.eq) hl8 hl32 (Nat.le_refl _) HI2.out.k.hv HI2.out.k.bel.size).mono ?_
      rintro e w3 ⟨rfl, v3, L3, kst3, hL3, hv3, bel3⟩
      have hl9 : (flat (swp S)).length * 8 ≤ 140737488351232 := by
        have h1 := wordsL_le S (lv 0 S).length
        have h2 : wordsL (lv 0 S) = flat (swp S) := (flat_swp S 0).symm
        rw [List.take_length, h2] at h1
        omega
      have HB3 : Hid (Below w.heap.size w w3) := HI2.out.k.bel.trans bel3
      go_wp2_with fail
      refine (found_any w.heap.size w.heap.size v3 _ (swp S) L3 w3 kst3 hl9).mono ?_
      rintro e w4 ⟨rfl, bel4⟩
      go_wp2
      go_ret
      exact ⟨rfl, HB3.out.trans (bel4.mono HB3.out.size)⟩

end Go.Proofs.Ytbioehbcopmepaa
