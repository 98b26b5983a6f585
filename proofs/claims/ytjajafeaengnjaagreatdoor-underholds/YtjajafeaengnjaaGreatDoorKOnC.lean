/-
  rup: clashes (defer, panic, recover).
  KEEP: set on app at below new trans refl start ap kept rd rds mono lt add none own nil put len pos setF setV putL putR other neV same_any from call
-/
import Derived.Test.YtjajafeaengnjaaGreatDoorJOnPt
import Derived.Defers
import Derived.Recover
import Derived.Deep.RegionHeld
set_option linter.unusedSimpArgs false
set_option linter.unusedVariables false
namespace Go.Proofs.YtjajafeaengnjaaGreatDoor
open Go Go.RowKit

/-- inside of clashes: the two boxes, and how far it has come -/
structure Ck (w0 w W : World) (b : Nat) (s0 s : Sy) (n : Nat) (css : List (List Int)) (K M : List Int) (R : List Nat) (y : Bool) : Prop where
  ow : Ow w0 W b s n css K M R
  mo : Mo w (s0.own b) W (s.own b)
  c0 : W.heap[w.heap.size]? = some (.cells #[.pointer (some ⟨b, 0, none⟩)] 126 (0, 0))
  c1 : W.heap[w.heap.size + 1]? = some (.cells #[.bool y] 4 (0, 0))
  ap : ∀ k, s.own b k → k ≠ w.heap.size ∧ k ≠ w.heap.size + 1
  C : s.C = s0.C
  lo : w0.heap.size ≤ w.heap.size
section
variable {w0 w W W' : World} {b : Nat} {s0 s s' : Sy} {n : Nat} {css : List (List Int)} {K M M' : List Int} {R R' : List Nat} {y : Bool}
theorem Ck.lt0 (h : Ck w0 w W b s0 s n css K M R y) : w.heap.size < W.heap.size := (Array.getElem?_eq_some_iff.1 h.c0).1
theorem Ck.lt1 (h : Ck w0 w W b s0 s n css K M R y) : w.heap.size + 1 < W.heap.size := (Array.getElem?_eq_some_iff.1 h.c1).1
theorem Ck.call (h : Ck w0 w W b s0 s n css K M R y) (ho : Ow w0 W' b s' n css K M' R') (hC : s'.C = s.C) (hm : Mo W (s.own b) W' (s'.own b)) : Ck w0 w W' b s0 s' n css K M' R' y := by
  refine ⟨ho, h.mo.trans hm, ?_, ?_, fun k hk => ?_, hC.trans h.C, h.lo⟩
  · rw [hm.block _ h.lt0 fun h2 => (h.ap _ h2).1 rfl]; exact h.c0
  · rw [hm.block _ h.lt1 fun h2 => (h.ap _ h2).2 rfl]; exact h.c1
  · have := h.lt1
    rcases hm.new k hk with a | a
    · exact h.ap k a
    · omega
theorem Ck.below (h : Ck w0 w W b s0 s n css K M R y) (hb : Below W.heap.size W W') : Ck w0 w W' b s0 s n css K M R y := h.call (h.ow.below hb) rfl (Mo.below hb)
theorem Ck.p0 (h : Ck w0 w W b s0 s n css K M R y) : W.cell? ⟨w.heap.size, 0, none⟩ = some (.pointer (some ⟨b, 0, none⟩)) := by simp [World.cell?, h.c0]
theorem Ck.p1 (h : Ck w0 w W b s0 s n css K M R y) : W.cell? ⟨w.heap.size + 1, 0, none⟩ = some (.bool y) := by simp [World.cell?, h.c1]
theorem Ck.f1 (h : Ck w0 w W b s0 s n css K M R y) : W.frozen? ⟨w.heap.size + 1, 0, none⟩ = false := by simp [World.frozen?, h.c1]
theorem Ck.set (h : Ck w0 w W b s0 s n css K M R y) (y' : Bool) : Ck w0 w (W.setCell ⟨w.heap.size + 1, 0, none⟩ (.bool y')) b s0 s n css K M R y' := by
  have hg := grown_set W ⟨w.heap.size + 1, 0, none⟩ (.bool y')
  have hk : ∀ k, s.own b k → (W.setCell ⟨w.heap.size + 1, 0, none⟩ (.bool y')).heap[k]? = W.heap[k]? := fun k hk => hg.block k (h.ow.lt k hk).2 (fun e => (h.ap k hk).2 (by simpa using e))
  obtain ⟨F, P, hz, hp⟩ := h.ow.z
  have hw := h.mo.size
  have hmo : Mo w (s0.own b) (W.setCell ⟨w.heap.size + 1, 0, none⟩ (.bool y')) (s.own b) := ⟨hg.os.trans h.mo.os, hg.tape.trans h.mo.tape, hg.output.trans h.mo.output, Nat.le_trans hw hg.size, fun k hk hn => (hg.block k (Nat.lt_of_lt_of_le hk hw) (fun e => by simp at e; omega)).trans (h.mo.block k hk hn), h.mo.new⟩
  refine ⟨⟨?_, h.ow.fit, h.ow.mn, h.ow.mf, F, P, hz.kept hk, hp⟩, hmo, ?_, ?_, h.ap, h.C, h.lo⟩
  · have hb := h.ow.bel
    refine ⟨hg.os.trans hb.os, hg.tape.trans hb.tape, hg.output.trans hb.output, Nat.le_trans hb.size hg.size, fun k hk => (hg.block k (Nat.lt_of_lt_of_le hk hb.size) (fun e => ?_)).trans (hb.block k hk)⟩
    have := h.lo
    simp at e
    omega
  · rw [hg.block _ h.lt0 (fun e => by simp at e)]; exact h.c0
  · have := set_heap h.c1 0 (.bool y')
    simpa using this
end
theorem Ck.start {w0 w : World} {b : Nat} {s : Sy} {n : Nat} {css : List (List Int)} {K : List Int} (h : Ow w0 w b s n css K [] []) : Ck w0 w ((w.alloc (.cells #[.pointer (some ⟨b, 0, none⟩)] 126)).alloc (.cells #[.bool false] 4)) b s s n css K [] [] false := by
  have b1 := below_box w (.cells #[.pointer (some ⟨b, 0, none⟩)] 126)
  have b2 := below_box (w.alloc (.cells #[.pointer (some ⟨b, 0, none⟩)] 126)) (.cells #[.bool false] 4)
  have bb := Below.step b1 b2
  refine ⟨h.below bb, Mo.below bb, ?_, ?_, fun k hk => ?_, rfl, h.bel.size⟩
  · rw [b2.block _ (by rw [World.size_alloc]; omega)]
    exact World.alloc_heap_new w _
  · have := World.alloc_heap_new (w.alloc (.cells #[.pointer (some ⟨b, 0, none⟩)] 126)) (.cells #[.bool false] 4)
    rw [World.size_alloc] at this
    exact this
  · have := (h.lt k hk).2
    omega
theorem assert_clash : ∀ x : World, (Instr.typeAssert (Value.iface 150 (Value.agg #[])) 20 150 true).run Tryz.prog x = .ok (.tuple #[.agg #[], .bool true]) x := fun _ => by kernel_rfl
set_option maxRecDepth 100000 in
set_option maxHeartbeats 1600000 in
/-- the deferred function, where a clash goes through -/
theorem oCatch_pan (w0 w W : World) (b : Nat) (s0 s : Sy) (n : Nat) (css : List (List Int)) (K M : List Int) (R : List Nat) (h : Ck w0 w W b s0 s n css K M R false) (hK : ∀ x ∈ M, x ∉ K) :
    CallsD Tryz.prog 119 #[.pointer (some ⟨w.heap.size, 0, none⟩), .pointer (some ⟨w.heap.size + 1, 0, none⟩)] (.panicking clashV) W fun e u' w' =>
      e = .returned (.tuple #[]) ∧ u' = .panicking [{ v := .iface 150 (.agg #[]), recovered := true }] ∧ ∃ s', Ck w0 w w' b s0 s' n css K [] [] true := by
  have HW : Hid (Ck w0 w W b s0 s n css K M R false ∧ ∀ x ∈ M, x ∉ K) := ⟨h, hK⟩
  have p0 := h.p0
  clear h hK
  refine callsD_of_wpS Tryz.func119 rfl fun c₀ cs hu => ?_
  unfold clashV at hu
  apply wpS_seq
  apply wpS_region
  simp [wpOpsS, go_sem, recoverD, hu, Tryz.ntmps119, Exit.thenS]
  refine wpS_of_wp ?_
  change Code.wp _ _ _ ({ tmps := #[.pointer (some ⟨w.heap.size, 0, none⟩), .pointer (some ⟨w.heap.size + 1, 0, none⟩), .iface 150 (.agg #[]), .iface 150 (.agg #[]), undef, undef, undef, undef, undef, undef, undef, undef, undef, undef, undef, undef], defers := [] } : Act) W
  go_wp2_with fail
  refine (oBack_any w0 b s n css K M R W HW.out.1.ow HW.out.2).mono ?_
  rintro e w1 ⟨rfl, s', ho, hC, hm⟩
  have HC1 : Hid (Ck w0 w w1 b s0 s' n css K [] [] false) := HW.out.1.call ho hC hm
  have q1 := HC1.out.p1
  have q2 := HC1.out.f1
  have q3 := (HC1.out.set true).p1
  have HC2 : Hid (Ck w0 w (w1.setCell ⟨w.heap.size + 1, 0, none⟩ (.bool true)) b s0 s' n css K [] [] true) := HC1.out.set true
  have hta := assert_clash
  clear ho hC hm p0
  go_wp2
  exact ⟨rfl, _, rfl, _, results_none rfl _ _ _, rfl, rfl, s', HC2.out⟩
set_option maxRecDepth 100000 in
set_option maxHeartbeats 1600000 in
/-- the deferred function, where nothing was met -/
theorem oCatch_ret (w0 w W : World) (b : Nat) (s0 s : Sy) (n : Nat) (css : List (List Int)) (K M : List Int) (R : List Nat) (h : Ck w0 w W b s0 s n css K M R false) (hK : ∀ x ∈ M, x ∉ K) :
    CallsD Tryz.prog 119 #[.pointer (some ⟨w.heap.size, 0, none⟩), .pointer (some ⟨w.heap.size + 1, 0, none⟩)] .returning W fun e u' w' =>
      e = .returned (.tuple #[]) ∧ u' = .returning ∧ ∃ s', Ck w0 w w' b s0 s' n css K [] [] false := by
  have HW : Hid (Ck w0 w W b s0 s n css K M R false ∧ ∀ x ∈ M, x ∉ K) := ⟨h, hK⟩
  have p0 := h.p0
  clear h hK
  refine callsD_of_wpS Tryz.func119 rfl fun c₀ cs hu => ?_
  apply wpS_seq
  apply wpS_region
  simp [wpOpsS, go_sem, recoverD, hu, Tryz.ntmps119, Exit.thenS]
  refine wpS_of_wp ?_
  change Code.wp _ _ _ ({ tmps := #[.pointer (some ⟨w.heap.size, 0, none⟩), .pointer (some ⟨w.heap.size + 1, 0, none⟩), .nilIface, .nilIface, undef, undef, undef, undef, undef, undef, undef, undef, undef, undef, undef, undef], defers := [] } : Act) W
  go_wp2_with fail
  refine (oBack_any w0 b s n css K M R W HW.out.1.ow HW.out.2).mono ?_
  rintro e w1 ⟨rfl, s', ho, hC, hm⟩
  have HC1 : Hid (Ck w0 w w1 b s0 s' n css K [] [] false) := HW.out.1.call ho hC hm
  clear ho hC hm p0
  go_wp2
  exact ⟨rfl, .returning, by cases c₀; simp_all, _, results_none rfl _ _ _, rfl, rfl, s', HC1.out⟩

/-- what clashes is asked -/
def Gs (d : List Int) (q : Int) : List Int := opp (d.filter (fun l => decide (l ≠ q)))
theorem mem_Gs {d : List Int} {q x : Int} : x ∈ Gs d q ↔ -x ∈ d ∧ -x ≠ q := by
  unfold Gs; rw [mem_opp, List.mem_filter, decide_eq_true_eq]
/-- how far the lines of clashes have come -/
structure Cm (w0 w W : World) (b : Nat) (s0 s : Sy) (n : Nat) (css : List (List Int)) (K G M : List Int) (R : List Nat) (t : Nat) : Prop where
  ck : Ck w0 w W b s0 s n css K M R false
  on : On css K M R t
  led : Led css K G M
  ap : ∀ x ∈ M, x ∉ K
section
variable {w0 w W W' : World} {b : Nat} {s0 s : Sy} {n : Nat} {css : List (List Int)} {K G M : List Int} {R : List Nat} {t : Nat} {l : Int}
theorem Cm.below (h : Cm w0 w W b s0 s n css K G M R t) (hb : Below W.heap.size W W') : Cm w0 w W' b s0 s n css K G M R t := ⟨h.ck.below hb, h.on, h.led, h.ap⟩
theorem Cm.few (h : Cm w0 w W b s0 s n css K G M R t) : R.length ≤ 1073741824 := Nat.le_trans h.on.len h.ck.ow.fit.num
theorem Cm.put (h : Cm w0 w W b s0 s n css K G M R t) (h0 : l ≠ 0) (h1 : l ∉ K ++ M) (h2 : -l ∉ K ++ M) (ht : t ≤ R.length) (hl : Led css K G (M ++ [l])) (hp : Pt8 w0 W W' b s n css K M R l) : ∃ s' S, Cm w0 w W' b s0 s' n css K G (M ++ [l]) (R ++ S) t ∧ s'.C = s.C := by
  obtain ⟨s', S, ho, hC, hS, hm⟩ := hp
  refine ⟨s', S, ⟨h.ck.call ho hC hm, h.on.put h0 h1 h2 ht hS, hl, fun x hx => ?_⟩, hC⟩
  rcases List.mem_append.1 hx with a | a
  · exact h.ap x a
  · have e : x = l := by simpa using a
    subst e; exact fun h3 => h1 (List.mem_append.2 (.inl h3))
end
/-- a clause that is ready is looked at -/
theorem oLook_fls (w0 w W : World) (b : Nat) (s0 s : Sy) (n : Nat) (css : List (List Int)) (K G M : List Int) (R : List Nat) (t k : Nat) (h : Cm w0 w W b s0 s n css K G M R t) (hr : Rds w0 s0.C css) (hk : k < css.length) (hf : ∀ m ∈ css.getD k [], -m ∈ K ++ M) :
    Calls Tryz.prog 122 #[.pointer (some ⟨b, 0, none⟩), .int .i32 (k : Int)] W fun e w' => e = .panicked clashV ∧ Cm w0 w w' b s0 s n css K G M R t :=
  (oLook_any w0 b s n css K M R k W h.ck.ow (by rw [h.ck.C]; exact hr) h.few hk).mono fun e w' h2 => by
    rcases h2 with ⟨-, e, bel⟩ | ⟨l, a, b, -⟩ | ⟨l, a, b, -⟩
    · exact ⟨e, h.below bel⟩
    · exact absurd (hf l a) b
    · exact absurd (hf l a) b
theorem oLook_go (w0 w W : World) (b : Nat) (s0 s : Sy) (n : Nat) (css : List (List Int)) (K G M : List Int) (R : List Nat) (t k : Nat) (h : Cm w0 w W b s0 s n css K G M R t) (hr : Rds w0 s0.C css) (ht : t < R.length) (hk : R.getD t 0 = k) (hf : ¬ ∀ m ∈ css.getD k [], -m ∈ K ++ M) :
    Calls Tryz.prog 122 #[.pointer (some ⟨b, 0, none⟩), .int .i32 (k : Int)] W fun e w' => e = .returned (.tuple #[]) ∧ ∃ s' M' R', Cm w0 w w' b s0 s' n css K G M' R' (t + 1) ∧ t + 1 ≤ R'.length ∧ ∀ x ∈ M, x ∈ M' := by
  have hkR : k ∈ R := by
    rw [← hk, List.getD_eq_getElem?_getD, List.getElem?_eq_getElem ht]
    exact List.getElem_mem ht
  obtain ⟨k1, k2, k3⟩ := h.on.sub k hkR
  refine (oLook_any w0 b s n css K M R k W h.ck.ow (by rw [h.ck.C]; exact hr) h.few k1).mono fun e w' h2 => ?_
  rcases h2 with ⟨a, -, -⟩ | ⟨l, h3, h4, h5, e, bel⟩ | ⟨l, h3, h4, h5, e, hp⟩
  · exact absurd a hf
  · refine ⟨e, s, M, R, ⟨(h.below bel).ck, h.on.look ⟨l, by rw [hk]; exact h3, h5⟩, h.led, h.ap⟩, by omega, fun x hx => hx⟩
  · have hl0 : l ≠ 0 := (fmd_range (h.ck.ow.fit.lit _ (getD_in k1) l h3).1).1
    have hu := cnt_one k3 h3 h4
    obtain ⟨s', S, hc, -⟩ := h.put hl0 h5 h4 (Nat.le_of_lt ht) (h.led.unit k1 h3 hu) hp
    refine ⟨e, s', M ++ [l], R ++ S, ⟨hc.ck, hc.on.look ⟨l, ?_, by simp⟩, hc.led, hc.ap⟩, by rw [List.length_append]; omega, fun x hx => List.mem_append.2 (.inl hx)⟩
    have e2 : (R ++ S).getD t 0 = k := by rw [List.getD_eq_getElem?_getD, List.getElem?_append_left ht, ← List.getD_eq_getElem?_getD]; exact hk
    rw [e2]; exact h3
/-- a literal is put -/
theorem oPut_bad (w0 w W : World) (b : Nat) (s0 s : Sy) (n : Nat) (css : List (List Int)) (K G M : List Int) (R : List Nat) (t : Nat) (l : Int) (h : Cm w0 w W b s0 s n css K G M R t) (hf : fmd l = true) (hl : idx l < n) (hb : -l ∈ K ++ M) :
    Calls Tryz.prog 121 #[.pointer (some ⟨b, 0, none⟩), .int .i64 l] W fun e w' => e = .panicked clashV ∧ Cm w0 w w' b s0 s n css K G M R t :=
  (oPut_any w0 b s n css K M R l W h.ck.ow h.few hf hl).mono fun e w' h2 => by
    rcases h2 with ⟨-, e, bel⟩ | ⟨b, -⟩ | ⟨b, -⟩
    · exact ⟨e, h.below bel⟩
    · exact absurd hb b
    · exact absurd hb b
theorem oPut_go (w0 w W : World) (b : Nat) (s0 s : Sy) (n : Nat) (css : List (List Int)) (K G M : List Int) (R : List Nat) (l : Int) (h : Cm w0 w W b s0 s n css K G M R 0) (hf : fmd l = true) (hl : idx l < n) (hG : l ∈ G) (hb : -l ∉ K ++ M) :
    Calls Tryz.prog 121 #[.pointer (some ⟨b, 0, none⟩), .int .i64 l] W fun e w' => e = .returned (.tuple #[]) ∧ ∃ s' M' R', Cm w0 w w' b s0 s' n css K G M' R' 0 ∧ l ∈ K ++ M' ∧ ∀ x ∈ M, x ∈ M' :=
  (oPut_any w0 b s n css K M R l W h.ck.ow h.few hf hl).mono fun e w' h2 => by
    rcases h2 with ⟨b, -⟩ | ⟨-, h5, e, bel⟩ | ⟨-, h5, e, hp⟩
    · exact absurd b hb
    · exact ⟨e, s, M, R, h.below bel, h5, fun x hx => hx⟩
    · obtain ⟨s', S, hc, -⟩ := h.put (fmd_range hf).1 h5 hb (Nat.zero_le _) (h.led.fact hG) hp
      exact ⟨e, s', M ++ [l], R ++ S, hc, by simp, fun x hx => List.mem_append.2 (.inl hx)⟩
end Go.Proofs.YtjajafeaengnjaaGreatDoor
