/-
  trail: lists that come in and go out, walked.
  KEEP: set on app at below new trans refl start ap kept rd rds mono row push put step side drew drewN mark weaken less store slice place cell lt prefix setOther own c n m kind o v
-/
import Derived.Test.YtjcgfigbbbefcaaTrX
set_option linter.unusedSimpArgs false
set_option linter.unusedVariables false
namespace Go.Proofs.Ytjcgfigbbbefcaa
open Go Go.RowKit

theorem cell_two_new (w : World) (x y : Value) (t : TypeId) : ∀ j u, [x, y][j]? = some u → (w.alloc (.cells #[x, y] t)).cell? ((⟨w.heap.size, 0, none⟩ : Addr).add j) = some u := by
  intro j u hj
  have hh := World.alloc_heap_new w (.cells #[x, y] t)
  rw [Addr.add_lit]
  show (match (w.alloc (.cells #[x, y] t)).heap[w.heap.size]? with | some (Obj.cells c elem frozen) => c[0 + j]? | x => none) = _
  rw [hh, Nat.zero_add, ← hj]
  simp
theorem two_mem {p q : Cls} {P : Cls → Prop} (hp : P p) (hq : P q) : ∀ c ∈ [p, q], P c := fun c hc => by
  rcases List.mem_cons.1 hc with h0 | h0
  · subst h0; exact hp
  · have h0 : c = q := List.mem_singleton.1 h0
    subst h0; exact hq
theorem backO_len {n : Nat} {R : List Pl} (h : okT n R) (hn : n ≤ 1048576) (k : Int) : (backO R k).length ≤ 1048576 := by
  have h1 := h.len
  unfold backO
  split
  · rw [List.length_reverse, List.length_map, List.length_drop]; omega
  · simp
theorem getD_mem {L : List Cls} {j : Nat} (h : j < L.length) : L.getD j (.slice none 0 0, []) ∈ L := by
  have : L.getD j (.slice none 0 0, []) = L[j] := by simp [List.getD_eq_getElem?_getD, h]
  rw [this]; exact List.getElem_mem h
theorem apart_get {L : List Cls} (h : ApartC L) {i j : Nat} (hi : i < L.length) (hj : j < L.length) (hij : i ≠ j) : (L.getD i (.slice none 0 0, [])).1.ownBlock = none ∨ (L.getD i (.slice none 0 0, [])).1.ownBlock ≠ (L.getD j (.slice none 0 0, [])).1.ownBlock := by
  have e : ∀ k, (hk : k < L.length) → L.getD k (.slice none 0 0, []) = L[k] := fun k hk => by simp [List.getD_eq_getElem?_getD, hk]
  rw [e i hi, e j hj]
  have hp := List.pairwise_iff_getElem.1 h
  rcases Nat.lt_or_gt_of_ne hij with h1 | h1
  · exact hp i j hi hj h1
  · rcases hp j i hj hi h1 with h2 | h2
    · by_cases h3 : L[i].1.ownBlock = none
      · exact .inl h3
      · exact .inr (by rw [h2]; exact h3)
    · exact .inr (fun h3 => h2 h3.symm)
theorem row_range (L : List Cls) : L.map Prod.fst = (List.range L.length).map (fun j => (L.getD j (.slice none 0 0, [])).1) := by
  refine List.ext_getElem (by simp) fun i h1 h2 => ?_
  have : i < L.length := by simpa using h1
  simp [List.getD_eq_getElem?_getD, this]

set_option maxRecDepth 100000 in
set_option maxHeartbeats 25600000 in
theorem trailKeeps_walk (v0 v1 : Int) (vs vc : Value) (ops : List TOp) (zs : List Int) (w : World) (hr : RdT w vs ops) (h56 : ops.length * 56 ≤ 140737488351232) (hz : Rd w vc zs) :
    Calls Try.prog 8 #[.agg #[.int .i64 v0, .int .i64 v1, vs], vc] w fun e w' => e = .returned (.bool true) ∧ Below w.heap.size w w' := by
  obtain ⟨a, c, rfl, h1, h2, h5, h3⟩ := hr
  have HB0 : Hid (Below w.heap.size w (w.alloc (.cells #[.int .i64 v0, .int .i64 v1, .slice a ops.length c] 25))) := below_box _ _
  have HX0 : Hid (Bx3 (w.alloc (.cells #[.int .i64 v0, .int .i64 v1, .slice a ops.length c] 25)) w.heap.size 25 (.int .i64 v0) (.int .i64 v1) (.slice a ops.length c)) := World.alloc_heap_new w _
  have HZ0 : Hid (Rd (w.alloc (.cells #[.int .i64 v0, .int .i64 v1, .slice a ops.length c] 25)) vc zs) := hz.below (below_box _ _)
  have HOp0 : Hid (∀ (W : World) (j : Nat) (hj : j < ops.length), Below w.heap.size w W → ∃ b off ua uc, a = some ⟨b, off, none⟩ ∧ b < w.heap.size ∧ W.cell? ⟨b, off + j * 5, none⟩ = some (.int .i64 ops[j].on) ∧
    W.cell? ⟨b, off + j * 5 + 1, none⟩ = some (.int .i64 ops[j].kind) ∧ W.cell? ⟨b, off + j * 5 + 2, none⟩ = some (.int .i64 ops[j].n) ∧ W.cell? ⟨b, off + j * 5 + 3, none⟩ = some (.int .i64 ops[j].m) ∧ W.cell? ⟨b, off + j * 5 + 4, none⟩ = some (.slice ua ops[j].c.length uc)) := by
    intro W j hj hW
    obtain ⟨b, off, u, e1, hl, c0, c1, c2, c3, c4, hr⟩ := h3 j hj
    obtain ⟨ua, uc, rfl, -⟩ := rd_at hr
    have hc : ∀ o, W.cell? ⟨b, o, none⟩ = w.cell? ⟨b, o, none⟩ := fun o => hW.cell (p := ⟨b, o, none⟩) hl
    exact ⟨b, off, ua, uc, e1, hl, by rw [hc]; exact c0, by rw [hc]; exact c1, by rw [hc]; exact c2, by rw [hc]; exact c3, by rw [hc]; exact c4⟩
  clear h3 h1 hz
  obtain ⟨iL, hiL, hL0, hL1, hL2⟩ := info_parts infoL
  go_enter Try.func8, Try.ntmps8
  go_wp2_with fail
  generalize hW0 : w.alloc (.cells #[.int .i64 v0, .int .i64 v1, .slice a ops.length c] 25) = W0 at *
  clear hW0
  have HOp : Hid (∀ (W : World) (j : Nat) (hj : j < ops.length), Below W0.heap.size W0 W → ∃ b off ua uc, a = some ⟨b, off, none⟩ ∧ b < w.heap.size ∧ W.cell? ⟨b, off + j * 5, none⟩ = some (.int .i64 ops[j].on) ∧
    W.cell? ⟨b, off + j * 5 + 1, none⟩ = some (.int .i64 ops[j].kind) ∧ W.cell? ⟨b, off + j * 5 + 2, none⟩ = some (.int .i64 ops[j].n) ∧ W.cell? ⟨b, off + j * 5 + 3, none⟩ = some (.int .i64 ops[j].m) ∧ W.cell? ⟨b, off + j * 5 + 4, none⟩ = some (.slice ua ops[j].c.length uc)) := fun W j hj hW => HOp0.out W j hj (HB0.out.trans (hW.mono HB0.out.size))
  clear HOp0
  refine (live_any W0).mono ?_
  rintro e w1 ⟨rfl, bel1⟩
  have B1 : Hid (Below W0.heap.size W0 w1) := bel1
  clear bel1
  have e0 := (HX0.out.below B1.out).c.1
  have HNp : Hid (0 ≤ pkZ v0 41 ∧ pkZ v0 41 ≤ 1048576) := by have := pkZ_range v0 (show (0 : Int) < 41 by decide); show _ ∧ _; omega
  go_wp2_with fail
  refine (pick_any _ 41 w1 (by decide) (by decide)).mono ?_
  rintro e w2 ⟨rfl, rfl⟩
  go_wp2_with fail
  refine (trNew_any _ w2 HNp.out).mono ?_
  rintro e w3 ⟨x, s, rfl, ht, b3, hx⟩
  have HT3 : Hid (Tr w3 x s (pkZ v0 41).toNat [] ∧ Below w2.heap.size w2 w3 ∧ ∀ k, s.own x k → w2.heap.size ≤ k) := ⟨ht, b3, hx⟩
  clear ht b3 hx e0
  go_wp2_with fail
  refine (rNew_any _ w3 HNp.out).mono ?_
  rintro e w4 ⟨rfl, hrf, b4⟩
  have K0 : Hid (Kp W0 w4 x s w3.heap.size (.slice none 0 0) (pkZ v0 41).toNat [] [] (.slice none 0 0) (.slice none 0 0) [] []) := by
    have hs3 := HT3.out.2.1.size
    have hs1 := B1.out.size
    refine ⟨⟨HT3.out.1.below b4, hrf, ?_⟩, Below.step (Below.step B1.out HT3.out.2.1) b4, ?_, ⟨World.ownsRow_nil _ _ _ _, fun c hc => (by cases hc), fun k hk => (by simp [Value.ownBlock] at hk)⟩, ⟨World.ownsRow_nil _ _ _ _, fun c hc => (by cases hc), fun k hk => (by simp [Value.ownBlock] at hk)⟩, List.Pairwise.nil, fun k hk => (by simp [Value.ownBlock] at hk)⟩
    · rintro k h1 (h2 | h2)
      · have := HT3.out.1.q.lt k h1; omega
      · simp [Value.ownBlock] at h2
    · rintro k (h1 | h1 | h1)
      · have := HT3.out.2.2 k h1; omega
      · omega
      · simp [Value.ownBlock] at h1
  clear hrf b4 HT3 B1
  generalize (pkZ v0 41).toNat = n at *
  generalize w3.heap.size = y at *
  go_wp2
  have e2 := (HX0.out.below K0.out.bel).c.2.2
  go_loopg [10, 11, 12] ops.length (fun g v10 v11 v12 wr => ∃ (i : Nat) (t : Sl) (z : Value) (R : List Pl) (Lo Lw : List Cls), i + g = ops.length ∧ v12 = .int .i64 i ∧ Kp W0 wr x t y z n R R v10 v11 Lo Lw ∧ Lo.map Prod.snd = Lw.map Prod.snd ∧ Lo.length ≤ 2 * i)
  case atStart => exact ⟨0, s, _, [], [], [], by omega, rfl, K0.out, rfl, by simp⟩
  case round =>
    obtain ⟨i, t, z, R, Lo, Lw, hi, rfl, kp, heq, hll⟩ := hrel
    have HI : Hid (i + gk = ops.length) := hi
    have KR : Hid (Kp W0 wr x t y z n R R u10 u11 Lo Lw) := kp
    have HE : Hid (Lo.map Prod.snd = Lw.map Prod.snd ∧ Lo.length ≤ 2 * i) := ⟨heq, hll⟩
    have hlw : Lw.length = Lo.length := by have := congrArg List.length heq; simpa using this.symm
    have HLW : Hid (Lw.length = Lo.length) := hlw
    clear kp heq hlw
    have e2 := (HX0.out.below KR.out.bel).c.2.2
    by_cases hlt : i < ops.length
    · obtain ⟨bo, off, ua, uc, rfl, hbo, d0, d1, d2, d3, d4⟩ := HOp.out wr i hlt KR.out.bel
      have hp := pkZ_range ops[i].kind (show (0 : Int) < 5 by decide)
      have hlo : (Lo.length + 2) * 24 ≤ 140737488355328 := by omega
      clear hi
      generalize ops[i].c.length = ol at *
      generalize ops[i].kind = ok at *
      generalize ops[i].n = nn at *
      generalize ops[i].m = mm at *
      generalize ops[i].on = oo at *
      have HBX : Hid (Bx5 (wr.alloc (.cells #[.int .i64 oo, .int .i64 ok, .int .i64 nn, .int .i64 mm, .slice ua ol uc] 38)) wr.heap.size 38 (.int .i64 oo) (.int .i64 ok) (.int .i64 nn) (.int .i64 mm) (.slice ua ol uc)) := World.alloc_heap_new wr _
      have KB : Hid (Kp W0 (wr.alloc (.cells #[.int .i64 oo, .int .i64 ok, .int .i64 nn, .int .i64 mm, .slice ua ol uc] 38)) x t y z n R R u10 u11 Lo Lw) := KR.out.below (below_box _ _)
      have HD : Hid (∀ k, prP x t y z k → k < wr.heap.size) := KR.out.pq.lt
      go_wp2_with fail
      generalize hWb : wr.alloc (.cells #[.int .i64 oo, .int .i64 ok, .int .i64 nn, .int .i64 mm, .slice ua ol uc] 38) = Wb at *
      clear hWb
      have HS2 : Hid (∀ W' P', Mg Wb (prP x t y z) W' P' → W'.cell? ⟨wr.heap.size, 2, none⟩ = some (.int .i64 nn) ∧ W'.cell? ⟨wr.heap.size, 3, none⟩ = some (.int .i64 mm)) := fun W' P' h => by
        have h1 : Bx5 W' wr.heap.size 38 (.int .i64 oo) (.int .i64 ok) (.int .i64 nn) (.int .i64 mm) (.slice ua ol uc) := (h.block _ HBX.out.lt (fun h2 => by have := HD.out _ h2; omega)).trans HBX.out
        exact ⟨h1.c.2.1, h1.c.2.2.1⟩
      have c2 := HBX.out.c.2.1
      have c3 := HBX.out.c.2.2.1
      refine (pick_any _ 5 Wb (by decide) (by decide)).mono ?_
      rintro e w5 ⟨rfl, rfl⟩
      clear HBX HD KR d0 d1 d2 d3 d4 e2
      generalize pkZ ok 5 = p at *
      have hN := KB.out.pq.tr.n
      rcases (show p = 0 ∨ p = 1 ∨ p = 2 ∨ p = 3 ∨ p = 4 by omega) with rfl | rfl | rfl | rfl | rfl
      · go_wp2_with fail
        refine (trDecide_any x t n R nn w5 KB.out.pq.tr).mono ?_
        rintro e w6 ⟨rfl, t6, ht6, hm6⟩
        obtain ⟨p6, m6⟩ := KB.out.pq.goX ht6 hm6
        have K6 : Hid (Kp W0 w6 x t6 y z n (decF n R nn) R u10 u11 Lo Lw) := KB.out.mg p6 m6
        have q2 := (HS2.out _ _ m6).1
        have q3 := (HS2.out _ _ m6).2
        clear ht6 hm6 p6 m6 c2 c3
        go_wp2_with fail
        refine (rDecide_any y z n R nn w6 K6.out.pq.rf).mono ?_
        rintro e w7 ⟨rfl, z7, ht7, hm7⟩
        obtain ⟨p7, m7⟩ := K6.out.pq.goY ht7 hm7
        have K7 : Hid (Kp W0 w7 x t6 y z7 n (decF n R nn) (decF n R nn) u10 u11 Lo Lw) := K6.out.mg p7 m7
        clear ht7 hm7 p7 m7 q2 q3
        go_wp2
        go_roundg (gk - 1)
        case measure => have := HI.out; omega
        case rel => exact ⟨i + 1, t6, z7, _, Lo, Lw, by have := HI.out; omega, by go_num, K7.out, HE.out.1, by have := HE.out.2; omega⟩
      · go_wp2_with fail
        refine (trImply_any x t n R nn mm w5 KB.out.pq.tr).mono ?_
        rintro e w6 ⟨rfl, t6, ht6, hm6⟩
        obtain ⟨p6, m6⟩ := KB.out.pq.goX ht6 hm6
        have K6 : Hid (Kp W0 w6 x t6 y z n (impF n R nn mm) R u10 u11 Lo Lw) := KB.out.mg p6 m6
        have q2 := (HS2.out _ _ m6).1
        have q3 := (HS2.out _ _ m6).2
        clear ht6 hm6 p6 m6 c2 c3
        go_wp2_with fail
        refine (rImply_any y z n R nn mm w6 K6.out.pq.rf).mono ?_
        rintro e w7 ⟨rfl, z7, ht7, hm7⟩
        obtain ⟨p7, m7⟩ := K6.out.pq.goY ht7 hm7
        have K7 : Hid (Kp W0 w7 x t6 y z7 n (impF n R nn mm) (impF n R nn mm) u10 u11 Lo Lw) := K6.out.mg p7 m7
        clear ht7 hm7 p7 m7 q2 q3
        go_wp2
        go_roundg (gk - 1)
        case measure => have := HI.out; omega
        case rel => exact ⟨i + 1, t6, z7, _, Lo, Lw, by have := HI.out; omega, by go_num, K7.out, HE.out.1, by have := HE.out.2; omega⟩
      · go_wp2_with fail
        refine (trBack_any x t n R nn w5 KB.out.pq.tr).mono ?_
        rintro e w6 ⟨u6, t6, rfl, own6, ht6, hm6, hsub⟩
        obtain ⟨p6, m6⟩ := KB.out.pq.goX ht6 hm6
        have K6 : Hid (Kp W0 w6 x t6 y z n (backF R nn) R u10 u11 Lo Lw) := KB.out.mg p6 m6
        have X6 : Hid (Lx W0.heap.size w6 (prP x t6 y z) (u6, backO R nn)) := ⟨own6.mono KB.out.bel.size, fun k hk hp => by
          have h7 := (own6.lt k hk.symm).1
          rcases hp with h8 | h8
          · have := KB.out.pq.tr.q.lt k (hsub k h8); omega
          · have := KB.out.pq.rf.lt k h8; omega, backO_len KB.out.pq.tr.ok hN nn⟩
        have A6 : Hid (ApartC (Lo ++ [(u6, backO R nn)])) := ApartC.snoc KB.out.ap (fun c hc => (KB.out.o.ls c hc).own) own6 (Nat.le_refl _)
        have q2 := (HS2.out _ _ m6).1
        obtain ⟨a6, c6, rfl⟩ := own_form own6
        clear own6 ht6 hm6 p6 m6 hsub c2 c3
        go_wp2_with fail
        refine (rBack_any y z n R nn w6 K6.out.pq.rf).mono ?_
        rintro e w7 ⟨v7, z7, rfl, own7, ht7, hm7⟩
        obtain ⟨p7, m7⟩ := K6.out.pq.goY ht7 hm7
        have K7 : Hid (Kp W0 w7 x t6 y z7 n (backF R nn) (backF R nn) u10 u11 Lo Lw) := K6.out.mg p7 m7
        have X7 : Hid (Lx W0.heap.size w7 (prP x t6 y z7) (.slice a6 (backO R nn).length c6, backO R nn)) := X6.out.mg m7
        have Y7 : Hid (Lx W0.heap.size w7 (prP x t6 y z7) (v7, backO R nn)) := ⟨own7.mono K6.out.bel.size, fun k hk hp => by
          have h7 := (own7.lt k hk.symm).1
          rcases hp with h8 | h8 | h8
          · have := K6.out.pq.tr.q.lt k h8; omega
          · have := K6.out.pq.rf.box.lt; omega
          · exact block_apart (by decide) own7 ht7.row h8.symm hk.symm, backO_len KB.out.pq.tr.ok hN nn⟩
        obtain ⟨a7, c7, rfl⟩ := own_form own7
        clear own7 ht7 hm7 p7 m7 X6 K6 q2
        generalize hbo7 : backO R nn = ls at *
        generalize hbl : ls.length = ll at *
        go_wp2_with (first | (have h8 := K8; clear h8; at_builtin; refine wpList_append_apk rfl _ _ 65 rfl W0.heap.size 36 iL (.slice none 0 0) 1 24 Try.underlying65 hiL hL0 hL1 hL2 rfl (by decide) _ Lw.length (Lw.map Prod.fst) rfl (K8.out.1.below (below_box _ _)).v.row _ 1 1 [.slice a7 ll c7] rfl rfl (cell_one_new _ _ _) (by simp [Value.oneCell']) (by unfold maxLen; omega) (by omega) (by have h9 := K8.out.1.bel.size; simp; omega) ?_; intro v9 w9 own9 ap9; have K9 : Hid (Kp W0 w9 x t6 y z7 n (backF R nn) (backF R nn) v8 v9 (Lo ++ [(.slice a6 ll c6, ls)]) (Lw ++ [(.slice a7 ll c7, ls)])) := by { exact (K8.out.1.below (below_box _ _)).appW (N := [(.slice a7 ll c7, ls)]) (fun c hc => by have h0 : c = (.slice a7 ll c7, ls) := List.mem_singleton.1 hc; subst h0; exact K8.out.2.below (below_box _ _)) own9 ap9 }; clear own9 ap9) | (at_builtin; refine wpList_append_apk rfl _ _ 65 rfl W0.heap.size 36 iL (.slice none 0 0) 1 24 Try.underlying65 hiL hL0 hL1 hL2 rfl (by decide) _ Lo.length (Lo.map Prod.fst) rfl (K7.out.below (below_box _ _)).o.row _ 1 1 [.slice a6 ll c6] rfl rfl (cell_one_new _ _ _) (by simp [Value.oneCell']) (by unfold maxLen; omega) (by omega) (by have h9 := K7.out.bel.size; simp; omega) ?_; intro v8 w8 own8 ap8; have K8 : Hid (Kp W0 w8 x t6 y z7 n (backF R nn) (backF R nn) v8 u11 (Lo ++ [(.slice a6 ll c6, ls)]) Lw ∧ Lx W0.heap.size w8 (prP x t6 y z7) (.slice a7 ll c7, ls)) := by { refine ⟨(K7.out.below (below_box _ _)).appO (N := [(.slice a6 ll c6, ls)]) (fun c hc => by have h0 : c = (.slice a6 ll c6, ls) := List.mem_singleton.1 hc; subst h0; exact X7.out.below (below_box _ _)) A6.out own8 ap8, (Y7.out.below (below_box _ _)).grown (K7.out.below (below_box _ _)).o.row ap8.grown⟩ }; clear own8 ap8; have hlw2 := HLW.out))
        go_roundg (gk - 1)
        case measure => have := HI.out; omega
        case rel => exact ⟨i + 1, t6, z7, _, _, _, by have := HI.out; omega, by go_num, K9.out, by rw [List.map_append, List.map_append, HE.out.1]; rfl, by have := HE.out.2; simp; omega⟩
      · have HLl : Hid ((R.map Pl.lit).length ≤ 1048576) := by show _ ≤ _; rw [List.length_map]; have h9 := KB.out.pq.tr.ok.len; omega
        have HCx : Hid (∀ W, Pq W x t y z n R R → Calls Try.prog 14 #[.pointer (some ⟨x, 0, none⟩)] W fun e w' => ∃ v, e = .returned v ∧ Own W.heap.size w' v (R.map Pl.lit) ∧ Below W.heap.size W w') := fun W hp => trLits_any x t n R W hp.tr
        have HCr : Hid (∀ W, Pq W x t y z n R R → Calls Try.prog 33 #[.pointer (some ⟨y, 0, none⟩)] W fun e w' => ∃ v, e = .returned v ∧ Own W.heap.size w' v (R.map Pl.lit) ∧ Below W.heap.size W w') := fun W hp => rLits_any y z n R W hp.rf
        generalize hls : R.map Pl.lit = ls at *
        clear hls
        go_wp2_with fail
        refine (HCx.out w5 KB.out.pq).mono ?_
        rintro e w6 ⟨u6, rfl, own6, bel6⟩
        have K6 : Hid (Kp W0 w6 x t y z n R R u10 u11 Lo Lw) := KB.out.below bel6
        have X6 : Hid (Lx W0.heap.size w6 (prP x t y z) (u6, ls)) := KB.out.fresh own6 HLl.out
        have A6 : Hid (ApartC (Lo ++ [(u6, ls)])) := ApartC.snoc KB.out.ap (fun c hc => (KB.out.o.ls c hc).own) own6 (Nat.le_refl _)
        obtain ⟨a6, c6, rfl⟩ := own_form own6
        clear own6 bel6 c2 c3
        go_wp2_with fail
        refine (HCx.out w6 K6.out.pq).mono ?_
        rintro e w7 ⟨u7, rfl, own7, bel7⟩
        have K7 : Hid (Kp W0 w7 x t y z n R R u10 u11 Lo Lw) := K6.out.below bel7
        have X7 : Hid (Lx W0.heap.size w7 (prP x t y z) (.slice a6 ls.length c6, ls) ∧ Lx W0.heap.size w7 (prP x t y z) (u7, ls)) := ⟨X6.out.below bel7, K6.out.fresh own7 HLl.out⟩
        have A7 : Hid (ApartC (Lo ++ [(.slice a6 ls.length c6, ls)] ++ [(u7, ls)])) := ApartC.snoc (B := W0.heap.size) (W := w6) A6.out (fun c hc => by
          rcases List.mem_append.1 hc with h0 | h0
          · exact (K6.out.o.ls c h0).own
          · have h0 : c = (.slice a6 ls.length c6, ls) := List.mem_singleton.1 h0
            subst h0; exact X6.out.own) own7 (Nat.le_refl _)
        obtain ⟨a7, c7, rfl⟩ := own_form own7
        clear own7 bel7 X6 K6 A6
        generalize hbl : ls.length = ll at *
        go_wp2_with (at_builtin; refine wpList_append_apk rfl _ _ 65 rfl W0.heap.size 36 iL (.slice none 0 0) 1 24 Try.underlying65 hiL hL0 hL1 hL2 rfl (by decide) _ Lo.length (Lo.map Prod.fst) rfl (K7.out.below (below_box _ _)).o.row _ 2 2 [.slice a6 ll c6, .slice a7 ll c7] rfl rfl (cell_two_new _ _ _ _) (by simp [Value.oneCell']) (by unfold maxLen; omega) (by omega) (by have h9 := K7.out.bel.size; simp; omega) ?_; intro v8 w8 own8 ap8; have K8 : Hid (Kp W0 w8 x t y z n R R v8 u11 (Lo ++ [(.slice a6 ll c6, ls), (.slice a7 ll c7, ls)]) Lw) := by { exact (K7.out.below (below_box _ _)).appO (N := [(.slice a6 ll c6, ls), (.slice a7 ll c7, ls)]) (two_mem (X7.out.1.below (below_box _ _)) (X7.out.2.below (below_box _ _))) (by have := A7.out; rwa [List.append_assoc] at this) own8 ap8 }; clear own8 ap8)
        refine (HCr.out w8 K8.out.pq).mono ?_
        rintro e w9 ⟨u9, rfl, own9, bel9⟩
        have K9 : Hid (Kp W0 w9 x t y z n R R v8 u11 (Lo ++ [(.slice a6 ll c6, ls), (.slice a7 ll c7, ls)]) Lw) := K8.out.below bel9
        have X9 : Hid (Lx W0.heap.size w9 (prP x t y z) (u9, ls)) := K8.out.fresh own9 (by rw [hbl]; exact HLl.out)
        obtain ⟨a9, c9, rfl⟩ := own_form own9
        clear own9 bel9 K8
        go_wp2_with fail
        refine (HCr.out w9 K9.out.pq).mono ?_
        rintro e w10 ⟨u10', rfl, own10, bel10⟩
        have K10 : Hid (Kp W0 w10 x t y z n R R v8 u11 (Lo ++ [(.slice a6 ll c6, ls), (.slice a7 ll c7, ls)]) Lw) := K9.out.below bel10
        have X10 : Hid (Lx W0.heap.size w10 (prP x t y z) (.slice a9 ls.length c9, ls) ∧ Lx W0.heap.size w10 (prP x t y z) (u10', ls)) := ⟨X9.out.below bel10, K9.out.fresh own10 (by rw [hbl]; exact HLl.out)⟩
        obtain ⟨a10, c10, rfl⟩ := own_form own10
        rw [hbl] at X10
        rw [hbl]
        clear own10 bel10 K9 X9
        have hlw2 := HLW.out
        go_wp2_with (at_builtin; refine wpList_append_apk rfl _ _ 65 rfl W0.heap.size 36 iL (.slice none 0 0) 1 24 Try.underlying65 hiL hL0 hL1 hL2 rfl (by decide) _ Lw.length (Lw.map Prod.fst) rfl (K10.out.below (below_box _ _)).v.row _ 2 2 [.slice a9 ll c9, .slice a10 ll c10] rfl rfl (cell_two_new _ _ _ _) (by simp [Value.oneCell']) (by unfold maxLen; omega) (by omega) (by have h9 := K10.out.bel.size; simp; omega) ?_; intro v11 w11 own11 ap11; have K11 : Hid (Kp W0 w11 x t y z n R R v8 v11 (Lo ++ [(.slice a6 ll c6, ls), (.slice a7 ll c7, ls)]) (Lw ++ [(.slice a9 ll c9, ls), (.slice a10 ll c10, ls)])) := by { exact (K10.out.below (below_box _ _)).appW (N := [(.slice a9 ll c9, ls), (.slice a10 ll c10, ls)]) (two_mem (X10.out.1.below (below_box _ _)) (X10.out.2.below (below_box _ _))) own11 ap11 }; clear own11 ap11)
        go_roundg (gk - 1)
        case measure => have := HI.out; omega
        case rel => exact ⟨i + 1, t, z, R, _, _, by have := HI.out; omega, by go_num, K11.out, by rw [List.map_append, List.map_append, HE.out.1]; rfl, by have := HE.out.2; simp; omega⟩
      · have HLl : Hid ((mks R).length ≤ 1048576) := by show _ ≤ _; rw [mks_len]; have h9 := KB.out.pq.tr.ok.len; have h8 := now_le R; omega
        have HCx : Hid (∀ W, Pq W x t y z n R R → Calls Try.prog 15 #[.pointer (some ⟨x, 0, none⟩)] W fun e w' => ∃ v, e = .returned v ∧ Own W.heap.size w' v (mks R) ∧ Below W.heap.size W w') := fun W hp => trMarks_any x t n R W hp.tr
        have HCr : Hid (∀ W, Pq W x t y z n R R → Calls Try.prog 34 #[.pointer (some ⟨y, 0, none⟩)] W fun e w' => ∃ v, e = .returned v ∧ Own W.heap.size w' v (mks R) ∧ Below W.heap.size W w') := fun W hp => rMarks_any y z n R W hp.rf
        generalize hls : mks R = ls at *
        clear hls
        go_wp2_with fail
        refine (HCx.out w5 KB.out.pq).mono ?_
        rintro e w6 ⟨u6, rfl, own6, bel6⟩
        have K6 : Hid (Kp W0 w6 x t y z n R R u10 u11 Lo Lw) := KB.out.below bel6
        have X6 : Hid (Lx W0.heap.size w6 (prP x t y z) (u6, ls)) := KB.out.fresh own6 HLl.out
        have A6 : Hid (ApartC (Lo ++ [(u6, ls)])) := ApartC.snoc KB.out.ap (fun c hc => (KB.out.o.ls c hc).own) own6 (Nat.le_refl _)
        obtain ⟨a6, c6, rfl⟩ := own_form own6
        clear own6 bel6 c2 c3
        go_wp2_with fail
        refine (HCx.out w6 K6.out.pq).mono ?_
        rintro e w7 ⟨u7, rfl, own7, bel7⟩
        have K7 : Hid (Kp W0 w7 x t y z n R R u10 u11 Lo Lw) := K6.out.below bel7
        have X7 : Hid (Lx W0.heap.size w7 (prP x t y z) (.slice a6 ls.length c6, ls) ∧ Lx W0.heap.size w7 (prP x t y z) (u7, ls)) := ⟨X6.out.below bel7, K6.out.fresh own7 HLl.out⟩
        have A7 : Hid (ApartC (Lo ++ [(.slice a6 ls.length c6, ls)] ++ [(u7, ls)])) := ApartC.snoc (B := W0.heap.size) (W := w6) A6.out (fun c hc => by
          rcases List.mem_append.1 hc with h0 | h0
          · exact (K6.out.o.ls c h0).own
          · have h0 : c = (.slice a6 ls.length c6, ls) := List.mem_singleton.1 h0
            subst h0; exact X6.out.own) own7 (Nat.le_refl _)
        obtain ⟨a7, c7, rfl⟩ := own_form own7
        clear own7 bel7 X6 K6 A6
        generalize hbl : ls.length = ll at *
        go_wp2_with (at_builtin; refine wpList_append_apk rfl _ _ 65 rfl W0.heap.size 36 iL (.slice none 0 0) 1 24 Try.underlying65 hiL hL0 hL1 hL2 rfl (by decide) _ Lo.length (Lo.map Prod.fst) rfl (K7.out.below (below_box _ _)).o.row _ 2 2 [.slice a6 ll c6, .slice a7 ll c7] rfl rfl (cell_two_new _ _ _ _) (by simp [Value.oneCell']) (by unfold maxLen; omega) (by omega) (by have h9 := K7.out.bel.size; simp; omega) ?_; intro v8 w8 own8 ap8; have K8 : Hid (Kp W0 w8 x t y z n R R v8 u11 (Lo ++ [(.slice a6 ll c6, ls), (.slice a7 ll c7, ls)]) Lw) := by { exact (K7.out.below (below_box _ _)).appO (N := [(.slice a6 ll c6, ls), (.slice a7 ll c7, ls)]) (two_mem (X7.out.1.below (below_box _ _)) (X7.out.2.below (below_box _ _))) (by have := A7.out; rwa [List.append_assoc] at this) own8 ap8 }; clear own8 ap8)
        refine (HCr.out w8 K8.out.pq).mono ?_
        rintro e w9 ⟨u9, rfl, own9, bel9⟩
        have K9 : Hid (Kp W0 w9 x t y z n R R v8 u11 (Lo ++ [(.slice a6 ll c6, ls), (.slice a7 ll c7, ls)]) Lw) := K8.out.below bel9
        have X9 : Hid (Lx W0.heap.size w9 (prP x t y z) (u9, ls)) := K8.out.fresh own9 (by rw [hbl]; exact HLl.out)
        obtain ⟨a9, c9, rfl⟩ := own_form own9
        clear own9 bel9 K8
        go_wp2_with fail
        refine (HCr.out w9 K9.out.pq).mono ?_
        rintro e w10 ⟨u10', rfl, own10, bel10⟩
        have K10 : Hid (Kp W0 w10 x t y z n R R v8 u11 (Lo ++ [(.slice a6 ll c6, ls), (.slice a7 ll c7, ls)]) Lw) := K9.out.below bel10
        have X10 : Hid (Lx W0.heap.size w10 (prP x t y z) (.slice a9 ls.length c9, ls) ∧ Lx W0.heap.size w10 (prP x t y z) (u10', ls)) := ⟨X9.out.below bel10, K9.out.fresh own10 (by rw [hbl]; exact HLl.out)⟩
        obtain ⟨a10, c10, rfl⟩ := own_form own10
        rw [hbl] at X10
        rw [hbl]
        clear own10 bel10 K9 X9
        have hlw2 := HLW.out
        go_wp2_with (at_builtin; refine wpList_append_apk rfl _ _ 65 rfl W0.heap.size 36 iL (.slice none 0 0) 1 24 Try.underlying65 hiL hL0 hL1 hL2 rfl (by decide) _ Lw.length (Lw.map Prod.fst) rfl (K10.out.below (below_box _ _)).v.row _ 2 2 [.slice a9 ll c9, .slice a10 ll c10] rfl rfl (cell_two_new _ _ _ _) (by simp [Value.oneCell']) (by unfold maxLen; omega) (by omega) (by have h9 := K10.out.bel.size; simp; omega) ?_; intro v11 w11 own11 ap11; have K11 : Hid (Kp W0 w11 x t y z n R R v8 v11 (Lo ++ [(.slice a6 ll c6, ls), (.slice a7 ll c7, ls)]) (Lw ++ [(.slice a9 ll c9, ls), (.slice a10 ll c10, ls)])) := by { exact (K10.out.below (below_box _ _)).appW (N := [(.slice a9 ll c9, ls), (.slice a10 ll c10, ls)]) (two_mem (X10.out.1.below (below_box _ _)) (X10.out.2.below (below_box _ _))) own11 ap11 }; clear own11 ap11)
        go_roundg (gk - 1)
        case measure => have := HI.out; omega
        case rel => exact ⟨i + 1, t, z, R, _, _, by have := HI.out; omega, by go_num, K11.out, by rw [List.map_append, List.map_append, HE.out.1]; rfl, by have := HE.out.2; simp; omega⟩
    · obtain rfl : i = ops.length := by omega
      clear hi HI HOp
      have HZr : Hid (Rd wr vc zs) := HZ0.out.below KR.out.bel
      obtain ⟨ao, co, e10⟩ := row_form' KR.out.o.row
      obtain ⟨aw, cw, e11⟩ := row_form' KR.out.v.row
      subst e10 e11
      have hlo : (Lo.length + 2) * 24 ≤ 140737488355328 := by omega
      go_wp2_with fail
      refine (looks_any x t y z n R vc zs wr KR.out.pq HZr.out).mono ?_
      rintro e w5 ⟨rfl, bel5⟩
      have K5 : Hid (Kp W0 w5 x t y z n R R (.slice ao Lo.length co) (.slice aw Lw.length cw) Lo Lw) := KR.out.below bel5
      clear bel5 KR HZr e2
      go_wp2
      go_loopg [18] Lo.length (fun g v18 wq => ∃ j : Nat, j + g = Lo.length ∧ v18 = .int .i64 j ∧ Below w5.heap.size w5 wq)
      case atStart => exact ⟨0, by omega, rfl, Below.refl _ _⟩
      case round =>
        obtain ⟨j, hj, rfl, bel⟩ := hrel
        have HJ : Hid (j + gk = Lo.length) := hj
        have KJ : Hid (Kp W0 wr x t y z n R R (.slice ao Lo.length co) (.slice aw Lw.length cw) Lo Lw) := K5.out.below bel
        have BJ : Hid (Below w5.heap.size w5 wr) := bel
        clear bel
        by_cases hjl : j < Lo.length
        · have hjw : j < Lw.length := by rw [HLW.out]; exact hjl
          obtain ⟨g1, c1, e1, _⟩ := row_some KJ.out.o.row (by omega)
          obtain ⟨g2, c2, e2', _⟩ := row_some KJ.out.v.row (by omega)
          injection e1 with e1 _ e1c
          injection e2' with e2' _ e2c
          subst e1 e2' e1c e2c
          have d0 := row_cell KJ.out.o.row (j := j) (x := Lo[j].1) (by rw [List.getElem?_map, List.getElem?_eq_getElem hjl]; rfl)
          have d1 := row_cell KJ.out.v.row (j := j) (x := Lw[j].1) (by rw [List.getElem?_map, List.getElem?_eq_getElem hjw]; rfl)
          have x1 := KJ.out.o.ls Lo[j] (List.getElem_mem hjl)
          have x2 := KJ.out.v.ls Lw[j] (List.getElem_mem hjw)
          have hsame : Lo[j].2 = Lw[j].2 := by
            have h9 := congrArg (fun l => l[j]?) HE.out.1
            simpa [List.getElem?_map, List.getElem?_eq_getElem hjl, List.getElem?_eq_getElem hjw] using h9
          have HSm : Hid (∀ W, Below wr.heap.size wr W → Calls Try.prog 23 #[Lo[j].1, Lw[j].1] W fun e w' => e = .returned (.bool true) ∧ Below W.heap.size W w') := fun W hW => by
            refine sameSelf_any _ _ Lo[j].2 W ((x1.own.rd (by have := x1.len; omega)).below hW) ?_
            rw [hsame]
            exact (x2.own.rd (by have := x2.len; omega)).below hW
          obtain ⟨b1, f1, hb1⟩ := own_form x1.own
          obtain ⟨b2, f2, hb2⟩ := own_form x2.own
          rw [hb1] at d0 HSm
          rw [hb2] at d1 HSm
          clear x1 x2 hsame hb1 hb2 hj
          generalize Lo[j].2.length = l1 at *
          generalize Lw[j].2.length = l2 at *
          have HS : Hid (∀ W', Below wr.heap.size wr W' → Below wr.heap.size wr W' ∧ W'.cell? ⟨g1, j, none⟩ = some (.slice b1 l1 f1) ∧ W'.cell? ⟨g2, j, none⟩ = some (.slice b2 l2 f2)) := fun W' h => ⟨h, (h.cell (p := ⟨g1, j, none⟩) (World.block_lt_of_cell? wr _ d0)).trans d0, (h.cell (p := ⟨g2, j, none⟩) (World.block_lt_of_cell? wr _ d1)).trans d1⟩
          go_upto_region 35 with fail
          go_region_held (fun W' => Below wr.heap.size wr W' ∧ W'.cell? ⟨g1, j, none⟩ = some (.slice b1 l1 f1) ∧ W'.cell? ⟨g2, j, none⟩ = some (.slice b2 l2 f2)) (first | exact HS.out _ (Below.refl _ _).drew | exact HS.out _ O4.out) (first
            | (go_at_call 23; refine (HSm.out _ (Below.refl _ _).drew).mono ?_; rintro e w6 ⟨rfl, bel6⟩; have O4 : Hid (Below wr.heap.size wr w6) := Below.step (Below.refl _ _).drew bel6; clear bel6))
          all_goals
            go_wp2
            go_roundg (gk - 1)
            case measure => have := HJ.out; omega
            case rel => exact ⟨j + 1, by have := HJ.out; omega, by go_num, Below.step BJ.out O4.out⟩
        · obtain rfl : j = Lo.length := by omega
          clear hj HJ BJ K5
          have HLl : Hid ((R.map Pl.lit).length ≤ 1048576 ∧ (mks R).length ≤ 1048576) := by
            have h9 := KJ.out.pq.tr.ok.len
            have h8 := now_le R
            have h7 := KJ.out.pq.tr.n
            exact ⟨by rw [List.length_map]; omega, by rw [mks_len]; omega⟩
          have HCl : Hid (∀ W, Pq W x t y z n R R → Calls Try.prog 14 #[.pointer (some ⟨x, 0, none⟩)] W fun e w' => ∃ v, e = .returned v ∧ Own W.heap.size w' v (R.map Pl.lit) ∧ Below W.heap.size W w') := fun W hp => trLits_any x t n R W hp.tr
          have HCm : Hid (∀ W, Pq W x t y z n R R → Calls Try.prog 15 #[.pointer (some ⟨x, 0, none⟩)] W fun e w' => ∃ v, e = .returned v ∧ Own W.heap.size w' v (mks R) ∧ Below W.heap.size W w') := fun W hp => trMarks_any x t n R W hp.tr
          generalize hls : R.map Pl.lit = ls at *
          generalize hms : mks R = ms at *
          clear hls hms
          go_wp2_with fail
          refine (HCl.out wr KJ.out.pq).mono ?_
          rintro e w6 ⟨u6, rfl, own6, bel6⟩
          have K6 : Hid (Kp W0 w6 x t y z n R R (.slice ao Lo.length co) (.slice aw Lw.length cw) Lo Lw) := KJ.out.below bel6
          have X6 : Hid (Lx W0.heap.size w6 (prP x t y z) (u6, ls)) := KJ.out.fresh own6 HLl.out.1
          have A6 : Hid (ApartC (Lo ++ [(u6, ls)])) := ApartC.snoc KJ.out.ap (fun c hc => (KJ.out.o.ls c hc).own) own6 (Nat.le_refl _)
          obtain ⟨a6, c6, rfl⟩ := own_form own6
          clear own6 bel6
          go_wp2_with fail
          refine (HCm.out w6 K6.out.pq).mono ?_
          rintro e w7 ⟨u7, rfl, own7, bel7⟩
          have K7 : Hid (Kp W0 w7 x t y z n R R (.slice ao Lo.length co) (.slice aw Lw.length cw) Lo Lw) := K6.out.below bel7
          have X7 : Hid (Lx W0.heap.size w7 (prP x t y z) (.slice a6 ls.length c6, ls) ∧ Lx W0.heap.size w7 (prP x t y z) (u7, ms)) := ⟨X6.out.below bel7, K6.out.fresh own7 HLl.out.2⟩
          have A7 : Hid (ApartC (Lo ++ [(.slice a6 ls.length c6, ls)] ++ [(u7, ms)])) := ApartC.snoc (B := W0.heap.size) (W := w6) A6.out (fun c hc => by
            rcases List.mem_append.1 hc with h0 | h0
            · exact (K6.out.o.ls c h0).own
            · have h0 : c = (.slice a6 ls.length c6, ls) := List.mem_singleton.1 h0
              subst h0; exact X6.out.own) own7 (Nat.le_refl _)
          obtain ⟨a7, c7, rfl⟩ := own_form own7
          clear own7 bel7 X6 K6 A6 KJ
          generalize hbl : ls.length = ll at *
          generalize hbm : ms.length = ml at *
          go_wp2_with (at_builtin; refine wpList_append_apk rfl _ _ 65 rfl W0.heap.size 36 iL (.slice none 0 0) 1 24 Try.underlying65 hiL hL0 hL1 hL2 rfl (by decide) _ Lo.length (Lo.map Prod.fst) rfl (K7.out.below (below_box _ _)).o.row _ 2 2 [.slice a6 ll c6, .slice a7 ml c7] rfl rfl (cell_two_new _ _ _ _) (by simp [Value.oneCell']) (by unfold maxLen; omega) (by omega) (by have h9 := K7.out.bel.size; simp; omega) ?_; intro v8 w8 own8 ap8; have K8 : Hid (Kp W0 w8 x t y z n R R v8 (.slice aw Lw.length cw) (Lo ++ [(.slice a6 ll c6, ls), (.slice a7 ml c7, ms)]) Lw) := by { exact (K7.out.below (below_box _ _)).appO (N := [(.slice a6 ll c6, ls), (.slice a7 ml c7, ms)]) (two_mem (X7.out.1.below (below_box _ _)) (X7.out.2.below (below_box _ _))) (by have := A7.out; rwa [List.append_assoc] at this) own8 ap8 }; clear own8 ap8)
          have hk24 : (Lo ++ [(Value.slice a6 ll c6, ls), (Value.slice a7 ml c7, ms)]).length * 24 ≤ 140737488351232 := by
            have h9 := HE.out.2
            rw [List.length_append]
            show (Lo.length + 2) * 24 ≤ _
            omega
          generalize Lo ++ [(Value.slice a6 ll c6, ls), (Value.slice a7 ml c7, ms)] = LO at *
          refine (apart_q (prP x t y z) W0.heap.size v8 LO.length (fun j => (LO.getD j (Value.slice none 0 0, [])).1) (fun j => (LO.getD j (Value.slice none 0 0, [])).2.length) w8 K8.out.bel.size (by have h9 := K8.out.o.row; rw [row_range] at h9; exact h9) (fun j hj => ?_) (fun i j hi hj hij => ?_) hk24 (fun j hj => ?_) (fun j hj b hb => ?_) K8.out.pq.lt).mono ?_
          · exact ⟨_, (K8.out.o.ls _ (getD_mem hj)).own, rfl⟩
          · exact apart_get K8.out.ap hi hj hij
          · have := (K8.out.o.ls _ (getD_mem hj)).len; omega
          · exact (K8.out.o.ls _ (getD_mem hj)).xp b hb.symm
          rintro e w9 ⟨rfl, bel9, hkp9⟩
          have P9 : Hid (Pq w9 x t y z n R R) := K8.out.pq.kept hkp9
          have B9 : Hid (Below W0.heap.size W0 w9) := K8.out.bel.trans bel9
          have Z9 : Hid (Rd w9 vc zs) := HZ0.out.below B9.out
          clear bel9 hkp9 K8
          go_wp2_with fail
          refine (whole_any x t y z n R w9 P9.out).mono ?_
          rintro e w10 ⟨rfl, bel10⟩
          have P10 : Hid (Pq w10 x t y z n R R) := P9.out.below bel10
          have B10 : Hid (Below W0.heap.size W0 w10) := B9.out.trans (bel10.mono B9.out.size)
          have Z10 : Hid (Rd w10 vc zs) := Z9.out.below bel10
          clear bel10
          go_wp2_with fail
          refine (looks_any x t y z n R vc zs w10 P10.out Z10.out).mono ?_
          rintro e w11 ⟨rfl, bel11⟩
          have HW : Hid (Below w.heap.size w w11) := HB0.out.trans ((B10.out.trans (bel11.mono B10.out.size)).mono HB0.out.size)
          clear bel11
          go_wp2
          go_ret
          exact ⟨rfl, HW.out⟩
end Go.Proofs.Ytjcgfigbbbefcaa
