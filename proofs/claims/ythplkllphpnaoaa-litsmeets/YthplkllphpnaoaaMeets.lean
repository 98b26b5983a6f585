/-
  LitsMeets, walked.
-/
import Derived.Test.YthplkllphpnaoaaGives
import Derived.Laws.EntriesVeiled
set_option linter.unusedSimpArgs false
set_option linter.unusedVariables false
namespace Go.Proofs.Ythplkllphpnaoaa
open Go Go.RowKit Go.Shelf

attribute [local go_sem] Oper.semAt_some

theorem func_not_nil (gf : Nat) (lb : Array Value) (w : World) : (binOp BinOp.eql 40 (Value.func (Fn.func gf) #[] lb) Value.nilFunc).run Try.prog w = .ok (.bool false) w := by rfl
theorem Mid.frozen {lo hi : Nat} {A B : World} (h : Mid lo hi A B) {p : Addr} (h1 : lo ≤ p.block) (h2 : p.block < hi) : B.frozen? p = A.frozen? p := World.frozen?_of_block (w := A) (h.block _ h1 h2)
theorem Mid.sub {lo hi lo' hi' : Nat} {A B : World} (h : Mid lo hi A B) (h1 : lo ≤ lo') (h2 : hi' ≤ hi) : Mid lo' hi' A B := ⟨h.size, fun k a b => h.block k (by omega) (by omega)⟩
theorem Mid.set {lo hi g : Nat} {A B : World} (h : Mid lo hi A B) (hg : g < lo ∨ hi ≤ g) (m : Nat) (x : Value) : Mid lo hi A (B.setCell ⟨g, m, none⟩ x) :=
  ⟨by rw [World.size_setCell]; exact h.size, fun k h1 h2 => (Below.heap_setCell _ _ _ _ (by show k ≠ g; omega)).trans (h.block k h1 h2)⟩
theorem ownsRow_mid {base lo hi : Nat} {e size : Nat} {w w' : World} {v : Value} {n : Nat} {xs : List Value} (h : w.ownsRow base e size v n xs) (hm : Mid lo hi w w') (hl : lo ≤ base) (hh : w.heap.size ≤ hi) : w'.ownsRow base e size v n xs := by
  refine ⟨h.1, ?_⟩
  rcases h.2 with hn | ⟨g, cap, cur, hv, hb', hg, r⟩
  · exact .inl hn
  · exact .inr ⟨g, cap, cur, hv, hb', by rw [hm.block g (Nat.le_trans hl hb') (Nat.lt_of_lt_of_le (Array.getElem?_eq_some_iff.1 hg).1 hh)]; exact hg, r⟩
theorem OwnP.mid {base lo hi : Nat} {w w' : World} {v : Value} {ws : List Itm} (h : OwnP base w v ws) (hm : Mid lo hi w w') (hl : lo ≤ base) (hh : w.heap.size ≤ hi) : OwnP base w' v ws :=
  ⟨ownsRow_mid h.1 hm hl hh, fun x hx => ⟨ownsRow_mid (h.2 x hx).1 hm hl hh, (h.2 x hx).2⟩⟩
theorem own_cell {base : Nat} {w : World} {v : Value} {Y : List Int} (h : Own base w v Y) {m : Nat} (hm : m < Y.length) : ∃ g cap, v = .slice (some ⟨g, 0, none⟩) Y.length cap ∧ base ≤ g ∧ Y.length ≤ cap ∧ w.cell? ⟨g, m, none⟩ = some (.int .i64 (Y.getD m 0)) ∧ w.frozen? ⟨g, m, none⟩ = false := by
  obtain ⟨g, cap, e, hH, hg, hbase, hncap, hmm⟩ := own_holds h (by intro h; rw [h] at hm; simp at hm)
  refine ⟨g, cap, e, hbase, hncap, ?_, ?_⟩
  · have := (hH m (by simpa using hm)).1
    simpa [List.getD_eq_getElem?_getD, getElem!_def, Array.getElem?_eq_getElem, hm] using this
  · have := (hH m (by simpa using hm)).2
    simpa using this

theorem ownFrom_mark {β : Type} {B D : Nat} {o : Obj} (hD : D < B) : OwnFrom B (fun (_ : β) W => W.heap[D]? = some o) := fun _ A _ row hs hg hr =>
  (hg.block D (Array.getElem?_eq_some_iff.1 hs).1 (fun e => by have := (hr D e.symm).1; omega)).trans hs

/-- a range over such an iterator that is left by a break or goes to its end, the way behind it one -/
theorem wpIn_rangeV_brk {F : Fence} {n : Nat} {P : Program} {α : Type} {g : Operand} {ps : Array Tmp} {assign body : Code} {Q : Exit → Act → World → Prop} {a : Act} {w : World}
    (hro : F.round = none) (h1 : 1 ≤ n) {gf : Nat} {lb : Array Value} (hg : a.eval g = .func (.func gf) #[] lb) (hFg : F.fn gf) (eg : ∀ args w, (callFunc gf args).run P w = .ok (.enter gf args) w)
    {encs : α → Array Value} {V : Nat → List α → α → World → Prop} {Kp : World → World → Prop} {S Sp : List α → Prop} {w0 : World} (hseq : SeqV F (n - 1) P gf lb encs V Kp S Sp w0)
    (hKt : ∀ {A B C : World}, Kp A B → Kp B C → Kp A C) (hKb : ∀ (W : World) (l : Nat) (o o' : Obj), w.heap.size ≤ l → W.heap[l]? = some o → o.isCells = false → o.isWalk = false → Kp W (W.putObj l o')) (hKa : ∀ (W : World) (o : Obj), Kp w0 W → Kp w0 (W.alloc o)) (hb0 : Kp w0 w) (hps : ∀ x, (encs x).size = ps.size)
    (I : List α → World → Prop) (E : World → Prop) (id : Nat) (hI : OwnFrom w.heap.size I) (hE : OwnFrom w.heap.size (fun (_ : Unit) W => E W)) (hV : ∀ m pre, OwnFrom w.heap.size (V m pre)) (h0 : I [] w) (a₁ : α → Act)
    (hassign : ∀ (l : Nat) (x : α) (W : World) (K : Act → World → Prop), K (a₁ x) W →
      assign.wpIn (F.inRound l) (n - 1 - 1) P (Exit.then K (fun _ _ _ => False)) { tmps := (ps.zip (encs x)).foldl (fun t (p, v) => t.setIfInBounds p v) a.tmps, defers := [] } W)
    (hbody : ∀ (l : Nat) (pre : List α) (x : α) (W : World), I pre W → V (w.heap.size + 2) pre x W → body.wpIn (F.inRound l) (n - 1 - 1) P (ownPostK Kp I (fun c _ W => c = .exit id ∧ E W) (pre ++ [x]) W) (a₁ x) W)
    (hdone : ∀ (xs : List α) (W : World), S xs → I xs W → E W) (hQ : ∀ a w, Q .normal a w → Q (.exit id) a w)
    (htail : ∀ (D : Nat) (W : World), w.heap.size ≤ D → E W → W.heap[D]? = some (.deferred (some [])) → Q .normal { a with defers := { target := .collected D, args := #[] } :: a.defers } W) :
    (Code.rangeFunc g ps assign body).wpIn F n P Q a w :=
  wpIn_rangeV hro h1 hg hFg eg hseq hKt hKb hKa hb0 hps I (fun c _ W => c = .exit id ∧ E W) hI (fun c s A B row hs hg hr => ⟨hs.1, hE () A B row hs.2 hg hr⟩) hV h0 a₁ hassign hbody
    (fun D xs W hD hS hI hK => htail D W hD (hdone xs W hS hI) hK)
    (fun D c pre W hD hSp hIx hK => by
      obtain ⟨rfl, hE'⟩ := hIx
      exact wpIn_exit (hQ _ _ (htail D W hD hE' hK)))

set_option maxRecDepth 100000 in
set_option maxHeartbeats 8000000 in
theorem meets_any (u0 u1 : Value) (kk : Int) (z0 z1 : List Int) (w : World) (r0 : Rd w u0 z0) (r1 : Rd w u1 z1) (wk : (Lit.int .i64 kk).wf = true) :
    Calls Try.prog 8 #[u0, u1, .int .i64 kk] w fun e w' => e = .returned (.bool true) ∧ Below w.heap.size w w' := by
  have hR := resAll_len z0 z1
  have hl0 := r0.len
  have hl1 := r1.len
  refine calls_marks 12 Try.func8 rfl ?_
  simp only [Try.ntmps8, List.size_toArray, List.length_cons, List.length_nil, Nat.reduceAdd, Nat.reduceSub, Array.replicate_succ, Array.replicate_zero, List.push_toArray, List.append_toArray, List.nil_append, List.cons_append]
  go_upto_region 1 with fail
  have cK : ((w.alloc (.cells #[.int .i64 kk] 3)).alloc (.cells #[.bool false] 4)).cell? ⟨w.heap.size, 0, none⟩ = some (.int .i64 kk) := box_old (box_new _ _ _) _
  have cR : ((w.alloc (.cells #[.int .i64 kk] 3)).alloc (.cells #[.bool false] 4)).cell? ⟨w.heap.size + 1, 0, none⟩ = some (.bool false) := by
    have := box_new (w.alloc (.cells #[.int .i64 kk] 3)) (.bool false) 4
    rwa [World.size_alloc] at this
  have fR : ((w.alloc (.cells #[.int .i64 kk] 3)).alloc (.cells #[.bool false] 4)).frozen? ⟨w.heap.size + 1, 0, none⟩ = false := World.frozen?_alloc_at _ _ _ _ (by simp)
  have sz : ((w.alloc (.cells #[.int .i64 kk] 3)).alloc (.cells #[.bool false] 4)).heap.size = w.heap.size + 1 + 1 := by simp
  have B0 : Below w.heap.size w ((w.alloc (.cells #[.int .i64 kk] 3)).alloc (.cells #[.bool false] 4)) := ((Below.refl _ w).alloc (Nat.le_refl _) _).alloc (by simp) _
  generalize ((w.alloc (.cells #[.int .i64 kk] 3)).alloc (.cells #[.bool false] 4)) = W0 at *
  have p0 := r0.below B0
  have p1 := r1.below B0
  clear r0 r1
  go_wp2_with fail
  refine (copied_any u0 z0 W0 p0).mono ?_
  rintro e w1 ⟨v1, rfl, own1, bel1⟩
  go_wp2_with fail
  refine (copied_any u1 z1 w1 (p1.below bel1)).mono ?_
  rintro e w2 ⟨v2, rfl, own2, bel2⟩
  have b2 := Below.step bel1 bel2
  go_wp2_with fail
  refine (copied_any u0 z0 w2 (p0.below b2)).mono ?_
  rintro e w3 ⟨v3, rfl, own3, bel3⟩
  have b3 := Below.step b2 bel3
  go_wp2_with fail
  refine (copied_any u1 z1 w3 (p1.below b3)).mono ?_
  rintro e w4 ⟨v4, rfl, own4, bel4⟩
  have b4 := Below.step b3 bel4
  go_wp2_with fail
  refine (refResolvents_any v3 v4 z0 z1 w4 ((own3.rd hl0).below bel4) (own4.rd hl1)).mono ?_
  rintro e w5 ⟨v5, ws, rfl, own5, hws, bel5⟩
  have b5 := Below.step b4 bel5
  have b25 := Below.step (Below.step bel3 bel4) bel5
  obtain ⟨au, cu, rfl⟩ := ownP_slice own5
  have ox5 := (own1.below bel2).below b25
  have oy5 := own2.below b25
  have s15 : w1.heap.size ≤ w2.heap.size := bel2.size
  have s25 : w2.heap.size ≤ w4.heap.size := (Below.step bel3 bel4).size
  have s45 : w4.heap.size ≤ w5.heap.size := bel5.size
  have s01 : W0.heap.size ≤ w1.heap.size := bel1.size
  obtain ⟨-, a1, c1, e1, -⟩ := own1.rd hl0
  subst e1
  obtain ⟨-, a2, c2, e2, -⟩ := own2.rd hl1
  subst e2
  have hX : Hid (∀ g, a1 = some ⟨g, 0, none⟩ → g < w1.heap.size) := fun g e => by subst e; exact (World.ownsRow.lt own1 g rfl).2
  have hY : Hid (∀ g, a2 = some ⟨g, 0, none⟩ → g < w2.heap.size) := fun g e => by subst e; exact (World.ownsRow.lt own2 g rfl).2
  clear own1 own2 own3 own4 p0 p1 bel1 bel2 bel3 bel4 bel5 b2 b3 b4 b25
  go_upto_region 4 with fail
  have cW : (w5.alloc (.cells #[.slice au ws.length cu] 37)).cell? ⟨w5.heap.size, 0, none⟩ = some (.slice au ws.length cu) := box_new _ _ _
  have b56 : Below w5.heap.size w5 (w5.alloc (.cells #[.slice au ws.length cu] 37)) := (Below.refl _ _).alloc (Nat.le_refl _) _
  have s6 : w5.heap.size < (w5.alloc (.cells #[.slice au ws.length cu] 37)).heap.size := szA _ _
  generalize (w5.alloc (.cells #[.slice au ws.length cu] 37)) = W6 at *
  have rx6 := (ox5.below b56).rd hl0
  have ry6 := (oy5.below b56).rd hl1
  go_wp2_with fail
  refine (resolvents_any _ _ z0 z1 W6 rx6 ry6).mono ?_
  rintro e w7 ⟨f, rfl, gv, bel7⟩
  have HG : Hid (GivesV W6.heap.size (resAll z0 z1) f w7) := gv
  obtain ⟨gf, lb, rfl, -, -⟩ := gv
  go_upto_region 5 with fail
  have cF : (w7.alloc (.cells #[.func (.func gf) #[] lb] 40)).cell? ⟨w7.heap.size, 0, none⟩ = some (.func (.func gf) #[] lb) := box_new _ _ _
  have b78 : Below w7.heap.size w7 (w7.alloc (.cells #[.func (.func gf) #[] lb] 40)) := (Below.refl _ _).alloc (Nat.le_refl _) _
  have s8 : w7.heap.size < (w7.alloc (.cells #[.func (.func gf) #[] lb] 40)).heap.size := szA _ _
  generalize (w7.alloc (.cells #[.func (.func gf) #[] lb] 40)) = W8 at *
  have b58 : Below w5.heap.size w5 W8 := Below.step (Below.step b56 bel7) b78
  have b08 : Below W0.heap.size W0 W8 := Below.step b5 b58
  have cW8 : W8.cell? ⟨w5.heap.size, 0, none⟩ = some (.slice au ws.length cu) := ((Below.step bel7 b78).cell (p := ⟨w5.heap.size, 0, none⟩) s6).trans cW
  have OX : Hid (Own W0.heap.size W8 (.slice a1 z0.length c1) z0) := ox5.below b58
  have OY : Hid (Own w1.heap.size W8 (.slice a2 z1.length c2) z1) := oy5.below b58
  have OP : Hid (OwnP w4.heap.size W8 (.slice au ws.length cu) ws) := own5.below b58
  have HM8 : Hid (Mid W6.heap.size w7.heap.size w7 W8) := Mid.of_below b78 (Nat.le_refl _)
  have s67 : W6.heap.size ≤ w7.heap.size := bel7.size
  have HBW : Hid (Below w.heap.size w W8) := B0.trans (b08.mono B0.size)
  have cK8 : W8.cell? ⟨w.heap.size, 0, none⟩ = some (.int .i64 kk) := (b08.cell (p := ⟨w.heap.size, 0, none⟩) (by show w.heap.size < _; omega)).trans cK
  have cR8 : W8.cell? ⟨w.heap.size + 1, 0, none⟩ = some (.bool false) := (b08.cell (p := ⟨w.heap.size + 1, 0, none⟩) (by show w.heap.size + 1 < _; omega)).trans cR
  have fR8 : W8.frozen? ⟨w.heap.size + 1, 0, none⟩ = false := (b08.frozen (p := ⟨w.heap.size + 1, 0, none⟩) (by show w.heap.size + 1 < _; omega)).trans fR
  have HWS : Hid (ws.map Itm.proj = resAll z0 z1) := hws
  have hwl : ws.length ≤ 2097152 := by have := congrArg List.length hws; simp at this; omega
  clear cK cR fR cW b56 b5 rx6 ry6 bel7 b78 b58 ox5 oy5 own5 b08 B0 hws
  go_wp2_with fail
  rw [func_not_nil]
  go_wp2
  go_loopg [11] z0.length (fun g i wq => ∃ (m : Nat) (Y : List Int), m + g = z0.length ∧ i = .int .i64 m ∧ Y.length = z0.length ∧ Own W0.heap.size wq (.slice a1 z0.length c1) Y ∧ Below W0.heap.size W8 wq ∧ Mid w1.heap.size W8.heap.size W8 wq)
  case atStart => exact ⟨0, z0, by omega, rfl, rfl, OX.out, Below.refl _ _, Mid.refl _ _ _⟩
  case round =>
  obtain ⟨m, Y, hm, rfl, hYl, ox, bl, md⟩ := hrel
  have HK : Hid (m + gk = z0.length) := hm
  by_cases hlt : m < z0.length
  · obtain ⟨g, cap, e, hbase, hncap, hcg, hfr⟩ := own_cell ox (show m < Y.length by omega)
    simp only [Value.slice.injEq] at e
    obtain ⟨e1, e2, e3⟩ := e
    subst e1
    subst e3
    clear e2
    have hg1 := hX.out g rfl
    have SX : Hid (Own W0.heap.size (wr.setCell ⟨g, m, none⟩ (.int .i64 9)) (.slice (some ⟨g, 0, none⟩) z0.length c1) (Y.set m 9)) := own_store ox hYl
    have SB : Hid (Below W0.heap.size W8 (wr.setCell ⟨g, m, none⟩ (.int .i64 9))) := bl.setCell (p := ⟨g, m, none⟩) hbase _
    have SM : Hid (Mid w1.heap.size W8.heap.size W8 (wr.setCell ⟨g, m, none⟩ (.int .i64 9))) := md.set (.inl hg1) _ _
    clear hm ox bl md
    generalize Y.getD m 0 = yy at *
    go_wp2
    go_roundg (gk - 1)
    case measure => have := HK.out; omega
    case rel => exact ⟨m + 1, Y.set m 9, by have := HK.out; omega, by go_num, by rw [List.length_set]; exact hYl, SX.out, SB.out, SM.out⟩
  obtain rfl : m = z0.length := by omega
  clear hm hlt HK hYl ox
  have OY9 : Hid (Own w1.heap.size wr (.slice a2 z1.length c2) z1) := ownsRow_mid OY.out md (Nat.le_refl _) (Nat.le_refl _)
  have MD9 : Hid (Mid w2.heap.size W8.heap.size W8 wr) := md.sub s15 (Nat.le_refl _)
  clear OX OY hX md
  generalize wr = w9 at *
  go_wp2
  go_loopg [12] z1.length (fun g i wq => ∃ (m : Nat) (Y : List Int), m + g = z1.length ∧ i = .int .i64 m ∧ Y.length = z1.length ∧ Own w1.heap.size wq (.slice a2 z1.length c2) Y ∧ Below W0.heap.size W8 wq ∧ Mid w2.heap.size W8.heap.size W8 wq)
  case atStart => exact ⟨0, z1, by omega, rfl, rfl, OY9.out, bl, MD9.out⟩
  case round =>
  clear bl
  obtain ⟨m, Y, hm, rfl, hYl, ox, bl, md⟩ := hrel
  have HK : Hid (m + gk = z1.length) := hm
  by_cases hlt : m < z1.length
  · obtain ⟨g, cap, e, hbase, hncap, hcg, hfr⟩ := own_cell ox (show m < Y.length by omega)
    simp only [Value.slice.injEq] at e
    obtain ⟨e1, e2, e3⟩ := e
    subst e1
    subst e3
    clear e2
    have hg1 := hY.out g rfl
    have SX : Hid (Own w1.heap.size (wr.setCell ⟨g, m, none⟩ (.int .i64 (-9))) (.slice (some ⟨g, 0, none⟩) z1.length c2) (Y.set m (-9))) := own_store ox hYl
    have SB : Hid (Below W0.heap.size W8 (wr.setCell ⟨g, m, none⟩ (.int .i64 (-9)))) := bl.setCell (p := ⟨g, m, none⟩) (by show W0.heap.size ≤ g; omega) _
    have SM : Hid (Mid w2.heap.size W8.heap.size W8 (wr.setCell ⟨g, m, none⟩ (.int .i64 (-9)))) := md.set (.inl hg1) _ _
    clear hm ox bl md
    generalize Y.getD m 0 = yy at *
    go_wp2
    go_roundg (gk - 1)
    case measure => have := HK.out; omega
    case rel => exact ⟨m + 1, Y.set m (-9), by have := HK.out; omega, by go_num, by rw [List.length_set]; exact hYl, SX.out, SB.out, SM.out⟩
  obtain rfl : m = z1.length := by omega
  clear hm hlt HK hYl ox
  have cK10 : wr.cell? ⟨w.heap.size, 0, none⟩ = some (.int .i64 kk) := (bl.cell (p := ⟨w.heap.size, 0, none⟩) (by show w.heap.size < _; omega)).trans cK8
  have cR10 : wr.cell? ⟨w.heap.size + 1, 0, none⟩ = some (.bool false) := (bl.cell (p := ⟨w.heap.size + 1, 0, none⟩) (by show w.heap.size + 1 < _; omega)).trans cR8
  have fR10 : wr.frozen? ⟨w.heap.size + 1, 0, none⟩ = false := (bl.frozen (p := ⟨w.heap.size + 1, 0, none⟩) (by show w.heap.size + 1 < _; omega)).trans fR8
  have cW10 : wr.cell? ⟨w5.heap.size, 0, none⟩ = some (.slice au ws.length cu) := (md.cell (p := ⟨w5.heap.size, 0, none⟩) (by show w2.heap.size ≤ w5.heap.size; omega) (by show w5.heap.size < _; omega)).trans cW8
  have cF10 : wr.cell? ⟨w7.heap.size, 0, none⟩ = some (.func (.func gf) #[] lb) := (md.cell (p := ⟨w7.heap.size, 0, none⟩) (by show w2.heap.size ≤ w7.heap.size; omega) (by show w7.heap.size < _; omega)).trans cF
  have OP10 : Hid (OwnP 0 wr (.slice au ws.length cu) ws) := (OP.out.mid md s25 (Nat.le_refl _)).mono (Nat.zero_le _)
  have HM10 : Hid (Mid W6.heap.size w7.heap.size w7 wr) := HM8.out.trans (md.sub (by omega) (by omega))
  have BW10 : Hid (Below w.heap.size w wr) := HBW.out.trans (bl.mono (by omega))
  have sN : w.heap.size + 1 < wr.heap.size := by have := md.size; omega
  have sW : w5.heap.size < wr.heap.size := by have := md.size; omega
  have sF : w7.heap.size < wr.heap.size := by have := md.size; omega
  generalize wr = w10 at *
  generalize w5.heap.size = b9 at *
  generalize W6.heap.size = lo at *
  clear bl md OP HM8 HBW cK8 cR8 fR8 cW8 cF OY9 MD9 hY s15 s25 s45 s01 s6 s67 s8 sz
  go_wp2
  have cN11 : (w10.alloc (.cells #[.int .i64 0] 3)).cell? ⟨w10.heap.size, 0, none⟩ = some (.int .i64 0) := box_new _ _ _
  have fN11 : (w10.alloc (.cells #[.int .i64 0] 3)).frozen? ⟨w10.heap.size, 0, none⟩ = false := World.frozen?_alloc_at _ _ _ _ rfl
  have s11 : w10.heap.size < (w10.alloc (.cells #[.int .i64 0] 3)).heap.size := szA _ _
  have b11 : Below w10.heap.size w10 (w10.alloc (.cells #[.int .i64 0] 3)) := (Below.refl _ _).alloc (Nat.le_refl _) _
  generalize (w10.alloc (.cells #[.int .i64 0] 3)) = W11 at *
  have HS7 : Hid (∀ W, Below w10.heap.size w10 W → Mid lo w7.heap.size w7 W) := fun W h => HM10.out.trans (Mid.of_below h (by omega))
  have HGV : Hid (∀ W, Below w10.heap.size w10 W → Calls Try.prog 39 #[.func (.func gf) #[] lb, .slice au ws.length cu] W fun e w' => e = .returned (.bool true) ∧ Below W.heap.size W w') := fun W h => gives_any lo (resAll z0 z1) _ _ ws w7 W HG.out (HS7.out W h) (OP10.out.below h) HWS.out hR
  obtain ⟨gf', lb', e', heg, hseq⟩ := HG.out
  cases e'
  have HSEQ : Hid (∀ n, 1 ≤ n → SeqV Fence.wide n Try.prog gf lb (fun x : Itm => #[.int .i64 x.1, x.2.1]) (fun m => VV m (resAll z0 z1)) (Mid lo w7.heap.size) (fun xs => xs.map Itm.proj = resAll z0 z1) (fun pre => pre.map Itm.proj <+: resAll z0 z1) w7) := hseq
  clear hseq
  refine (wpIn_wide (n := 12)).1 ?_
  refine' wpIn_rangeV_brk rfl (by omega) (gf := gf) (lb := lb) rfl trivial heg (HSEQ.out (12 - 1) (by omega)) Mid.trans (midK_b (by omega)) (fun W o h => h.alloc (Nat.le_refl _) o) (HS7.out _ b11) (fun _ => rfl)
    (fun pre W => (W.cell? ⟨w10.heap.size, 0, none⟩ = some (.int .i64 (pre.length : Nat)) ∧ W.frozen? ⟨w10.heap.size, 0, none⟩ = false ∧ W11.heap.size ≤ W.heap.size) ∧ Below w10.heap.size w10 W)
    (fun W => (∃ q : Int, W.cell? ⟨w10.heap.size, 0, none⟩ = some (.int .i64 q) ∧ W.frozen? ⟨w10.heap.size, 0, none⟩ = false ∧ W11.heap.size ≤ W.heap.size ∧ (kk < 0 → q = (ws.length : Nat))) ∧ Below w10.heap.size w10 W)
    4
    (OwnFrom.and (Own.from (fun s A B row hs hg hr => ⟨cell_kept hs.1 hg hr, (frozen_kept hs.1 hg hr).trans hs.2.1, Nat.le_trans hs.2.2 hg.size⟩) _) (ownFrom_below (Nat.le_refl _) b11.size))
    (OwnFrom.and (Own.from (fun s A B row hs hg hr => by obtain ⟨q, h1, h2, h3, h4⟩ := hs; exact ⟨q, cell_kept h1 hg hr, (frozen_kept h1 hg hr).trans h2, Nat.le_trans h3 hg.size, h4⟩) _) (ownFrom_below (Nat.le_refl _) b11.size))
    (fun m pre => VV_from _ _ _ pre)
    ⟨⟨cN11, fN11, Nat.le_refl _⟩, b11⟩
    _ ?assign ?body ?done (fun a w h => h) ?tail
  case assign =>
    intro l x W K hK
    gi_wp2
    exact hK
  case body =>
    rintro l pre ⟨xv, xs, xl⟩ W ⟨⟨g0, g1, hsw⟩, hB⟩ ⟨hpx, ho, hxl⟩
    obtain ⟨⟨yv, ys, yl⟩, hy, e1, e2⟩ := next_item HWS.out hpx
    dsimp only at e1 e2 ho hxl
    subst e1
    subst e2
    obtain ⟨gu, cap, eu, hgu, q1, q2, oy, -, hcap⟩ := pair_at (OP10.out.below hB) hy
    dsimp only at q1 q2 oy
    simp only [Value.slice.injEq, true_and] at eu
    obtain ⟨rfl, rfl⟩ := eu
    have hlt : pre.length < ws.length := (List.getElem?_eq_some_iff.1 hy).1
    have HL : Hid ((pre ++ [((xv, xs, xl) : Itm)]).length = pre.length + 1) := by show _ = _; simp
    have hx8 : xl.length * 8 ≤ 140737488351232 := by omega
    have rx := Own.rd ho hx8
    have ry := Own.rd oy hx8
    obtain ⟨_, ax, cx, ex, -⟩ := id rx
    subst ex
    have RX : Hid (Rd W (.slice ax xl.length cx) xl) := rx
    have RY : Hid (Rd W ys xl) := ry
    obtain ⟨_, ay, cy, ey, -⟩ := id ry
    subst ey
    have gK : W.cell? ⟨w.heap.size, 0, none⟩ = some (.int .i64 kk) := (hB.cell (p := ⟨w.heap.size, 0, none⟩) (by show w.heap.size < _; omega)).trans cK10
    have gR : W.cell? ⟨w.heap.size + 1, 0, none⟩ = some (.bool false) := (hB.cell (p := ⟨w.heap.size + 1, 0, none⟩) sN).trans cR10
    have gW : W.cell? ⟨b9, 0, none⟩ = some (.slice (some ⟨gu, 0, none⟩) ws.length cu) := (hB.cell (p := ⟨b9, 0, none⟩) sW).trans cW10
    clear rx ry ho oy hpx hy
    generalize pre.length = m at *
    have hd : decide (ws.length ≤ m) = false := decide_eq_false (by omega)
    gi_wp2_with fail
    refine ⟨trivial, ?_⟩
    refine ((callsIn_wide.2 (refEqual_self _ _ xl W RX.out RY.out)).inRound l).mono ?_
    rintro e w9 ⟨rfl, bel9⟩
    have hsn : w10.heap.size < W.heap.size := by omega
    have g09 := (bel9.cell (p := ⟨w10.heap.size, 0, none⟩) hsn).trans g0
    have g19 := (bel9.frozen (p := ⟨w10.heap.size, 0, none⟩) hsn).trans g1
    have gK9 := (bel9.cell (p := ⟨w.heap.size, 0, none⟩) (by show w.heap.size < _; omega)).trans gK
    have HB9 : Hid (Below w10.heap.size w10 w9) := hB.trans (bel9.mono hB.size)
    have HM9 : Hid (Mid lo w7.heap.size W w9) := Mid.of_below bel9 (by omega)
    have HK9 : Hid (KeepsOthers W w9) := keeps_below bel9
    have HZ9 : Hid (W11.heap.size ≤ w9.heap.size) := Nat.le_trans hsw bel9.size
    have HSN : Hid (w7.heap.size < w10.heap.size) := sF
    clear bel9 hB g0 g1 gK gR gW q1 q2
    by_cases heq : (m : Int) = kk
    · subst heq
      gi_wp2
      exact ⟨HK9.out, rfl, ⟨_, g09, g19, HZ9.out, fun h => by omega⟩, HB9.out⟩
    · have heq' : ((m : Int) == kk) = false := by simpa using heq
      gi_wp2
      have K9 : Mid lo w7.heap.size w9 (w9.setCell ⟨w10.heap.size, 0, none⟩ (.int .i64 (↑m + 1))) := (Mid.refl _ _ _).set (.inr (Nat.le_of_lt HSN.out)) _ _
      exact ⟨HK9.out.trans (KeepsOthers.setCell _ _ _), HM9.out.trans K9, ⟨by rw [HL.out]; exact World.cell?_setCell_same' _ _ _ (by rw [g09]; rfl), by rw [World.frozen?_setCell]; exact g19, by rw [World.size_setCell]; exact HZ9.out⟩, HB9.out.setCell (p := ⟨w10.heap.size, 0, none⟩) (Nat.le_refl _) _⟩
  case done =>
    rintro ys W hS ⟨⟨g0, g1, hsw⟩, hB⟩
    have hn : ys.length = ws.length := by have := congrArg List.length (hS.trans HWS.out.symm); simpa using this
    rw [hn] at g0
    exact ⟨⟨_, g0, g1, hsw, fun _ => rfl⟩, hB⟩
  case tail =>
    rintro D W hD ⟨⟨q, g0, g1, hsw, hq⟩, hB⟩ hK
    have gK : W.cell? ⟨w.heap.size, 0, none⟩ = some (.int .i64 kk) := (hB.cell (p := ⟨w.heap.size, 0, none⟩) (by show w.heap.size < _; omega)).trans cK10
    have gW : W.cell? ⟨b9, 0, none⟩ = some (.slice au ws.length cu) := (hB.cell (p := ⟨b9, 0, none⟩) sW).trans cW10
    have gF : W.cell? ⟨w7.heap.size, 0, none⟩ = some (.func (.func gf) #[] lb) := (hB.cell (p := ⟨w7.heap.size, 0, none⟩) sF).trans cF10
    go_upto_region 23 with fail
    go_cut [88] from 81 (fun t wx => t = .bool false ∧ W = wx)
    case first =>
      by_cases hk0 : kk < 0
      · obtain rfl := hq hk0
        have hd : decide (kk < 0) = true := decide_eq_true hk0
        go_wp2_with fail
        go_meet
        exact ⟨rfl, rfl⟩
      · have hd : decide (kk < 0) = false := decide_eq_false hk0
        go_wp2_with fail
        go_meet
        exact ⟨rfl, rfl⟩
    case rest =>
    obtain ⟨rfl, rfl⟩ := hcut
    go_wp2_with fail
    refine (HGV.out W hB).mono ?_
    rintro e w12 ⟨rfl, bel12⟩
    have hsn : w10.heap.size < W.heap.size := by omega
    have hDW : D < W.heap.size := (Array.getElem?_eq_some_iff.1 hK).1
    have B12 : Below w10.heap.size w10 w12 := hB.trans (bel12.mono hB.size)
    have g02 := (bel12.cell (p := ⟨w10.heap.size, 0, none⟩) hsn).trans g0
    have g12 := (bel12.frozen (p := ⟨w10.heap.size, 0, none⟩) hsn).trans g1
    have gF12 := (bel12.cell (p := ⟨w7.heap.size, 0, none⟩) (by show w7.heap.size < _; omega)).trans gF
    have hK12 : w12.heap[D]? = some (.deferred (some [])) := (bel12.block D hDW).trans hK
    have s12 : W.heap.size ≤ w12.heap.size := bel12.size
    have HN13 : Hid ((w12.setCell ⟨w10.heap.size, 0, none⟩ (.int .i64 0)).cell? ⟨w10.heap.size, 0, none⟩ = some (.int .i64 0)) := World.cell?_setCell_same' _ _ _ (by rw [g02]; rfl)
    have HF13 : Hid ((w12.setCell ⟨w10.heap.size, 0, none⟩ (.int .i64 0)).frozen? ⟨w10.heap.size, 0, none⟩ = false) := by show _ = _; rw [World.frozen?_setCell]; exact g12
    have HB13 : Hid (Below w10.heap.size w10 (w12.setCell ⟨w10.heap.size, 0, none⟩ (.int .i64 0))) := B12.setCell (p := ⟨w10.heap.size, 0, none⟩) (Nat.le_refl _) _
    have HK13 : Hid ((w12.setCell ⟨w10.heap.size, 0, none⟩ (.int .i64 0)).heap[D]? = some (.deferred (some []))) := (KeepsOthers.setCell w12 ⟨w10.heap.size, 0, none⟩ (.int .i64 0)).same D _ hK12 rfl
    have HZ13 : Hid ((w12.setCell ⟨w10.heap.size, 0, none⟩ (.int .i64 0)).heap.size = w12.heap.size) := World.size_setCell _ _ _
    clear bel12 hB g0 g1 gK gW gF hK
    go_upto_region 28 with fail
    generalize (w12.setCell ⟨w10.heap.size, 0, none⟩ (.int .i64 0)) = W13 at *
    have cN13 := HN13.out
    have fN13 := HF13.out
    have b13 := HB13.out
    have hK13 := HK13.out
    have s13 := HZ13.out
    have gF13 : W13.cell? ⟨w7.heap.size, 0, none⟩ = some (.func (.func gf) #[] lb) := (b13.cell (p := ⟨w7.heap.size, 0, none⟩) sF).trans cF10
    go_wp2
    refine (wpIn_wide (n := 12)).1 ?_
    refine' wpIn_rangeV rfl (by omega) (gf := gf) (lb := lb) rfl trivial heg (HSEQ.out (12 - 1) (by omega)) Mid.trans (midK_b (by omega)) (fun W o h => h.alloc (Nat.le_refl _) o) (HS7.out _ b13) (fun _ => rfl)
      (fun pre W => (W.cell? ⟨w10.heap.size, 0, none⟩ = some (.int .i64 (pre.length : Nat)) ∧ W.frozen? ⟨w10.heap.size, 0, none⟩ = false ∧ W13.heap.size ≤ W.heap.size) ∧ W.heap[D]? = some (.deferred (some [])) ∧ Below w10.heap.size w10 W)
      (fun c pre W => False)
      (OwnFrom.and (Own.from (fun s A B row hs hg hr => ⟨cell_kept hs.1 hg hr, (frozen_kept hs.1 hg hr).trans hs.2.1, Nat.le_trans hs.2.2 hg.size⟩) _) (OwnFrom.and (ownFrom_mark (by omega)) (ownFrom_below (Nat.le_refl _) b13.size)))
      (fun c s A B row hs hg hr => hs)
      (fun m pre => VV_from _ _ _ pre)
      ⟨⟨cN13, fN13, Nat.le_refl _⟩, hK13, b13⟩
      _ ?assign ?body ?done ?stop
    case assign =>
      intro l x W K hK
      gi_wp2
      exact hK
    case body =>
      clear hq
      rintro l pre ⟨xv, xs, xl⟩ W ⟨⟨g0, g1, hsw⟩, hKD, hB⟩ ⟨hpx, ho, hxl⟩
      obtain ⟨⟨yv, ys, yl⟩, hy, e1, e2⟩ := next_item HWS.out hpx
      dsimp only at e1 e2 ho hxl
      subst e1
      subst e2
      obtain ⟨gu, cap, eu, hgu, q1, q2, oy, -, hcap⟩ := pair_at (OP10.out.below hB) hy
      dsimp only at q1 q2 oy
      simp only [Value.slice.injEq, true_and] at eu
      obtain ⟨rfl, rfl⟩ := eu
      have hlt : pre.length < ws.length := (List.getElem?_eq_some_iff.1 hy).1
      have HL : Hid ((pre ++ [((xv, xs, xl) : Itm)]).length = pre.length + 1) := by show _ = _; simp
      have hx8 : xl.length * 8 ≤ 140737488351232 := by omega
      have rx := Own.rd ho hx8
      have ry := Own.rd oy hx8
      obtain ⟨_, ax, cx, ex, -⟩ := id rx
      subst ex
      have RX : Hid (∀ W', Below W.heap.size W W' → Rd W' (.slice ax xl.length cx) xl) := fun W' h => rx.below h
      have RY : Hid (∀ W', Below W.heap.size W W' → Rd W' ys xl) := fun W' h => ry.below h
      obtain ⟨_, ay, cy, ey, -⟩ := id ry
      subst ey
      have gF : W.cell? ⟨w7.heap.size, 0, none⟩ = some (.func (.func gf) #[] lb) := (hB.cell (p := ⟨w7.heap.size, 0, none⟩) sF).trans cF10
      have gW : W.cell? ⟨b9, 0, none⟩ = some (.slice (some ⟨gu, 0, none⟩) ws.length cu) := (hB.cell (p := ⟨b9, 0, none⟩) sW).trans cW10
      clear rx ry ho oy hpx hy
      generalize pre.length = m at *
      have hd : decide (ws.length ≤ m) = false := decide_eq_false (by omega)
      gi_wp2_with fail
      refine ⟨trivial, ?_⟩
      refine ((callsIn_wide.2 (HGV.out W hB)).inRound l).mono ?_
      rintro e w14 ⟨rfl, bel14⟩
      have hsn : w10.heap.size < W.heap.size := by omega
      have g04 := (bel14.cell (p := ⟨w10.heap.size, 0, none⟩) hsn).trans g0
      have g14 := (bel14.frozen (p := ⟨w10.heap.size, 0, none⟩) hsn).trans g1
      have gW4 := (bel14.cell (p := ⟨b9, 0, none⟩) (by show b9 < _; omega)).trans gW
      have q14 := (bel14.cell (p := ⟨gu, m * 2, none⟩) hgu).trans q1
      have q24 := (bel14.cell (p := ⟨gu, m * 2 + 1, none⟩) hgu).trans q2
      gi_wp2_with fail
      refine ⟨trivial, ?_⟩
      refine ((callsIn_wide.2 (refEqual_self _ _ xl w14 (RX.out w14 bel14) (RY.out w14 bel14))).inRound l).mono ?_
      rintro e w9 ⟨rfl, bel9⟩
      have bel19 : Below W.heap.size W w9 := Below.step bel14 bel9
      have g09 := (bel19.cell (p := ⟨w10.heap.size, 0, none⟩) hsn).trans g0
      have g19 := (bel19.frozen (p := ⟨w10.heap.size, 0, none⟩) hsn).trans g1
      have HB9 : Hid (Below w10.heap.size w10 w9) := hB.trans (bel19.mono hB.size)
      have HM9 : Hid (Mid lo w7.heap.size W w9) := Mid.of_below bel19 (by omega)
      have HK9 : Hid (KeepsOthers W w9) := keeps_below bel19
      have HZ9 : Hid (W13.heap.size ≤ w9.heap.size) := Nat.le_trans hsw bel19.size
      have HSN : Hid (w7.heap.size < w10.heap.size) := sF
      have HKD : Hid (W.heap[D]? = some (.deferred (some []))) := hKD
      clear bel9 bel14 bel19 hB g0 g1 gF gW q1 q2 hKD
      gi_wp2
      have K9 : Mid lo w7.heap.size w9 (w9.setCell ⟨w10.heap.size, 0, none⟩ (.int .i64 (↑m + 1))) := (Mid.refl _ _ _).set (.inr (Nat.le_of_lt HSN.out)) _ _
      have KO := HK9.out.trans (KeepsOthers.setCell w9 ⟨w10.heap.size, 0, none⟩ (.int .i64 (↑m + 1)))
      exact ⟨KO, HM9.out.trans K9, ⟨by rw [HL.out]; exact World.cell?_setCell_same' _ _ _ (by rw [g09]; rfl), by rw [World.frozen?_setCell]; exact g19, by rw [World.size_setCell]; exact HZ9.out⟩, KO.same D _ HKD.out rfl, HB9.out.setCell (p := ⟨w10.heap.size, 0, none⟩) (Nat.le_refl _) _⟩
    case done =>
      clear hq
      rintro D2 ys W hD2 hS ⟨⟨g0, g1, hsw⟩, hKD, hB⟩ hK
      have hn : ys.length = ws.length := by have := congrArg List.length (hS.trans HWS.out.symm); simpa using this
      rw [hn] at g0
      have gF : W.cell? ⟨w7.heap.size, 0, none⟩ = some (.func (.func gf) #[] lb) := (hB.cell (p := ⟨w7.heap.size, 0, none⟩) sF).trans cF10
      have gW : W.cell? ⟨b9, 0, none⟩ = some (.slice au ws.length cu) := (hB.cell (p := ⟨b9, 0, none⟩) sW).trans cW10
      have gR : W.cell? ⟨w.heap.size + 1, 0, none⟩ = some (.bool false) := (hB.cell (p := ⟨w.heap.size + 1, 0, none⟩) sN).trans cR10
      have fR : W.frozen? ⟨w.heap.size + 1, 0, none⟩ = false := (hB.frozen (p := ⟨w.heap.size + 1, 0, none⟩) sN).trans fR10
      go_wp2_with fail
      refine (HGV.out W hB).mono ?_
      rintro e w15 ⟨rfl, bel15⟩
      have gR5 := (bel15.cell (p := ⟨w.heap.size + 1, 0, none⟩) (by show w.heap.size + 1 < _; omega)).trans gR
      have fR5 := (bel15.frozen (p := ⟨w.heap.size + 1, 0, none⟩) (by show w.heap.size + 1 < _; omega)).trans fR
      have hK5 : w15.heap[D2]? = some (.deferred (some [])) := (bel15.block D2 (Array.getElem?_eq_some_iff.1 hK).1).trans hK
      have hKD5 : w15.heap[D]? = some (.deferred (some [])) := (bel15.block D (Array.getElem?_eq_some_iff.1 hKD).1).trans hKD
      have BW15 : Hid (Below w.heap.size w w15) := (BW10.out.trans (hB.mono (by omega))).trans (bel15.mono (by omega))
      clear bel15 hB g0 g1 gF gW gR fR hK hKD
      go_wp2
      have k4 := World.cell?_setCell_same' w15 ⟨w.heap.size + 1, 0, none⟩ (.bool true) (by rw [gR5]; rfl)
      have hK' := (KeepsOthers.setCell w15 ⟨w.heap.size + 1, 0, none⟩ (.bool true)).same D2 _ hK5 rfl
      have hKD' := (KeepsOthers.setCell w15 ⟨w.heap.size + 1, 0, none⟩ (.bool true)).same D _ hKD5 rfl
      have hDD : D ≠ D2 := by omega
      refine ⟨by simp, .inl ⟨_, _, rfl, run_takeDeferred hK', ?_⟩⟩
      have k5 := cell_kept k4 (grownBy_putObj' _ D2 (.deferred none)) (fun r e => by cases e; exact ⟨_, hK', rfl⟩)
      have hKD6 := (World.putObj_heap_other (w := w15.setCell ⟨w.heap.size + 1, 0, none⟩ (.bool true)) (o := .deferred none) hDD).trans hKD'
      refine ⟨by simp, .inl ⟨_, _, rfl, run_takeDeferred hKD6, ?_⟩⟩
      have k6 := cell_kept k5 (grownBy_putObj' _ D (.deferred none)) (fun r e => by cases e; exact ⟨_, hKD6, rfl⟩)
      have bb : Below w.heap.size w (w15.setCell ⟨w.heap.size + 1, 0, none⟩ (.bool true)) := BW15.out.setCell (p := ⟨w.heap.size + 1, 0, none⟩) (by show w.heap.size ≤ w.heap.size + 1; omega) _
      exact ⟨.bool true, by simp [results, Try.f8, go_sem, k6], rfl, (bb.trans (belowK_b (w := w) (Nat.le_refl _) _ D2 _ _ (by omega) hK' rfl rfl)).trans (belowK_b (w := w) (Nat.le_refl _) _ D _ _ (by omega) hKD6 rfl rfl)⟩
    case stop =>
      rintro D c pre W hD hSp h hK
      exact h.elim

end Go.Proofs.Ythplkllphpnaoaa
