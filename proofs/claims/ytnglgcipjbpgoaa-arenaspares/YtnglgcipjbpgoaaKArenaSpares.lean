/-
  ArenaSpares, walked.
  KEEP: set on app at below new trans refl start ap kept rd rds mono own row cells lt box lo ml ms c0 f0 form max find eq ma some none more map keep mv c kill kst book drew alloc step block cell tys put came out walk
-/
import Derived.Test.YtnglgcipjbpgoaaKAp6
import Derived.Test.YtnglgcipjbpgoaaAppK
import Derived.Sort.AtCallIn
import Derived.OwnWalkIn
import Derived.Sort.CutIn
set_option linter.unusedSimpArgs false
set_option linter.unusedVariables false
namespace Go.Proofs.Ytnglgcipjbpgoaa.arenaSpares
open Go Go.RowKit Go.Maps Go.Shelf Go.Proofs.Ytnglgcipjbpgoaa

attribute [local go_sem] Oper.semAt_some
attribute [-go_sem] Builtin.append_

def noPanic4 (Q : Exit → Act → World → Prop) : Exit → Act → World → Prop
  | .panic _, _, _ => False
  | e, a, w => Q e a w
theorem calls_marks4 {P : Program} {f : FuncId} {fn : Func} {c : Code} {args : Array Value} {w : World} {R : Ending → World → Prop} (n : Nat) (hf : P.funcs[f]? = some fn) (hb : fn.body = some c)
    (h : c.wp P (noPanic4 (bodyPostM Fence.wide n P fn R)) { tmps := args ++ Array.replicate (fn.ntmps - args.size) undef, defers := [] } w) : Calls P f args w R :=
  callsIn_wide.1 (callsIn_of_wp_marks hf hb trivial (wpIn_wide.2 (wp_mono h (by intro e a w h; cases e <;> first | exact h | exact h.elim))))
theorem infoRf : (Try.prog.info? 44).map (fun i => (i.zero, i.size, i.bytes)) = some (some (.int .i64 0), 1, 8) := by kernel_rfl
theorem undRf : Try.prog.underlying 51 = some (.slice 44) := by kernel_rfl
theorem fn_nil5 (gf : Nat) (lb : Array Value) (w : World) : (binOp BinOp.eql 42 (Value.func (Fn.func gf) #[] lb) Value.nilFunc).run Try.prog w = .ok (.bool false) w := by rfl
def tot (css : List (List Int)) : Nat := (css.map fun c => 1 + c.length).sum
theorem tot_take (css : List (List Int)) (i : Nat) (h : i < css.length) : tot (css.take (i + 1)) = tot (css.take i) + 1 + (css.getD i []).length := by
  unfold tot
  rw [List.take_succ_eq_append_getElem h, List.map_append, List.sum_append]
  simp [List.getD_eq_getElem?_getD, h]; omega
theorem tot_le (css : List (List Int)) (i : Nat) : tot (css.take i) ≤ tot css := by
  have : tot css = tot (css.take i) + tot (css.drop i) := by
    unfold tot
    rw [← List.sum_append, ← List.map_append, List.take_append_drop]
  omega
theorem len_tot : ∀ css : List (List Int), css.length ≤ tot css
  | [] => Nat.le_refl _
  | c :: r => by
    have := len_tot r
    unfold tot at this ⊢
    simp only [List.map_cons, List.sum_cons, List.length_cons]
    omega
/-- how many words there are at most -/
def bd (css : List (List Int)) (k : Nat) : Nat := tot (css.take k) + (if k ≤ css.length then 0 else 4)
theorem bd_le (css : List (List Int)) (k : Nat) : bd css k ≤ tot css + 4 := by
  have := tot_le css k
  unfold bd
  split <;> omega
theorem bd_yes {css : List (List Int)} {k : Nat} (h : k < css.length) : bd css (k + 1) = bd css k + 1 + (css.getD k []).length := by
  unfold bd
  rw [tot_take css k h, if_pos (by omega), if_pos (by omega)]
  omega
theorem bd_last (css : List (List Int)) : bd css (css.length + 1) = bd css css.length + 4 := by
  unfold bd
  rw [if_neg (by omega), if_pos (Nat.le_refl _), List.take_of_length_le (Nat.le_succ _), List.take_length]
/-- behind so many rounds of the first loop -/
structure Lp (w W : World) (css : List (List Int)) (k : Nat) (v : Value) (S : List Seg) (pv uv cv : Value) (U C : List Ls) : Prop where
  sq : Sq w W w.heap.size v S S pv uv cv U C
  fl : (flat S).length ≤ bd css k
  al : ∀ s ∈ S, s.live = true
  cl : C.length = k
  cb : ∀ x ∈ C, x.2.length ≤ 4194500
def dbl (L : List (Int × List Int × Bool)) : List (List Int) := L.flatMap fun x => [x.2.1, x.2.1]
theorem dbl_len (L : List (Int × List Int × Bool)) : (dbl L).length = 2 * L.length := by
  unfold dbl
  induction L with
  | nil => rfl
  | cons x r ih => simp only [List.flatMap_cons, List.length_append, List.length_cons, List.length_nil, ih]; omega
theorem Kq.from {Q : Nat → Prop} {w0 : World} {B : Nat} (hB : w0.heap.size ≤ B) (hQ : ∀ k, Q k → k < w0.heap.size) : OwnFrom B (fun (_ : Unit) W => Kq Q w0 W) := fun _ X Y row h hg hr =>
  ⟨Nat.le_trans h.size hg.size, fun k hk => (hg.block k (Nat.lt_of_lt_of_le (hQ k hk) h.size) (fun e => by have := (hr k e.symm).1; have := hQ k hk; omega)).trans (h.block k hk)⟩
/-- behind the first loop; Q: blocks of Live's iterator -/
structure Ph (w W : World) (Q : Nat → Prop) (D : Nat) (v : Value) (S : List Seg) (pv uv cv : Value) (U C : List Ls) (av : Value) (A : List Ls) (X : List (List Int)) : Prop where
  sq : Sq w W w.heap.size v S S pv uv cv U C
  al : Al4 w W (fun k => Gq4 w.heap.size v pv uv cv U C k ∨ Q k) D av A
  eq : A.map Prod.snd = X
  qs : ∀ k, Q k → k < W.heap.size
section
variable {w W W' : World} {Q Q' : Nat → Prop} {D : Nat} {v : Value} {S : List Seg} {pv uv cv : Value} {U C : List Ls} {av av' : Value} {A N : List Ls} {X : List (List Int)}
theorem Ph.below (h : Ph w W Q D v S pv uv cv U C av A X) (hb : Below W.heap.size W W') : Ph w W' Q D v S pv uv cv U C av A X := ⟨h.sq.below hb, h.al.below hb, h.eq, fun k hk => Nat.lt_of_lt_of_le (h.qs k hk) hb.size⟩
theorem Ph.from {B : Nat} (hB : w.heap.size ≤ B) : OwnFrom B (fun (_ : Unit) W => Ph w W Q D v S pv uv cv U C av A X) := fun _ X Y row h hg hr => ⟨Sq.from hB () X Y row h.sq hg hr, Al4.from () X Y row h.al hg hr, h.eq, fun k hk => Nat.lt_of_lt_of_le (h.qs k hk) hg.size⟩
theorem Ph.lt (h : Ph w W Q D v S pv uv cv U C av A X) : ∀ k, (Gq4 w.heap.size v pv uv cv U C k ∨ Q k) → k < W.heap.size := fun k hk => hk.elim (h.sq.lt k) (h.qs k)
/-- more blocks are others' -/
theorem Ph.toQ (h : Ph w W Q D v S pv uv cv U C av A X) (hq : ∀ k, Q' k → Gq4 w.heap.size v pv uv cv U C k ∨ W.heap.size ≤ k) (hb : Below W.heap.size W W') (hl : ∀ k, Q' k → k < W'.heap.size) : Ph w W' Q' D v S pv uv cv U C av A X := by
  have h' := h.below hb
  have no : ∀ g, g < W.heap.size → ¬ (Gq4 w.heap.size v pv uv cv U C g ∨ Q g) → ¬ (Gq4 w.heap.size v pv uv cv U C g ∨ Q' g) := fun g hg hn q => q.elim (fun q => hn (.inl q)) (fun q => (hq g q).elim (fun q => hn (.inl q)) (fun q => by omega))
  exact ⟨h'.sq, ⟨h'.al.bx, h'.al.row, h'.al.own, ⟨h.al.oD.1, no D h.al.lt.1 h.al.oD.2⟩, fun g hg => ⟨(h.al.oA g hg).1, no g (h.al.lt.2.1 g hg) (h.al.oA g hg).2⟩, fun x hx g hg => ⟨(h.al.oL x hx g hg).1, no g (h.al.lt.2.2 x hx g hg) (h.al.oL x hx g hg).2⟩, h.al.ap⟩, h.eq, hl⟩
/-- more is handed out -/
theorem Ph.app {w1 : World} (h : Ph w W Q D v S pv uv cv U C av A X) (B : Nat) (hN : ∀ x ∈ N, Own B W x.1 x.2) (hB : ∀ k, (Gq4 w.heap.size v pv uv cv U C k ∨ Q k) → k < B) (hB2 : w.heap.size ≤ B ∧ D < B) (hB3 : ∀ g, av.ownBlock = some g → g < B) (hB4 : ∀ x ∈ A, ∀ g, x.1.ownBlock = some g → g < B) (hap : Apv (N.map Prod.fst))
    (ap1 : Ap W av w1 av') (o1 : w1.ownsRow 0 32 1 av' (A.length + N.length) (A.map Prod.fst ++ N.map Prod.fst)) :
    Ph w (w1.setCell ⟨D, 0, none⟩ av') Q D v S pv uv cv U C av' (A ++ N) (X ++ N.map Prod.snd) ∧ w1.cell? ⟨D, 0, none⟩ = some av ∧ w1.frozen? ⟨D, 0, none⟩ = false ∧ Kq Q W (w1.setCell ⟨D, 0, none⟩ av') ∧ KeepsOthers W (w1.setCell ⟨D, 0, none⟩ av') := by
  have nb : ∀ x ∈ N, ∀ g, x.1.ownBlock = some g → B ≤ g := fun x hx g hg => (World.ownsRow.lt (hN x hx) g hg).1
  have q := h.al.app (N := N) (fun x hx => row_mono (hN x hx) (Nat.zero_le _)) (fun x hx g hg => ⟨by have := nb x hx g hg; omega, fun q => by have := hB g q; have := nb x hx g hg; omega, fun q => by have := nb x hx g hg; omega, fun q => by have := hB3 g q; have := nb x hx g hg; omega⟩)
    (by
      rw [List.map_append]
      exact List.pairwise_append.2 ⟨h.al.ap, hap, fun x hx y hy g hg q => by
        obtain ⟨x', hx', rfl⟩ := List.mem_map.1 hx
        obtain ⟨y', hy', rfl⟩ := List.mem_map.1 hy
        have := hB4 x' hx' g hg
        have := nb y' hy' g q
        omega⟩) ap1 o1 h.sq.bel.size h.lt
  exact ⟨⟨h.sq.beside ⟨h.al.oD.1, fun q => h.al.oD.2 (.inl q)⟩ (fun g hg => ⟨(h.al.oA g hg).1, fun q => (h.al.oA g hg).2 (.inl q)⟩) q.2.2.2.1 q.2.2.2.2.1 q.2.2.2.2.2.1 q.2.2.2.2.2.2.1 q.2.2.2.2.2.2.2, q.1, by rw [List.map_append, h.eq], fun k hk => Nat.lt_of_lt_of_le (h.qs k hk) q.2.2.2.2.1⟩, q.2.1, q.2.2.1, ⟨q.2.2.2.2.1, fun k hk => q.2.2.2.1 k (h.qs k hk) (fun e => h.al.oD.2 (by rw [← e]; exact .inr hk)) (fun e => (h.al.oA k e).2 (.inr hk))⟩, keeps_app h.al.row ap1⟩
end
theorem lits_in {S : List Seg} {y : List Int} (hy : y ∈ dbl (lv 0 S) ++ (lv 0 S).map (fun x => x.2.1) ++ (lv 0 S).map (fun x => x.2.1)) : y.length ≤ (flat S).length := by
  have one : ∀ x ∈ lv 0 S, x.2.1.length ≤ (flat S).length := fun x hx => by
    have := lv_find hx
    rw [Int.sub_zero] at this
    exact lits_le this
  rcases List.mem_append.1 hy with m | m
  · rcases List.mem_append.1 m with m | m
    · obtain ⟨x, hx, q⟩ := List.mem_flatMap.1 m
      have : y = x.2.1 := by simpa using q
      rw [this]; exact one x hx
    · obtain ⟨x, hx, rfl⟩ := List.mem_map.1 m
      exact one x hx
  · obtain ⟨x, hx, rfl⟩ := List.mem_map.1 m
    exact one x hx
/-- all in one row: what ApartInts leaves -/
theorem Ph.last {w W : World} {Q : Nat → Prop} {D : Nat} {v : Value} {S : List Seg} {pv uv cv : Value} {U C : List Ls} {av av' : Value} {A : List Ls} {X : List (List Int)} {w1 : World} (h : Ph w W Q D v S pv uv cv U C av A X) (ap1 : Ap W av w1 av') (o1 : w1.ownsRow 0 32 1 av' (A.length + C.length) (A.map Prod.fst ++ C.map Prod.fst)) (D1 D2 : Nat) (m1 : W.heap[D1]? = some (.deferred (some []))) (m2 : W.heap[D2]? = some (.deferred (some [])))
    (hK : (A.length + C.length) * 24 ≤ 140737488351232) (hA : ∀ x ∈ A, x.2.length * 8 ≤ 140737488353280) (hC : ∀ x ∈ C, x.2.length * 8 ≤ 140737488353280) :
    w1.cell? ⟨D, 0, none⟩ = some av ∧ w1.frozen? ⟨D, 0, none⟩ = false ∧ (w1.setCell ⟨D, 0, none⟩ av').cell? ⟨D, 0, none⟩ = some av' ∧ Calls Try.prog 20 #[av'] (w1.setCell ⟨D, 0, none⟩ av') fun e w' => e = .returned (.bool true) ∧ Sq w w' w.heap.size v S S pv uv (.slice none 0 0) U [] ∧ w'.heap[D1]? = some (.deferred (some [])) ∧ w'.heap[D2]? = some (.deferred (some [])) := by
  obtain ⟨g1, g2, g3, g4, g5, kk, gs, h1, h2, h3⟩ := h.al.grow ap1 o1
  have nD : ¬ Gq4 w.heap.size v pv uv cv U C D := fun q => h.al.oD.2 (.inl q)
  have nA : ∀ g, av.ownBlock = some g → w.heap.size ≤ g ∧ ¬ Gq4 w.heap.size v pv uv cv U C g := fun g hg => ⟨(h.al.oA g hg).1, fun q => (h.al.oA g hg).2 (.inl q)⟩
  have sq := h.sq.beside ⟨h.al.oD.1, nD⟩ nA kk gs h1 h2 h3
  have tn : ∀ {k : Nat} {t : TypeId}, W.heap[k]? = some (.deferred (some [])) → tyB W k ≠ some t := fun {k t} hk q => by unfold tyB at q; rw [hk] at q; cases q
  have mk : ∀ k : Nat, W.heap[k]? = some (.deferred (some [])) → (w1.setCell ⟨D, 0, none⟩ av').heap[k]? = some (.deferred (some [])) := fun k hk => (kk k (Array.getElem?_eq_some_iff.1 hk).1 (fun e => tn (t := 49) hk (by rw [e]; exact tyB_cells h.al.bx)) (fun e => tn (t := 32) hk (tyB_row h.al.row e))).trans hk
  have sd := sq.dropC
  have hap := List.pairwise_cons.1 h.sq.ap
  have hapC := List.pairwise_append.1 hap.2
  obtain ⟨tb, tv, tp, tu, tc, tU, tC⟩ := sq.tys
  have tn2 : ∀ {k : Nat} {t : TypeId}, (w1.setCell ⟨D, 0, none⟩ av').heap[k]? = some (.deferred (some [])) → tyB (w1.setCell ⟨D, 0, none⟩ av') k ≠ some t := fun {k t} hk q => by unfold tyB at q; rw [hk] at q; cases q
  refine ⟨g4, g5, by simp [World.cell?, g1], ?_⟩
  refine (apart_list (fun k => k < w.heap.size ∨ Gq4 w.heap.size v pv uv (.slice none 0 0) U [] k ∨ k = D1 ∨ k = D2) av' (A ++ C) _ (by rw [List.length_append, List.map_append]; exact g2) (fun x hx => ?_) ?_ (by rw [List.length_append]; exact hK) (fun x hx => (List.mem_append.1 hx).elim (hA x) (hC x)) (fun x hx g hg q => ?_) (fun k q => ?_)).mono fun e w' ⟨he, bl, kp⟩ => ⟨he, sd.keep ⟨bl.os.trans sd.bel.os, bl.tape.trans sd.bel.tape, bl.output.trans sd.bel.output, Nat.le_trans sd.bel.size bl.size, fun k hk => (kp k (.inl hk)).trans (sd.bel.block k hk)⟩ (fun k hk => kp k (.inr (.inl hk))), (kp D1 (.inr (.inr (.inl rfl)))).trans (mk D1 m1), (kp D2 (.inr (.inr (.inr rfl)))).trans (mk D2 m2)⟩
  · rcases List.mem_append.1 hx with m | m
    · exact g3 x m
    · exact sq.co x m
  · rw [List.map_append]
    refine List.pairwise_append.2 ⟨h.al.ap, hapC.2.1, fun x hx y hy g hg q => ?_⟩
    obtain ⟨x', hx', rfl⟩ := List.mem_map.1 hx
    obtain ⟨y', hy', rfl⟩ := List.mem_map.1 hy
    exact (h.al.oL x' hx' g hg).2 (.inl (.inr (.inr (.inr (.inr (.inr (.inr ⟨y', hy', q⟩)))))))
  · rcases List.mem_append.1 hx with m | m
    · have hlo := (h.al.oL x m g hg).1
      have hno : ¬ Gq4 w.heap.size v pv uv cv U C g := fun q => (h.al.oL x m g hg).2 (.inl q)
      have tg := tyB_row (g3 x m) hg
      rcases q with q | (q | q | q | q | q | q | ⟨y, hy, q⟩) | rfl | rfl
      · omega
      · exact hno (.inl q)
      · exact hno (.inr (.inl q))
      · exact hno (.inr (.inr (.inl q)))
      · exact hno (.inr (.inr (.inr (.inl q))))
      · cases q
      · exact hno (.inr (.inr (.inr (.inr (.inr (.inl q))))))
      · exact absurd hy List.not_mem_nil
      · exact tn2 (mk _ m1) tg
      · exact tn2 (mk _ m2) tg
    · have hlo := sq.lo g (.inr (.inr (.inr (.inr (.inr (.inr ⟨x, m, hg⟩))))))
      have tg := tC x m g hg
      rcases q with q | (q | q | q | q | q | ⟨y, hy, q⟩ | ⟨y, hy, q⟩) | rfl | rfl
      · omega
      · rw [q] at tg; exact absurd (tg.symm.trans tb) (by decide)
      · exact hap.1 x.1 (List.mem_append.2 (.inr (List.mem_map_of_mem m))) g q hg
      · exact absurd (tg.symm.trans (tp g q)) (by decide)
      · exact absurd (tg.symm.trans (tu g q)) (by decide)
      · cases q
      · exact hapC.2.2 y.1 (List.mem_map_of_mem hy) x.1 (List.mem_map_of_mem m) g q hg
      · exact absurd hy List.not_mem_nil
      · exact tn2 (mk _ m1) tg
      · exact tn2 (mk _ m2) tg
  · rcases q with q | q | rfl | rfl
    · exact Nat.lt_of_lt_of_le q sq.bel.size
    · exact sd.lt k q
    · exact (Array.getElem?_eq_some_iff.1 (mk _ m1)).1
    · exact (Array.getElem?_eq_some_iff.1 (mk _ m2)).1
theorem two_cells (w : World) (x y : Value) (t : TypeId) : ∀ j u, [x, y][j]? = some u → (w.alloc (.cells #[x, y] t)).cell? ((⟨w.heap.size, 0, none⟩ : Addr).add j) = some u := cell_two_new4 w x y t
theorem rd_three (w : World) (x y z : Int) : Rd (w.alloc (.cells #[.int .i64 x, .int .i64 y, .int .i64 z] 3)) (.slice (some ⟨w.heap.size, 0, none⟩) 3 3) [x, y, z] := by
  have hh := World.alloc_heap_new w (.cells #[.int .i64 x, .int .i64 y, .int .i64 z] 3)
  refine ⟨by simp, some ⟨w.heap.size, 0, none⟩, 3, rfl, by simp, by unfold maxLen; omega, by simp, fun _ => ⟨w.heap.size, 0, rfl, by rw [World.size_alloc]; omega, fun j hj => ?_⟩⟩
  have : j < 3 := by simpa using hj
  match j, this with
  | 0, _ => rw [World.cell?_alloc_at _ _ _ _ rfl]; rfl
  | 1, _ => rw [World.cell?_alloc_at _ _ _ _ rfl]; rfl
  | 2, _ => rw [World.cell?_alloc_at _ _ _ _ rfl]; rfl
set_option maxRecDepth 100000 in
set_option maxHeartbeats 6400000 in
theorem walk (s : Value) (css : List (List Int)) (w : World) (hr : Rds w s css) (hN : tot css ≤ 4194304) :
    Calls Try.prog 5 #[s] w fun e w' => e = .returned (.bool true) ∧ Below w.heap.size w w' := by
  obtain ⟨sa, sc, rfl, hsc, hscm, hcells⟩ := hr.form
  have hpn := ptr_nil4 ⟨w.heap.size, 0, none⟩
  obtain ⟨iL, hiL, hL0, hL1, hL2⟩ := info_parts infoL
  obtain ⟨iR, hiR, hR0, hR1, hR2⟩ := info_parts infoRf
  refine calls_marks4 12 Try.func5 rfl ?_
  simp only [Try.ntmps5, List.size_toArray, List.length_cons, List.length_nil, Nat.reduceAdd, Nat.reduceSub, Array.replicate_succ, Array.replicate_zero, List.push_toArray, List.append_toArray, List.nil_append, List.cons_append]
  go_wp2_with fail
  refine (arNew_any _).mono ?_
  rintro e w1 ⟨rfl, rfl⟩
  simp only [World.size_alloc]
  have HL0 : Hid (Lp w (w.alloc (.cells #[.slice none 0 0, .int .i64 0] 83)) css 0 (.slice none 0 0) [] (.slice none 0 0) (.slice none 0 0) (.slice none 0 0) [] []) :=
    ⟨⟨below_box _ _, ⟨Bx2.new _ _ _ _, World.ownsRow_nil _ _ _ _, fun x hx => (absurd hx List.not_mem_nil)⟩, by
      rintro k (rfl | q | q | q | q | ⟨x, hx, q⟩ | ⟨x, hx, q⟩)
      · exact Nat.le_refl _
      · cases q
      · cases q
      · cases q
      · cases q
      · exact absurd hx List.not_mem_nil
      · exact absurd hx List.not_mem_nil, World.ownsRow_nil _ _ _ _, World.ownsRow_nil _ _ _ _, fun x hx => (absurd hx List.not_mem_nil), rfl, World.ownsRow_nil _ _ _ _, fun x hx => (absurd hx List.not_mem_nil), fun g hg => (by cases hg), List.pairwise_singleton _ _⟩, Nat.zero_le _, fun x hx => (absurd hx List.not_mem_nil), rfl, fun x hx => (absurd hx List.not_mem_nil)⟩
  have HCs : Hid (∀ k, k < css.length → ∃ b off u, sa = some ⟨b, off, none⟩ ∧ w.cell? ⟨b, off + k, none⟩ = some u ∧ Rd w u (css.getD k [])) := hcells
  have HN : Hid (tot css ≤ 4194304) := hN
  have HLn : Hid (css.length ≤ 4194304) := by
    show _ ≤ _
    have := len_tot css
    have h5 := HN.out
    omega
  clear hcells hN hr
  go_wp2_with fail
  generalize w.alloc (.cells #[.slice none 0 0, .int .i64 0] 83) = W1 at *
  go_loopg [4, 5, 6, 7] (css.length + 1) (fun q p4 p5 p6 i7 wr => ∃ (k : Nat) (v : Value) (S : List Seg) (U C : List Ls), k + q = css.length + 1 ∧ i7 = .int .i64 k ∧ Hid (Lp w wr css k v S p4 p5 p6 U C))
  case atStart => exact ⟨0, .slice none 0 0, [], [], [], by omega, rfl, HL0⟩
  case round =>
    obtain ⟨k, v, S, U, C, hk, rfl, HL⟩ := hrel
    have HK : Hid (k + gk = css.length + 1) := hk
    clear hk
    by_cases hlt : k ≤ css.length
    · have HLe : Hid (k ≤ css.length) := hlt
      have hsw : w.heap.size ≤ wr.heap.size := HL.out.sq.bel.size
      have HB1 : Hid (Below wr.heap.size wr (wr.alloc (.cells #[.int .i64 1, .int .i64 (-2), .int .i64 3] 3))) := below_box _ _
      have HS1 : Hid (Sq w (wr.alloc (.cells #[.int .i64 1, .int .i64 (-2), .int .i64 3] 3)) w.heap.size v S S u4 u5 u6 U C) := HL.out.sq.below HB1.out
      have HG : Hid (∀ i, Gq4 w.heap.size v u4 u5 u6 U C i → w.heap.size ≤ i ∧ i < wr.heap.size) := fun i hi => ⟨HL.out.sq.lo i hi, HL.out.sq.lt i hi⟩
      by_cases hk2 : k < css.length
      case pos =>
        obtain ⟨b0, off, cvv, hsa, hcu, hrd⟩ := HCs.out k hk2
        subst hsa
        have hb0 : b0 < w.heap.size := World.block_lt_of_cell? w ⟨b0, off + k, none⟩ hcu
        have hcu1 : (wr.alloc (.cells #[.int .i64 1, .int .i64 (-2), .int .i64 3] 3)).cell? ⟨b0, off + k, none⟩ = some cvv := (HS1.out.bel.cell (p := ⟨b0, off + k, none⟩) hb0).trans hcu
        obtain ⟨zs, hzs⟩ : ∃ zs, zs = css.getD k [] := ⟨_, rfl⟩
        rw [← hzs] at hrd
        have HRc : Hid (Rd (wr.alloc (.cells #[.int .i64 1, .int .i64 (-2), .int .i64 3] 3)) cvv zs) := hrd.below HS1.out.bel
        have HOc : Hid (zs ≠ [] → Out (wr.alloc (.cells #[.int .i64 1, .int .i64 (-2), .int .i64 3] 3)) (Gq4 w.heap.size v u4 u5 u6 U C) cvv) := fun hz g hg => by
          obtain ⟨-, a', c', e', -, -, -, h2⟩ := hrd
          obtain ⟨b1, o1, rfl, hl1, -⟩ := h2 hz
          rw [e'] at hg
          simp [Value.ownBlock] at hg
          subst hg
          exact ⟨by rw [World.size_alloc]; omega, fun q => by have := (HG.out _ q).1; omega⟩
        have HBd : Hid (bd css (k + 1) = bd css k + 1 + zs.length) := by rw [hzs]; exact bd_yes hk2
        obtain ⟨ca, cc, hcv, -⟩ := hrd.form
        subst hcv
        have hz8 := hrd.len
        clear hrd hcu hzs
        go_wp2_with fail
        generalize (wr.alloc (.cells #[.int .i64 1, .int .i64 (-2), .int .i64 3] 3)) = Wl at *
        refine (lent_any (.slice ca zs.length cc) zs Wl HRc.out).mono ?_
        rintro e w2 ⟨x, rfl, ox, b2⟩
        obtain ⟨ax, cx, hx⟩ := own_form ox
        have hml : (zs ++ m64).length = zs.length + 64 := by
          have h6 : m64.length = 64 := rfl
          have h7 : (zs ++ m64).length = zs.length + m64.length := List.length_append
          skip
          omega
        rw [hml] at hx
        subst hx
        obtain ⟨gx, hax, hcx⟩ := own_pos ox (by omega)
        subst hax
        rw [hml] at hcx
        have HML : Hid ((zs ++ m64).length = zs.length + 64) := hml
        have HX2 : Hid (Own Wl.heap.size w2 (.slice (some ⟨gx, 0, none⟩) (zs.length + 64) cx) (zs ++ m64)) := ox
        have HS2 : Hid (Sq w w2 w.heap.size v S S u4 u5 u6 U C) := HS1.out.below b2
        have HRc2 : Hid (Rd w2 (.slice ca zs.length cc) zs) := HRc.out.below b2
        have HOc2 : Hid (zs ≠ [] → Out w2 (Gq4 w.heap.size v u4 u5 u6 U C) (.slice ca zs.length cc)) := fun hz => (HOc.out hz).mono b2.size
        have hwl : wr.heap.size ≤ Wl.heap.size := HB1.out.size
        have HOx2 : Hid (Out w2 (Gq4 w.heap.size v u4 u5 u6 U C) (.slice (some ⟨gx, 0, none⟩) (zs.length + 64) cx)) := Out.of_new (B := Wl.heap.size) (fun k hk => Nat.lt_of_lt_of_le (HG.out k hk).2 hwl) (fun g hg => World.ownsRow.lt ox g hg)
        have HXl : Hid (∀ g, Value.ownBlock (.slice (some ⟨gx, 0, none⟩) (zs.length + 64) cx) = some g → w.heap.size ≤ g) := fun g hg => by have := (World.ownsRow.lt ox g hg).1; omega
        have HF2 : Hid (Rd w2 (.slice (some ⟨gx, 0, none⟩) zs.length cx) zs) := by
          have h5 := front4 (a := some ⟨gx, 0, none⟩) (cap := cx) (X := zs ++ m64) (zs := zs) (by rw [hml]; exact ox) rfl hz8
          skip
          exact h5
        clear ox b2 hml
        obtain ⟨lb, hlb⟩ : ∃ lb, (((k : Nat) : Int) % 2 == 0) = lb := ⟨_, rfl⟩
        obtain ⟨a6, c6, h6⟩ := row_form HS2.out.cr
        subst h6
        obtain ⟨a5, c5, h5'⟩ := row_form HS2.out.ur
        subst h5'
        obtain ⟨a4, c4, h4'⟩ := row_form HS2.out.pr
        subst h4'
        have hlvS := lv_len_le S 0
        have hfS := HL.out.fl
        have hbdl := bd_le css (k + 1)
        have hbd : bd css (k + 1) = bd css k + 1 + zs.length := by have := HBd.out; skip; omega
        have hNt := HN.out
        have hLn := HLn.out
        cases hs : zs.all fmd
        · have HPt : Hid (Calls Try.prog 15 #[.pointer (some ⟨w.heap.size, 0, none⟩), .slice (some ⟨gx, 0, none⟩) zs.length cx, .bool lb] w2 fun e w' => e = .returned (.tuple #[.int .i64 0, .int .i64 1]) ∧ w' = w2) := put_bad _ _ zs lb w2 HF2.out hs
          go_wp2_with fail
          refine HPt.out.mono ?_
          rintro e w3 ⟨rfl, ew⟩
          have ew := ew.symm
          subst ew
          --MARK1
          go_wp2_with fail
          refine (kept_any _ _ _ zs _ HX2.out HRc2.out).mono ?_
          rintro e w4 ⟨rfl, b4⟩
          have HS4 : Hid (Sq w w4 w.heap.size v S S (.slice a4 (lv 0 S).length c4) (.slice a5 U.length c5) (.slice a6 C.length c6) U C) := HS2.out.below b4
          have HX4 : Hid (Own 0 w4 (.slice (some ⟨gx, 0, none⟩) (zs.length + 64) cx) (zs ++ m64)) := (HX2.out.below b4).mono (Nat.zero_le _)
          have HO4 : Hid (Out w4 (Gq4 w.heap.size v (.slice a4 (lv 0 S).length c4) (.slice a5 U.length c5) (.slice a6 C.length c6) U C) (.slice (some ⟨gx, 0, none⟩) (zs.length + 64) cx)) := HOx2.out.mono b4.size
          clear b4
          go_wp2_with fail
          refine (over_any 0 _ (zs ++ m64) w4 HX4.out (by rw [HML.out]; omega)).mono ?_
          rintro e w5 ⟨⟨v5, rfl⟩, ⟨Z, hZ, oz⟩, g5⟩
          have HZ : Hid (Z.length = (zs ++ m64).length) := hZ
          have OZ : Hid (Own 0 w5 (.slice (some ⟨gx, 0, none⟩) (zs.length + 64) cx) Z) := oz
          have HS5 : Hid (Sq w w5 w.heap.size v S S (.slice a4 (lv 0 S).length c4) (.slice a5 U.length c5) (.slice a6 C.length c6) U C) := HS4.out.other g5 (fun g hg => ⟨HXl.out g hg, (HO4.out g hg).2⟩)
          have HOz : Hid (Out w5 (Gq4 w.heap.size v (.slice a4 (lv 0 S).length c4) (.slice a5 U.length c5) (.slice a6 C.length c6) U C) (.slice (some ⟨gx, 0, none⟩) (zs.length + 64) cx)) := HO4.out.mono g5.size
          clear hZ oz g5
          have HQa : Hid (Sq w (w5.alloc (.cells #[(.slice (some ⟨gx, 0, none⟩) (zs.length + 64) cx)] 32)) w.heap.size v S S (.slice a4 (lv 0 S).length c4) (.slice a5 U.length c5) (.slice a6 C.length c6) U C) := HS5.out.below (below_box _ _)
          have HOa : Hid (Own 0 (w5.alloc (.cells #[(.slice (some ⟨gx, 0, none⟩) (zs.length + 64) cx)] 32)) (.slice (some ⟨gx, 0, none⟩) (zs.length + 64) cx) Z) := OZ.out.below (below_box _ _)
          have HNa : Hid (∀ g, Value.ownBlock (.slice (some ⟨gx, 0, none⟩) (zs.length + 64) cx) = some g → w.heap.size ≤ g ∧ ¬ Gq4 w.heap.size v (.slice a4 (lv 0 S).length c4) (.slice a5 U.length c5) (.slice a6 C.length c6) U C g) := fun g hg => ⟨HXl.out g hg, (HOz.out g hg).2⟩
          have HCl : Hid (C.length = k) := HL.out.cl
          have hZl : Z.length ≤ 4194500 := by rw [HZ.out, HML.out]; omega
          have HFl : Hid ((flat S).length ≤ bd css (k + 1)) := by show _ ≤ _; omega
          have HAl : Hid (∀ s ∈ S, s.live = true) := HL.out.al
          go_wp2_with (at_builtin; refine wpList_append_apk rfl _ _ 49 rfl 0 32 iL (.slice none 0 0) 1 24 Try.underlying49 hiL hL0 hL1 hL2 rfl (by decide) (.slice a6 C.length c6) C.length (C.map Prod.fst) rfl HQa.out.cr ⟨w5.heap.size, 0, none⟩ 1 1 [(.slice (some ⟨gx, 0, none⟩) (zs.length + 64) cx)] rfl rfl (one_new4 _ _ _) (by simp [Value.oneCell']) (by have := HCl.out; unfold maxLen; omega) (by have := HCl.out; omega) (Nat.zero_le _) ?_; intro v9 w9 own9 ap9; have HQ9 : Hid (Lp w w9 css (k + 1) v S (.slice a4 (lv 0 S).length c4) (.slice a5 U.length c5) v9 U (C ++ [((.slice (some ⟨gx, 0, none⟩) (zs.length + 64) cx), Z)])) := ⟨HQa.out.came HOa.out HNa.out ap9 own9, HFl.out, HAl.out, by rw [List.length_append, HCl.out]; rfl, fun y hy => (List.mem_append.1 hy).elim (fun q => HL.out.cb y q) (fun q => by rw [List.mem_singleton.1 q]; exact hZl)⟩; obtain ⟨a9, c9, hv9⟩ := row_form own9; subst hv9; clear own9 ap9)
          go_roundg (gk - 1)
          case measure => have := HK.out; have := HLe.out; omega
          case rel => exact ⟨k + 1, v, S, U, C ++ [((.slice (some ⟨gx, 0, none⟩) (zs.length + 64) cx), Z)], by have := HK.out; have := HLe.out; omega, by go_num, HQ9⟩
        · have HPt : Hid (Calls Try.prog 15 #[.pointer (some ⟨w.heap.size, 0, none⟩), .slice (some ⟨gx, 0, none⟩) zs.length cx, .bool lb] w2 fun e w' => PutS w2 w.heap.size v S ⟨zs, lb, true⟩ e w') := arPut_any w.heap.size v _ S zs lb w2 HS2.out.ar HF2.out (fun g hg => ⟨fun q => (HOx2.out g hg).2 (.inl q), fun q => (HOx2.out g hg).2 (.inr (.inl q.symm))⟩) hs (by skip; omega)
          go_wp2_with fail
          refine HPt.out.mono ?_
          rintro e w3 ⟨rfl, v3, ar3, mv3⟩
          have HS3 : Hid (Sq w w3 w.heap.size v3 (S ++ [⟨zs, lb, true⟩]) S (.slice a4 (lv 0 S).length c4) (.slice a5 U.length c5) (.slice a6 C.length c6) U C) := HS2.out.arStep mv3 ar3
          have HX3 : Hid (Own Wl.heap.size w3 (.slice (some ⟨gx, 0, none⟩) (zs.length + 64) cx) (zs ++ m64)) := own_outMv HX2.out HOx2.out mv3
          have HO3 : Hid (Out w3 (Gq4 w.heap.size v3 (.slice a4 (lv 0 S).length c4) (.slice a5 U.length c5) (.slice a6 C.length c6) U C) (.slice (some ⟨gx, 0, none⟩) (zs.length + 64) cx)) := HOx2.out.sub mv3.size (arSub mv3)
          have HRc3 : Hid (Rd w3 (.slice ca zs.length cc) zs) := rd_outMv HRc2.out HOc2.out mv3
          have HOc3 : Hid (zs ≠ [] → Out w3 (Gq4 w.heap.size v3 (.slice a4 (lv 0 S).length c4) (.slice a5 U.length c5) (.slice a6 C.length c6) U C) (.slice ca zs.length cc)) := fun hz => (HOc2.out hz).sub mv3.size (arSub mv3)
          clear ar3 mv3
          go_wp2_with fail
          refine (kept_any _ _ _ zs _ HX3.out HRc3.out).mono ?_
          rintro e w4 ⟨rfl, b4⟩
          have HS4 : Hid (Sq w (w4.alloc (.cells #[.int .i64 ((flat S).length : Int)] 44)) w.heap.size v3 (S ++ [⟨zs, lb, true⟩]) S (.slice a4 (lv 0 S).length c4) (.slice a5 U.length c5) (.slice a6 C.length c6) U C) := (HS3.out.below b4).below (below_box _ _)
          have HX4 : Hid (Own 0 (w4.alloc (.cells #[.int .i64 ((flat S).length : Int)] 44)) (.slice (some ⟨gx, 0, none⟩) (zs.length + 64) cx) (zs ++ m64)) := ((HX3.out.below b4).below (below_box _ _)).mono (Nat.zero_le _)
          have HO4 : Hid (Out (w4.alloc (.cells #[.int .i64 ((flat S).length : Int)] 44)) (Gq4 w.heap.size v3 (.slice a4 (lv 0 S).length c4) (.slice a5 U.length c5) (.slice a6 C.length c6) U C) (.slice (some ⟨gx, 0, none⟩) (zs.length + 64) cx)) := (HO3.out.mono b4.size).mono (below_box _ _).size
          have HRc4 : Hid (Rd (w4.alloc (.cells #[.int .i64 ((flat S).length : Int)] 44)) (.slice ca zs.length cc) zs) := (HRc3.out.below b4).below (below_box _ _)
          have HOc4 : Hid (zs ≠ [] → Out (w4.alloc (.cells #[.int .i64 ((flat S).length : Int)] 44)) (Gq4 w.heap.size v3 (.slice a4 (lv 0 S).length c4) (.slice a5 U.length c5) (.slice a6 C.length c6) U C) (.slice ca zs.length cc)) := fun hz => ((HOc3.out hz).mono b4.size).mono (below_box _ _).size
          clear b4
          go_wp2_with (at_builtin; refine wpList_append_apk rfl _ _ 51 rfl 0 44 iR (.int .i64 0) 1 8 undRf hiR hR0 hR1 hR2 rfl (by decide) (.slice a4 (lv 0 S).length c4) (lv 0 S).length ((lv 0 S).map fun x => Value.int .i64 x.1) rfl HS4.out.pr ⟨w4.heap.size, 0, none⟩ 1 1 [.int .i64 ((flat S).length : Int)] rfl rfl (one_new4 _ _ _) (by simp [Value.oneCell']) (by unfold maxLen; omega) (by omega) (Nat.zero_le _) ?_; intro v5 w5 own5 ap5; have HA5 : Hid (w5.ownsRow 0 44 1 v5 ((lv 0 S).length + 1) (((lv 0 S).map fun x => Value.int .i64 x.1) ++ [.int .i64 ((flat S).length : Int)]) ∧ Ap (w4.alloc (.cells #[.int .i64 ((flat S).length : Int)] 44)) (.slice a4 (lv 0 S).length c4) w5 v5) := ⟨own5, ap5⟩; obtain ⟨a5', c5', hv5⟩ := row_form own5; subst hv5; clear own5 ap5)
          have HRc5 : Hid (Rd w5 (.slice ca zs.length cc) zs) := rd_outAp HRc4.out HOc4.out HA5.out.2 (fun g hg => .inr (.inr (.inl hg)))
          have HX5 : Hid (Own 0 w5 (.slice (some ⟨gx, 0, none⟩) (zs.length + 64) cx) (zs ++ m64)) := own_outAp HX4.out HO4.out HA5.out.2 (fun g hg => .inr (.inr (.inl hg)))
          have HU5 : Hid (w5.ownsRow 0 32 1 (.slice a5 U.length c5) U.length (U.map Prod.fst)) := HS4.out.uvAt HA5.out.2
          have hs45 : (w4.alloc (.cells #[.int .i64 ((flat S).length : Int)] 44)).heap.size ≤ w5.heap.size := HA5.out.2.grown.size
          refine (copied4_any (.slice ca zs.length cc) zs w5 HRc5.out).mono ?_
          rintro e w6 ⟨y, rfl, oy, b6⟩
          obtain ⟨ay, cy, hy⟩ := own_form oy
          skip
          subst hy
          have HB6 : Hid (Below w5.heap.size w5 (w6.alloc (.cells #[.slice ay zs.length cy] 32))) := Below.step b6 (below_box _ _)
          have HY6 : Hid (Own w5.heap.size (w6.alloc (.cells #[.slice ay zs.length cy] 32)) (.slice ay zs.length cy) zs) := oy.below (below_box _ _)
          have HU6 : Hid ((w6.alloc (.cells #[.slice ay zs.length cy] 32)).ownsRow 0 32 1 (.slice a5 U.length c5) U.length (U.map Prod.fst)) := row_kept4 HU5.out fun g hg => HB6.out.block g (World.ownsRow.lt HU5.out g hg).2
          have HX6 : Hid (Own 0 (w6.alloc (.cells #[.slice ay zs.length cy] 32)) (.slice (some ⟨gx, 0, none⟩) (zs.length + 64) cx) (zs ++ m64)) := HX5.out.below HB6.out
          have HUl : Hid (U.length = (lv 0 S).length) := by show _ = _; have := congrArg List.length HS4.out.ue; simpa using this
          clear oy b6
          go_wp2_with (at_builtin; refine wpList_append_apk rfl _ _ 49 rfl 0 32 iL (.slice none 0 0) 1 24 Try.underlying49 hiL hL0 hL1 hL2 rfl (by decide) (.slice a5 U.length c5) U.length (U.map Prod.fst) rfl HU6.out ⟨w6.heap.size, 0, none⟩ 1 1 [.slice ay zs.length cy] rfl rfl (one_new4 _ _ _) (by simp [Value.oneCell']) (by have := HUl.out; unfold maxLen; omega) (by have := HUl.out; omega) (Nat.zero_le _) ?_; intro v7 w7 own7 ap7; have HS7 : Hid (Sq w w7 w.heap.size v3 (S ++ [⟨zs, lb, true⟩]) (S ++ [⟨zs, lb, true⟩]) (.slice a5' ((lv 0 S).length + 1) c5') v7 (.slice a6 C.length c6) (U ++ [(.slice ay zs.length cy, zs)]) C) := HS4.out.noted (s := ⟨zs, lb, true⟩) rfl HA5.out.2 HA5.out.1 HB6.out HY6.out ap7 own7; have HO7 : Hid (Out w7 (Gq4 w.heap.size v3 (.slice a5' ((lv 0 S).length + 1) c5') v7 (.slice a6 C.length c6) (U ++ [(.slice ay zs.length cy, zs)]) C) (.slice (some ⟨gx, 0, none⟩) (zs.length + 64) cx)) := HO4.out.sub (Nat.le_trans hs45 (Nat.le_trans HB6.out.size ap7.grown.size)) (notedSub HA5.out.2 HB6.out HY6.out ap7); have HX7 : Hid (Own 0 w7 (.slice (some ⟨gx, 0, none⟩) (zs.length + 64) cx) (zs ++ m64)) := own_outAp HX6.out ((HO4.out.mono hs45).mono HB6.out.size) ap7 (fun g hg => .inr (.inr (.inr (.inl hg)))); obtain ⟨a7, c7, hv7⟩ := row_form own7; subst hv7; clear own7 ap7)
          refine (over_any 0 _ (zs ++ m64) w7 HX7.out (by rw [HML.out]; omega)).mono ?_
          rintro e w8 ⟨⟨v8, rfl⟩, ⟨Z, hZ, oz⟩, g8⟩
          have HZ : Hid (Z.length = (zs ++ m64).length) := hZ
          have OZ : Hid (Own 0 w8 (.slice (some ⟨gx, 0, none⟩) (zs.length + 64) cx) Z) := oz
          have HS8 : Hid (Sq w w8 w.heap.size v3 (S ++ [⟨zs, lb, true⟩]) (S ++ [⟨zs, lb, true⟩]) (.slice a5' ((lv 0 S).length + 1) c5') (.slice a7 (U.length + 1) c7) (.slice a6 C.length c6) (U ++ [(.slice ay zs.length cy, zs)]) C) := HS7.out.other g8 (fun g hg => ⟨HXl.out g hg, (HO7.out g hg).2⟩)
          have HOz : Hid (Out w8 (Gq4 w.heap.size v3 (.slice a5' ((lv 0 S).length + 1) c5') (.slice a7 (U.length + 1) c7) (.slice a6 C.length c6) (U ++ [(.slice ay zs.length cy, zs)]) C) (.slice (some ⟨gx, 0, none⟩) (zs.length + 64) cx)) := HO7.out.mono g8.size
          clear hZ oz g8
          have HQa : Hid (Sq w (w8.alloc (.cells #[(.slice (some ⟨gx, 0, none⟩) (zs.length + 64) cx)] 32)) w.heap.size v3 (S ++ [⟨zs, lb, true⟩]) (S ++ [⟨zs, lb, true⟩]) (.slice a5' ((lv 0 S).length + 1) c5') (.slice a7 (U.length + 1) c7) (.slice a6 C.length c6) (U ++ [(.slice ay zs.length cy, zs)]) C) := HS8.out.below (below_box _ _)
          have HOa : Hid (Own 0 (w8.alloc (.cells #[(.slice (some ⟨gx, 0, none⟩) (zs.length + 64) cx)] 32)) (.slice (some ⟨gx, 0, none⟩) (zs.length + 64) cx) Z) := OZ.out.below (below_box _ _)
          have HNa : Hid (∀ g, Value.ownBlock (.slice (some ⟨gx, 0, none⟩) (zs.length + 64) cx) = some g → w.heap.size ≤ g ∧ ¬ Gq4 w.heap.size v3 (.slice a5' ((lv 0 S).length + 1) c5') (.slice a7 (U.length + 1) c7) (.slice a6 C.length c6) (U ++ [(.slice ay zs.length cy, zs)]) C g) := fun g hg => ⟨HXl.out g hg, (HOz.out g hg).2⟩
          have HCl : Hid (C.length = k) := HL.out.cl
          have hZl : Z.length ≤ 4194500 := by rw [HZ.out, HML.out]; omega
          have HFl : Hid ((flat (S ++ [⟨zs, lb, true⟩])).length ≤ bd css (k + 1)) := by show _ ≤ _; rw [flat_one]; simp only [List.length_append, List.length_cons, List.length_nil]; skip; omega
          have HAl : Hid (∀ s ∈ S ++ [(⟨zs, lb, true⟩ : Seg)], s.live = true) := fun s hs => (List.mem_append.1 hs).elim (HL.out.al s) (fun q => by rw [List.mem_singleton.1 q])
          go_wp2_with (at_builtin; refine wpList_append_apk rfl _ _ 49 rfl 0 32 iL (.slice none 0 0) 1 24 Try.underlying49 hiL hL0 hL1 hL2 rfl (by decide) (.slice a6 C.length c6) C.length (C.map Prod.fst) rfl HQa.out.cr ⟨w8.heap.size, 0, none⟩ 1 1 [(.slice (some ⟨gx, 0, none⟩) (zs.length + 64) cx)] rfl rfl (one_new4 _ _ _) (by simp [Value.oneCell']) (by have := HCl.out; unfold maxLen; omega) (by have := HCl.out; omega) (Nat.zero_le _) ?_; intro v9 w9 own9 ap9; have HQ9 : Hid (Lp w w9 css (k + 1) v3 (S ++ [⟨zs, lb, true⟩]) (.slice a5' ((lv 0 S).length + 1) c5') (.slice a7 (U.length + 1) c7) v9 (U ++ [(.slice ay zs.length cy, zs)]) (C ++ [((.slice (some ⟨gx, 0, none⟩) (zs.length + 64) cx), Z)])) := ⟨HQa.out.came HOa.out HNa.out ap9 own9, HFl.out, HAl.out, by rw [List.length_append, HCl.out]; rfl, fun y hy => (List.mem_append.1 hy).elim (fun q => HL.out.cb y q) (fun q => by rw [List.mem_singleton.1 q]; exact hZl)⟩; obtain ⟨a9, c9, hv9⟩ := row_form own9; subst hv9; clear own9 ap9)
          go_roundg (gk - 1)
          case measure => have := HK.out; have := HLe.out; omega
          case rel => exact ⟨k + 1, v3, (S ++ [⟨zs, lb, true⟩]), (U ++ [(.slice ay zs.length cy, zs)]), C ++ [((.slice (some ⟨gx, 0, none⟩) (zs.length + 64) cx), Z)], by have := HK.out; have := HLe.out; omega, by go_num, HQ9⟩
      case neg =>
        obtain rfl : k = css.length := by omega
        obtain ⟨zs, hzs⟩ : ∃ zs : List Int, zs = [1, -2, 3] := ⟨_, rfl⟩
        have HRc : Hid (Rd (wr.alloc (.cells #[.int .i64 1, .int .i64 (-2), .int .i64 3] 3)) (.slice (some ⟨wr.heap.size, 0, none⟩) 3 3) zs) := by rw [hzs]; exact rd_three wr 1 (-2) 3
        have HOc : Hid (zs ≠ [] → Out (wr.alloc (.cells #[.int .i64 1, .int .i64 (-2), .int .i64 3] 3)) (Gq4 w.heap.size v u4 u5 u6 U C) (.slice (some ⟨wr.heap.size, 0, none⟩) 3 3)) := fun hz g hg => by
          simp [Value.ownBlock] at hg
          subst hg
          exact ⟨by rw [World.size_alloc]; omega, fun q => by have := (HG.out _ q).2; omega⟩
        have HBd : Hid (bd css (css.length + 1) = bd css css.length + 1 + zs.length) := by rw [hzs]; exact bd_last css
        have hz8 := HRc.out.len
        have HZ3 : Hid (zs.length = 3) := by show _ = _; rw [hzs]; rfl
        clear hzs
        go_wp2_with fail
        generalize (wr.alloc (.cells #[.int .i64 1, .int .i64 (-2), .int .i64 3] 3)) = Wl at *
        refine (lent_any (.slice (some ⟨wr.heap.size, 0, none⟩) 3 3) zs Wl HRc.out).mono ?_
        rintro e w2 ⟨x, rfl, ox, b2⟩
        obtain ⟨ax, cx, hx⟩ := own_form ox
        have hml : (zs ++ m64).length = 3 + 64 := by
          have h6 : m64.length = 64 := rfl
          have h7 : (zs ++ m64).length = zs.length + m64.length := List.length_append
          have h8 := HZ3.out
          omega
        rw [hml] at hx
        subst hx
        obtain ⟨gx, hax, hcx⟩ := own_pos ox (by omega)
        subst hax
        rw [hml] at hcx
        have HML : Hid ((zs ++ m64).length = 3 + 64) := hml
        have HX2 : Hid (Own Wl.heap.size w2 (.slice (some ⟨gx, 0, none⟩) (3 + 64) cx) (zs ++ m64)) := ox
        have HS2 : Hid (Sq w w2 w.heap.size v S S u4 u5 u6 U C) := HS1.out.below b2
        have HRc2 : Hid (Rd w2 (.slice (some ⟨wr.heap.size, 0, none⟩) 3 3) zs) := HRc.out.below b2
        have HOc2 : Hid (zs ≠ [] → Out w2 (Gq4 w.heap.size v u4 u5 u6 U C) (.slice (some ⟨wr.heap.size, 0, none⟩) 3 3)) := fun hz => (HOc.out hz).mono b2.size
        have hwl : wr.heap.size ≤ Wl.heap.size := HB1.out.size
        have HOx2 : Hid (Out w2 (Gq4 w.heap.size v u4 u5 u6 U C) (.slice (some ⟨gx, 0, none⟩) (3 + 64) cx)) := Out.of_new (B := Wl.heap.size) (fun k hk => Nat.lt_of_lt_of_le (HG.out k hk).2 hwl) (fun g hg => World.ownsRow.lt ox g hg)
        have HXl : Hid (∀ g, Value.ownBlock (.slice (some ⟨gx, 0, none⟩) (3 + 64) cx) = some g → w.heap.size ≤ g) := fun g hg => by have := (World.ownsRow.lt ox g hg).1; omega
        have HF2 : Hid (Rd w2 (.slice (some ⟨gx, 0, none⟩) 3 cx) zs) := by
          have h5 := front4 (a := some ⟨gx, 0, none⟩) (cap := cx) (X := zs ++ m64) (zs := zs) (by rw [hml]; exact ox) rfl hz8
          rw [HZ3.out] at h5
          exact h5
        clear ox b2 hml
        obtain ⟨lb, hlb⟩ : ∃ lb, (((css.length : Nat) : Int) % 2 == 0) = lb := ⟨_, rfl⟩
        obtain ⟨a6, c6, h6⟩ := row_form HS2.out.cr
        subst h6
        obtain ⟨a5, c5, h5'⟩ := row_form HS2.out.ur
        subst h5'
        obtain ⟨a4, c4, h4'⟩ := row_form HS2.out.pr
        subst h4'
        have hlvS := lv_len_le S 0
        have hfS := HL.out.fl
        have hbdl := bd_le css (css.length + 1)
        have hbd : bd css (css.length + 1) = bd css css.length + 1 + 3 := by have := HBd.out; have h8 := HZ3.out; omega
        have hNt := HN.out
        have hLn := HLn.out
        cases hs : zs.all fmd
        · have HPt : Hid (Calls Try.prog 15 #[.pointer (some ⟨w.heap.size, 0, none⟩), .slice (some ⟨gx, 0, none⟩) 3 cx, .bool lb] w2 fun e w' => e = .returned (.tuple #[.int .i64 0, .int .i64 1]) ∧ w' = w2) := put_bad _ _ zs lb w2 HF2.out hs
          go_wp2_with fail
          refine HPt.out.mono ?_
          rintro e w3 ⟨rfl, ew⟩
          have ew := ew.symm
          subst ew
          --MARK1
          go_wp2_with fail
          refine (kept_any _ _ _ zs _ HX2.out HRc2.out).mono ?_
          rintro e w4 ⟨rfl, b4⟩
          have HS4 : Hid (Sq w w4 w.heap.size v S S (.slice a4 (lv 0 S).length c4) (.slice a5 U.length c5) (.slice a6 C.length c6) U C) := HS2.out.below b4
          have HX4 : Hid (Own 0 w4 (.slice (some ⟨gx, 0, none⟩) (3 + 64) cx) (zs ++ m64)) := (HX2.out.below b4).mono (Nat.zero_le _)
          have HO4 : Hid (Out w4 (Gq4 w.heap.size v (.slice a4 (lv 0 S).length c4) (.slice a5 U.length c5) (.slice a6 C.length c6) U C) (.slice (some ⟨gx, 0, none⟩) (3 + 64) cx)) := HOx2.out.mono b4.size
          clear b4
          go_wp2_with fail
          refine (over_any 0 _ (zs ++ m64) w4 HX4.out (by rw [HML.out]; omega)).mono ?_
          rintro e w5 ⟨⟨v5, rfl⟩, ⟨Z, hZ, oz⟩, g5⟩
          have HZ : Hid (Z.length = (zs ++ m64).length) := hZ
          have OZ : Hid (Own 0 w5 (.slice (some ⟨gx, 0, none⟩) (3 + 64) cx) Z) := oz
          have HS5 : Hid (Sq w w5 w.heap.size v S S (.slice a4 (lv 0 S).length c4) (.slice a5 U.length c5) (.slice a6 C.length c6) U C) := HS4.out.other g5 (fun g hg => ⟨HXl.out g hg, (HO4.out g hg).2⟩)
          have HOz : Hid (Out w5 (Gq4 w.heap.size v (.slice a4 (lv 0 S).length c4) (.slice a5 U.length c5) (.slice a6 C.length c6) U C) (.slice (some ⟨gx, 0, none⟩) (3 + 64) cx)) := HO4.out.mono g5.size
          clear hZ oz g5
          have HQa : Hid (Sq w (w5.alloc (.cells #[(.slice (some ⟨gx, 0, none⟩) (3 + 64) cx)] 32)) w.heap.size v S S (.slice a4 (lv 0 S).length c4) (.slice a5 U.length c5) (.slice a6 C.length c6) U C) := HS5.out.below (below_box _ _)
          have HOa : Hid (Own 0 (w5.alloc (.cells #[(.slice (some ⟨gx, 0, none⟩) (3 + 64) cx)] 32)) (.slice (some ⟨gx, 0, none⟩) (3 + 64) cx) Z) := OZ.out.below (below_box _ _)
          have HNa : Hid (∀ g, Value.ownBlock (.slice (some ⟨gx, 0, none⟩) (3 + 64) cx) = some g → w.heap.size ≤ g ∧ ¬ Gq4 w.heap.size v (.slice a4 (lv 0 S).length c4) (.slice a5 U.length c5) (.slice a6 C.length c6) U C g) := fun g hg => ⟨HXl.out g hg, (HOz.out g hg).2⟩
          have HCl : Hid (C.length = css.length) := HL.out.cl
          have hZl : Z.length ≤ 4194500 := by rw [HZ.out, HML.out]; omega
          have HFl : Hid ((flat S).length ≤ bd css (css.length + 1)) := by show _ ≤ _; omega
          have HAl : Hid (∀ s ∈ S, s.live = true) := HL.out.al
          go_wp2_with (at_builtin; refine wpList_append_apk rfl _ _ 49 rfl 0 32 iL (.slice none 0 0) 1 24 Try.underlying49 hiL hL0 hL1 hL2 rfl (by decide) (.slice a6 C.length c6) C.length (C.map Prod.fst) rfl HQa.out.cr ⟨w5.heap.size, 0, none⟩ 1 1 [(.slice (some ⟨gx, 0, none⟩) (3 + 64) cx)] rfl rfl (one_new4 _ _ _) (by simp [Value.oneCell']) (by have := HCl.out; unfold maxLen; omega) (by have := HCl.out; omega) (Nat.zero_le _) ?_; intro v9 w9 own9 ap9; have HQ9 : Hid (Lp w w9 css (css.length + 1) v S (.slice a4 (lv 0 S).length c4) (.slice a5 U.length c5) v9 U (C ++ [((.slice (some ⟨gx, 0, none⟩) (3 + 64) cx), Z)])) := ⟨HQa.out.came HOa.out HNa.out ap9 own9, HFl.out, HAl.out, by rw [List.length_append, HCl.out]; rfl, fun y hy => (List.mem_append.1 hy).elim (fun q => HL.out.cb y q) (fun q => by rw [List.mem_singleton.1 q]; exact hZl)⟩; obtain ⟨a9, c9, hv9⟩ := row_form own9; subst hv9; clear own9 ap9)
          go_roundg (gk - 1)
          case measure => have := HK.out; have := HLe.out; omega
          case rel => exact ⟨css.length + 1, v, S, U, C ++ [((.slice (some ⟨gx, 0, none⟩) (3 + 64) cx), Z)], by have := HK.out; have := HLe.out; omega, by go_num, HQ9⟩
        · have HPt : Hid (Calls Try.prog 15 #[.pointer (some ⟨w.heap.size, 0, none⟩), .slice (some ⟨gx, 0, none⟩) 3 cx, .bool lb] w2 fun e w' => PutS w2 w.heap.size v S ⟨zs, lb, true⟩ e w') := arPut_any w.heap.size v _ S zs lb w2 HS2.out.ar HF2.out (fun g hg => ⟨fun q => (HOx2.out g hg).2 (.inl q), fun q => (HOx2.out g hg).2 (.inr (.inl q.symm))⟩) hs (by have h8 := HZ3.out; omega)
          go_wp2_with fail
          refine HPt.out.mono ?_
          rintro e w3 ⟨rfl, v3, ar3, mv3⟩
          have HS3 : Hid (Sq w w3 w.heap.size v3 (S ++ [⟨zs, lb, true⟩]) S (.slice a4 (lv 0 S).length c4) (.slice a5 U.length c5) (.slice a6 C.length c6) U C) := HS2.out.arStep mv3 ar3
          have HX3 : Hid (Own Wl.heap.size w3 (.slice (some ⟨gx, 0, none⟩) (3 + 64) cx) (zs ++ m64)) := own_outMv HX2.out HOx2.out mv3
          have HO3 : Hid (Out w3 (Gq4 w.heap.size v3 (.slice a4 (lv 0 S).length c4) (.slice a5 U.length c5) (.slice a6 C.length c6) U C) (.slice (some ⟨gx, 0, none⟩) (3 + 64) cx)) := HOx2.out.sub mv3.size (arSub mv3)
          have HRc3 : Hid (Rd w3 (.slice (some ⟨wr.heap.size, 0, none⟩) 3 3) zs) := rd_outMv HRc2.out HOc2.out mv3
          have HOc3 : Hid (zs ≠ [] → Out w3 (Gq4 w.heap.size v3 (.slice a4 (lv 0 S).length c4) (.slice a5 U.length c5) (.slice a6 C.length c6) U C) (.slice (some ⟨wr.heap.size, 0, none⟩) 3 3)) := fun hz => (HOc2.out hz).sub mv3.size (arSub mv3)
          clear ar3 mv3
          go_wp2_with fail
          refine (kept_any _ _ _ zs _ HX3.out HRc3.out).mono ?_
          rintro e w4 ⟨rfl, b4⟩
          have HS4 : Hid (Sq w (w4.alloc (.cells #[.int .i64 ((flat S).length : Int)] 44)) w.heap.size v3 (S ++ [⟨zs, lb, true⟩]) S (.slice a4 (lv 0 S).length c4) (.slice a5 U.length c5) (.slice a6 C.length c6) U C) := (HS3.out.below b4).below (below_box _ _)
          have HX4 : Hid (Own 0 (w4.alloc (.cells #[.int .i64 ((flat S).length : Int)] 44)) (.slice (some ⟨gx, 0, none⟩) (3 + 64) cx) (zs ++ m64)) := ((HX3.out.below b4).below (below_box _ _)).mono (Nat.zero_le _)
          have HO4 : Hid (Out (w4.alloc (.cells #[.int .i64 ((flat S).length : Int)] 44)) (Gq4 w.heap.size v3 (.slice a4 (lv 0 S).length c4) (.slice a5 U.length c5) (.slice a6 C.length c6) U C) (.slice (some ⟨gx, 0, none⟩) (3 + 64) cx)) := (HO3.out.mono b4.size).mono (below_box _ _).size
          have HRc4 : Hid (Rd (w4.alloc (.cells #[.int .i64 ((flat S).length : Int)] 44)) (.slice (some ⟨wr.heap.size, 0, none⟩) 3 3) zs) := (HRc3.out.below b4).below (below_box _ _)
          have HOc4 : Hid (zs ≠ [] → Out (w4.alloc (.cells #[.int .i64 ((flat S).length : Int)] 44)) (Gq4 w.heap.size v3 (.slice a4 (lv 0 S).length c4) (.slice a5 U.length c5) (.slice a6 C.length c6) U C) (.slice (some ⟨wr.heap.size, 0, none⟩) 3 3)) := fun hz => ((HOc3.out hz).mono b4.size).mono (below_box _ _).size
          clear b4
          go_wp2_with (at_builtin; refine wpList_append_apk rfl _ _ 51 rfl 0 44 iR (.int .i64 0) 1 8 undRf hiR hR0 hR1 hR2 rfl (by decide) (.slice a4 (lv 0 S).length c4) (lv 0 S).length ((lv 0 S).map fun x => Value.int .i64 x.1) rfl HS4.out.pr ⟨w4.heap.size, 0, none⟩ 1 1 [.int .i64 ((flat S).length : Int)] rfl rfl (one_new4 _ _ _) (by simp [Value.oneCell']) (by unfold maxLen; omega) (by omega) (Nat.zero_le _) ?_; intro v5 w5 own5 ap5; have HA5 : Hid (w5.ownsRow 0 44 1 v5 ((lv 0 S).length + 1) (((lv 0 S).map fun x => Value.int .i64 x.1) ++ [.int .i64 ((flat S).length : Int)]) ∧ Ap (w4.alloc (.cells #[.int .i64 ((flat S).length : Int)] 44)) (.slice a4 (lv 0 S).length c4) w5 v5) := ⟨own5, ap5⟩; obtain ⟨a5', c5', hv5⟩ := row_form own5; subst hv5; clear own5 ap5)
          have HRc5 : Hid (Rd w5 (.slice (some ⟨wr.heap.size, 0, none⟩) 3 3) zs) := rd_outAp HRc4.out HOc4.out HA5.out.2 (fun g hg => .inr (.inr (.inl hg)))
          have HX5 : Hid (Own 0 w5 (.slice (some ⟨gx, 0, none⟩) (3 + 64) cx) (zs ++ m64)) := own_outAp HX4.out HO4.out HA5.out.2 (fun g hg => .inr (.inr (.inl hg)))
          have HU5 : Hid (w5.ownsRow 0 32 1 (.slice a5 U.length c5) U.length (U.map Prod.fst)) := HS4.out.uvAt HA5.out.2
          have hs45 : (w4.alloc (.cells #[.int .i64 ((flat S).length : Int)] 44)).heap.size ≤ w5.heap.size := HA5.out.2.grown.size
          refine (copied4_any (.slice (some ⟨wr.heap.size, 0, none⟩) 3 3) zs w5 HRc5.out).mono ?_
          rintro e w6 ⟨y, rfl, oy, b6⟩
          obtain ⟨ay, cy, hy⟩ := own_form oy
          rw [HZ3.out] at hy
          subst hy
          have HB6 : Hid (Below w5.heap.size w5 (w6.alloc (.cells #[.slice ay 3 cy] 32))) := Below.step b6 (below_box _ _)
          have HY6 : Hid (Own w5.heap.size (w6.alloc (.cells #[.slice ay 3 cy] 32)) (.slice ay 3 cy) zs) := oy.below (below_box _ _)
          have HU6 : Hid ((w6.alloc (.cells #[.slice ay 3 cy] 32)).ownsRow 0 32 1 (.slice a5 U.length c5) U.length (U.map Prod.fst)) := row_kept4 HU5.out fun g hg => HB6.out.block g (World.ownsRow.lt HU5.out g hg).2
          have HX6 : Hid (Own 0 (w6.alloc (.cells #[.slice ay 3 cy] 32)) (.slice (some ⟨gx, 0, none⟩) (3 + 64) cx) (zs ++ m64)) := HX5.out.below HB6.out
          have HUl : Hid (U.length = (lv 0 S).length) := by show _ = _; have := congrArg List.length HS4.out.ue; simpa using this
          clear oy b6
          go_wp2_with (at_builtin; refine wpList_append_apk rfl _ _ 49 rfl 0 32 iL (.slice none 0 0) 1 24 Try.underlying49 hiL hL0 hL1 hL2 rfl (by decide) (.slice a5 U.length c5) U.length (U.map Prod.fst) rfl HU6.out ⟨w6.heap.size, 0, none⟩ 1 1 [.slice ay 3 cy] rfl rfl (one_new4 _ _ _) (by simp [Value.oneCell']) (by have := HUl.out; unfold maxLen; omega) (by have := HUl.out; omega) (Nat.zero_le _) ?_; intro v7 w7 own7 ap7; have HS7 : Hid (Sq w w7 w.heap.size v3 (S ++ [⟨zs, lb, true⟩]) (S ++ [⟨zs, lb, true⟩]) (.slice a5' ((lv 0 S).length + 1) c5') v7 (.slice a6 C.length c6) (U ++ [(.slice ay 3 cy, zs)]) C) := HS4.out.noted (s := ⟨zs, lb, true⟩) rfl HA5.out.2 HA5.out.1 HB6.out HY6.out ap7 own7; have HO7 : Hid (Out w7 (Gq4 w.heap.size v3 (.slice a5' ((lv 0 S).length + 1) c5') v7 (.slice a6 C.length c6) (U ++ [(.slice ay 3 cy, zs)]) C) (.slice (some ⟨gx, 0, none⟩) (3 + 64) cx)) := HO4.out.sub (Nat.le_trans hs45 (Nat.le_trans HB6.out.size ap7.grown.size)) (notedSub HA5.out.2 HB6.out HY6.out ap7); have HX7 : Hid (Own 0 w7 (.slice (some ⟨gx, 0, none⟩) (3 + 64) cx) (zs ++ m64)) := own_outAp HX6.out ((HO4.out.mono hs45).mono HB6.out.size) ap7 (fun g hg => .inr (.inr (.inr (.inl hg)))); obtain ⟨a7, c7, hv7⟩ := row_form own7; subst hv7; clear own7 ap7)
          refine (over_any 0 _ (zs ++ m64) w7 HX7.out (by rw [HML.out]; omega)).mono ?_
          rintro e w8 ⟨⟨v8, rfl⟩, ⟨Z, hZ, oz⟩, g8⟩
          have HZ : Hid (Z.length = (zs ++ m64).length) := hZ
          have OZ : Hid (Own 0 w8 (.slice (some ⟨gx, 0, none⟩) (3 + 64) cx) Z) := oz
          have HS8 : Hid (Sq w w8 w.heap.size v3 (S ++ [⟨zs, lb, true⟩]) (S ++ [⟨zs, lb, true⟩]) (.slice a5' ((lv 0 S).length + 1) c5') (.slice a7 (U.length + 1) c7) (.slice a6 C.length c6) (U ++ [(.slice ay 3 cy, zs)]) C) := HS7.out.other g8 (fun g hg => ⟨HXl.out g hg, (HO7.out g hg).2⟩)
          have HOz : Hid (Out w8 (Gq4 w.heap.size v3 (.slice a5' ((lv 0 S).length + 1) c5') (.slice a7 (U.length + 1) c7) (.slice a6 C.length c6) (U ++ [(.slice ay 3 cy, zs)]) C) (.slice (some ⟨gx, 0, none⟩) (3 + 64) cx)) := HO7.out.mono g8.size
          clear hZ oz g8
          have HQa : Hid (Sq w (w8.alloc (.cells #[(.slice (some ⟨gx, 0, none⟩) (3 + 64) cx)] 32)) w.heap.size v3 (S ++ [⟨zs, lb, true⟩]) (S ++ [⟨zs, lb, true⟩]) (.slice a5' ((lv 0 S).length + 1) c5') (.slice a7 (U.length + 1) c7) (.slice a6 C.length c6) (U ++ [(.slice ay 3 cy, zs)]) C) := HS8.out.below (below_box _ _)
          have HOa : Hid (Own 0 (w8.alloc (.cells #[(.slice (some ⟨gx, 0, none⟩) (3 + 64) cx)] 32)) (.slice (some ⟨gx, 0, none⟩) (3 + 64) cx) Z) := OZ.out.below (below_box _ _)
          have HNa : Hid (∀ g, Value.ownBlock (.slice (some ⟨gx, 0, none⟩) (3 + 64) cx) = some g → w.heap.size ≤ g ∧ ¬ Gq4 w.heap.size v3 (.slice a5' ((lv 0 S).length + 1) c5') (.slice a7 (U.length + 1) c7) (.slice a6 C.length c6) (U ++ [(.slice ay 3 cy, zs)]) C g) := fun g hg => ⟨HXl.out g hg, (HOz.out g hg).2⟩
          have HCl : Hid (C.length = css.length) := HL.out.cl
          have hZl : Z.length ≤ 4194500 := by rw [HZ.out, HML.out]; omega
          have HFl : Hid ((flat (S ++ [⟨zs, lb, true⟩])).length ≤ bd css (css.length + 1)) := by show _ ≤ _; rw [flat_one]; simp only [List.length_append, List.length_cons, List.length_nil]; have h8 := HZ3.out; omega
          have HAl : Hid (∀ s ∈ S ++ [(⟨zs, lb, true⟩ : Seg)], s.live = true) := fun s hs => (List.mem_append.1 hs).elim (HL.out.al s) (fun q => by rw [List.mem_singleton.1 q])
          go_wp2_with (at_builtin; refine wpList_append_apk rfl _ _ 49 rfl 0 32 iL (.slice none 0 0) 1 24 Try.underlying49 hiL hL0 hL1 hL2 rfl (by decide) (.slice a6 C.length c6) C.length (C.map Prod.fst) rfl HQa.out.cr ⟨w8.heap.size, 0, none⟩ 1 1 [(.slice (some ⟨gx, 0, none⟩) (3 + 64) cx)] rfl rfl (one_new4 _ _ _) (by simp [Value.oneCell']) (by have := HCl.out; unfold maxLen; omega) (by have := HCl.out; omega) (Nat.zero_le _) ?_; intro v9 w9 own9 ap9; have HQ9 : Hid (Lp w w9 css (css.length + 1) v3 (S ++ [⟨zs, lb, true⟩]) (.slice a5' ((lv 0 S).length + 1) c5') (.slice a7 (U.length + 1) c7) v9 (U ++ [(.slice ay 3 cy, zs)]) (C ++ [((.slice (some ⟨gx, 0, none⟩) (3 + 64) cx), Z)])) := ⟨HQa.out.came HOa.out HNa.out ap9 own9, HFl.out, HAl.out, by rw [List.length_append, HCl.out]; rfl, fun y hy => (List.mem_append.1 hy).elim (fun q => HL.out.cb y q) (fun q => by rw [List.mem_singleton.1 q]; exact hZl)⟩; obtain ⟨a9, c9, hv9⟩ := row_form own9; subst hv9; clear own9 ap9)
          go_roundg (gk - 1)
          case measure => have := HK.out; have := HLe.out; omega
          case rel => exact ⟨css.length + 1, v3, (S ++ [⟨zs, lb, true⟩]), (U ++ [(.slice ay 3 cy, zs)]), C ++ [((.slice (some ⟨gx, 0, none⟩) (3 + 64) cx), Z)], by have := HK.out; have := HLe.out; omega, by go_num, HQ9⟩
    · obtain rfl : k = css.length + 1 := by have := HK.out; omega
      obtain ⟨a6, c6, h6⟩ := row_form HL.out.sq.cr
      obtain ⟨a5, c5, h5⟩ := row_form HL.out.sq.ur
      obtain ⟨a4, c4, h4⟩ := row_form HL.out.sq.pr
      subst h6; subst h5; subst h4
      have HG : Hid (∀ i, Gq4 w.heap.size v (.slice a4 (lv 0 S).length c4) (.slice a5 U.length c5) (.slice a6 C.length c6) U C i → w.heap.size ≤ i ∧ i < wr.heap.size) := fun i hi => ⟨HL.out.sq.lo i hi, HL.out.sq.lt i hi⟩
      have hlvS := lv_len_le S 0
      have hfS := HL.out.fl
      have hbdl := bd_le css (css.length + 1)
      have hNt := HN.out
      have hsw : w.heap.size ≤ wr.heap.size := HL.out.sq.bel.size
      have HP0 : Hid (Sq w (wr.alloc (.cells #[.slice none 0 0] 49)) w.heap.size v S S (.slice a4 (lv 0 S).length c4) (.slice a5 U.length c5) (.slice a6 C.length c6) U C ∧ Al4 w (wr.alloc (.cells #[.slice none 0 0] 49)) (fun k => Gq4 w.heap.size v (.slice a4 (lv 0 S).length c4) (.slice a5 U.length c5) (.slice a6 C.length c6) U C k ∨ False) wr.heap.size (.slice none 0 0) []) :=
        ⟨HL.out.sq.below (below_box _ _), World.alloc_heap_new _ _, World.ownsRow_nil _ _ _ _, fun x hx => (absurd hx List.not_mem_nil), ⟨hsw, fun q => (by rcases q with q | q; have := (HG.out _ q).2; omega; exact q)⟩, fun g hg => (by cases hg), fun x hx => (absurd hx List.not_mem_nil), List.Pairwise.nil⟩
      have HPh : Hid (Ph w (wr.alloc (.cells #[.slice none 0 0] 49)) (fun _ => False) wr.heap.size v S (.slice a4 (lv 0 S).length c4) (.slice a5 U.length c5) (.slice a6 C.length c6) U C (.slice none 0 0) [] (dbl ((lv 0 S).take 0))) := ⟨HP0.out.1, HP0.out.2, rfl, fun k hk => hk.elim⟩
      have HUe : Hid (U.map Prod.snd = (lv 0 S).map (fun x => x.2.1) ∧ C.length = css.length + 1 ∧ ∀ x ∈ C, x.2.length ≤ 4194500) := ⟨HL.out.sq.ue, HL.out.cl, HL.out.cb⟩
      clear hlt HP0 HL
      go_wp2_with fail
      generalize hDw : wr.heap.size = D at *
      generalize wr.alloc (.cells #[.slice none 0 0] 49) = W2 at *
      go_loopg [13, 14, 15, 16, 17] (lv 0 S).length (fun q i' p1 p2 p3 p4 wz => ∃ (j : Nat) (av : Value) (A : List Ls), j + q = (lv 0 S).length ∧ i' = .int .i64 j ∧ Hid (Ph w wz (fun _ => False) D v S (.slice a4 (lv 0 S).length c4) (.slice a5 U.length c5) (.slice a6 C.length c6) U C av A (dbl ((lv 0 S).take j))))
      case atStart => exact ⟨0, _, _, by omega, rfl, HPh⟩
      case round =>
        obtain ⟨j, av, A, hj, rfl, HA⟩ := hrel
        obtain ⟨gj, hgj⟩ : ∃ gj, gj = gk := ⟨_, rfl⟩
        have HJ : Hid (j + gj = (lv 0 S).length) := by rw [hgj]; exact hj
        clear hj
        by_cases hjl : j < (lv 0 S).length
        · have HJL : Hid (j < (lv 0 S).length) := hjl
          obtain ⟨g4, k4, e4, -, p4⟩ := row1_cell HA.out.sq.pr (i := j) (x := .int .i64 (lv 0 S)[j].1) (by rw [List.getElem?_map, List.getElem?_eq_getElem hjl]; rfl)
          have hjU : j < U.length := by have := congrArg List.length HUe.out.1; simp at this; omega
          obtain ⟨g5, k5, e5, -, p5⟩ := row1_cell HA.out.sq.ur (i := j) (x := (U[j]).1) (by rw [List.getElem?_map, List.getElem?_eq_getElem hjU]; rfl)
          injection e4 with q1 q2 q3
          injection e5 with q4 q5 q6
          subst q1; subst q3; subst q4; subst q6
          have hUj : (U[j]).2 = (lv 0 S)[j].2.1 := by
            have h7 : (U.map Prod.snd)[j]? = ((lv 0 S).map (fun x => x.2.1))[j]? := by rw [HUe.out.1]
            rw [List.getElem?_map, List.getElem?_map, List.getElem?_eq_getElem hjU, List.getElem?_eq_getElem hjl] at h7
            exact Option.some.inj h7
          have hfj : find S (lv 0 S)[j].1 = some ⟨(lv 0 S)[j].2.1, (lv 0 S)[j].2.2, true⟩ := by
            have := lv_find (List.getElem_mem hjl)
            rwa [Int.sub_zero] at this
          have hlj : (lv 0 S)[j].2.1.length ≤ (flat S).length := lits_le hfj
          have hoU := HA.out.sq.uo U[j] (List.getElem_mem hjU)
          rw [hUj] at hoU
          have HDb : Hid (dbl ((lv 0 S).take (j + 1)) = dbl ((lv 0 S).take j) ++ [(lv 0 S)[j].2.1, (lv 0 S)[j].2.1]) := by
            show _ = _
            unfold dbl
            rw [List.take_succ_eq_append_getElem hjl, List.flatMap_append]
            rfl
          have HGet : Hid (∀ W, Below wr.heap.size wr W → Calls Try.prog 19 #[.pointer (some ⟨w.heap.size, 0, none⟩), .int .i64 (lv 0 S)[j].1] W fun e w' => ∃ u, e = .returned (.tuple #[u, .bool true]) ∧ Own W.heap.size w' u (lv 0 S)[j].2.1 ∧ Below W.heap.size W w') := fun W hW => arGet_some w.heap.size v S _ _ W (HA.out.sq.ar.below hW) (by omega) hfj
          obtain ⟨ua, uc, hua⟩ := own_form hoU
          have HRu : Hid (∀ W, Below wr.heap.size wr W → Rd W (.slice ua (lv 0 S)[j].2.1.length uc) (lv 0 S)[j].2.1) := fun W hW => by
            have := (hoU.below hW).rd (by omega)
            rw [hua] at this
            exact this
          rw [hua] at p5
          have HC4 : Hid (∀ W, Below wr.heap.size wr W → W.cell? ⟨g4, j, none⟩ = some (.int .i64 (lv 0 S)[j].1) ∧ W.cell? ⟨g5, j, none⟩ = some (.slice ua (lv 0 S)[j].2.1.length uc)) := fun W hW => ⟨(hW.cell (p := ⟨g4, j, none⟩) (World.block_lt_of_cell? _ _ p4)).trans p4, (hW.cell (p := ⟨g5, j, none⟩) (World.block_lt_of_cell? _ _ p5)).trans p5⟩
          clear q2 q5 hUj hoU hua hfj
          generalize hr0 : (lv 0 S)[j].1 = r0 at *
          generalize hl0 : (lv 0 S)[j].2.1 = l0 at *
          clear hr0 hl0
          go_wp2_with fail
          refine (HGet.out wr (Below.refl _ _)).mono ?_
          rintro e w2 ⟨x1, rfl, o1, b1⟩
          obtain ⟨m1, n1, hx1⟩ := own_form o1
          subst hx1
          have HB2 : Hid (Below wr.heap.size wr w2) := b1
          have HO2 : Hid (Own wr.heap.size w2 (.slice m1 l0.length n1) l0) := o1
          obtain ⟨p42, p52⟩ := HC4.out w2 b1
          clear o1 b1
          go_wp2_with fail
          refine (HGet.out w2 HB2.out).mono ?_
          rintro e w3 ⟨x2, rfl, o3, b3⟩
          obtain ⟨m2, n2, hx2⟩ := own_form o3
          subst hx2
          have HB3 : Hid (Below wr.heap.size wr w3) := Below.step HB2.out b3
          have HO3 : Hid (Own w2.heap.size w3 (.slice m2 l0.length n2) l0) := o3
          have HO23 : Hid (Own wr.heap.size w3 (.slice m1 l0.length n1) l0) := HO2.out.below b3
          have h23 : w2.heap.size ≤ w3.heap.size := b3.size
          have h12 : wr.heap.size ≤ w2.heap.size := HB2.out.size
          obtain ⟨p43, p53⟩ := HC4.out w3 HB3.out
          clear o3 b3
          have HE1 : Hid (Calls Try.prog 12 #[.slice m1 l0.length n1, .slice ua l0.length uc] w3 fun e w' => e = .returned (.bool true) ∧ Below w3.heap.size w3 w') := by
            have h5 := requal4_any _ _ l0 l0 w3 (HO23.out.rd (by omega)) (HRu.out w3 HB3.out)
            rw [show (l0 == l0) = true from beq_self_eq_true l0] at h5
            exact h5
          go_wp2_with fail
          refine HE1.out.mono ?_
          rintro e w4 ⟨rfl, b4⟩
          have HB4 : Hid (Below wr.heap.size wr w4) := Below.step HB3.out b4
          have HO4 : Hid (Own w2.heap.size w4 (.slice m2 l0.length n2) l0) := HO3.out.below b4
          have HO24 : Hid (Own wr.heap.size w4 (.slice m1 l0.length n1) l0) := HO23.out.below b4
          have h34 : w3.heap.size ≤ w4.heap.size := b4.size
          obtain ⟨p44, p54⟩ := HC4.out w4 HB4.out
          clear b4
          have HE2 : Hid (Calls Try.prog 12 #[.slice m2 l0.length n2, .slice ua l0.length uc] w4 fun e w' => e = .returned (.bool true) ∧ Below w4.heap.size w4 w') := by
            have h5 := requal4_any _ _ l0 l0 w4 (HO4.out.rd (by omega)) (HRu.out w4 HB4.out)
            rw [show (l0 == l0) = true from beq_self_eq_true l0] at h5
            exact h5
          go_wp2_with fail
          refine HE2.out.mono ?_
          rintro e w5 ⟨rfl, b5⟩
          have HP5 : Hid (Ph w (w5.alloc (.cells #[.slice m1 l0.length n1, .slice m2 l0.length n2] 32)) (fun _ => False) D v S (.slice (some ⟨g4, 0, none⟩) (lv 0 S).length c4) (.slice (some ⟨g5, 0, none⟩) U.length c5) (.slice a6 C.length c6) U C av A (dbl ((lv 0 S).take j))) := HA.out.below (Below.step (Below.step HB4.out b5) (below_box _ _))
          have HN5 : Hid (∀ x ∈ [((.slice m1 l0.length n1, l0) : Ls), (.slice m2 l0.length n2, l0)], Own wr.heap.size (w5.alloc (.cells #[.slice m1 l0.length n1, .slice m2 l0.length n2] 32)) x.1 x.2) := fun x hx => by
            rcases List.mem_cons.1 hx with rfl | hx
            · exact (HO24.out.below b5).below (below_box _ _)
            · rw [List.mem_singleton.1 hx]
              exact row_mono ((HO4.out.below b5).below (below_box _ _)) h12
          have HAp5 : Hid (Apv ([((.slice m1 l0.length n1, l0) : Ls), (.slice m2 l0.length n2, l0)].map Prod.fst)) := by
            refine List.pairwise_cons.2 ⟨fun y hy g hg q => ?_, List.pairwise_singleton _ _⟩
            rw [List.mem_singleton.1 hy] at q
            have := (World.ownsRow.lt HO2.out g hg).2
            have := (World.ownsRow.lt HO4.out g q).1
            omega
          have HP5' : Hid (Ph w w5 (fun _ => False) D v S (.slice (some ⟨g4, 0, none⟩) (lv 0 S).length c4) (.slice (some ⟨g5, 0, none⟩) U.length c5) (.slice a6 C.length c6) U C av A (dbl ((lv 0 S).take j))) := HA.out.below (Below.step HB4.out b5)
          have hbx := HP5.out.al.cell
          have hbx' := HP5'.out.al.cell
          obtain ⟨aa, ac, hav⟩ := row_form HP5.out.al.row
          subst hav
          have y0 := hbx.1
          have y0' := hbx'.1
          have HAl : Hid (A.length = 2 * j) := by
            show _ = _
            have h5 := congrArg List.length HA.out.eq
            rw [List.length_map] at h5
            rw [h5]
            unfold dbl
            have : ∀ L : List (Int × List Int × Bool), (L.flatMap fun x => [x.2.1, x.2.1]).length = 2 * L.length := fun L => by
              induction L with
              | nil => rfl
              | cons x r ih => simp only [List.flatMap_cons, List.length_append, List.length_cons, List.length_nil, ih]; omega
            rw [this, List.length_take]
            have := HJL.out
            omega
          have HFin : Hid (∀ v6 w6, w6.ownsRow 0 32 1 v6 (A.length + 2) (A.map Prod.fst ++ [.slice m1 l0.length n1, .slice m2 l0.length n2]) → Ap (w5.alloc (.cells #[.slice m1 l0.length n1, .slice m2 l0.length n2] 32)) (.slice aa A.length ac) w6 v6 →
              Ph w (w6.setCell ⟨D, 0, none⟩ v6) (fun _ => False) D v S (.slice (some ⟨g4, 0, none⟩) (lv 0 S).length c4) (.slice (some ⟨g5, 0, none⟩) U.length c5) (.slice a6 C.length c6) U C v6 (A ++ [(.slice m1 l0.length n1, l0), (.slice m2 l0.length n2, l0)]) (dbl ((lv 0 S).take (j + 1))) ∧ w6.cell? ⟨D, 0, none⟩ = some (.slice aa A.length ac) ∧ w6.frozen? ⟨D, 0, none⟩ = false) := fun v6 w6 o6 a6' => by
            have q := HP5.out.app wr.heap.size HN5.out HA.out.lt ⟨HA.out.sq.bel.size, HA.out.al.lt.1⟩ HA.out.al.lt.2.1 HA.out.al.lt.2.2 HAp5.out a6' o6
            rw [HDb.out]
            exact ⟨q.1, q.2.1, q.2.2.1⟩
          clear hbx hbx' b5
          go_wp2_with (at_builtin; refine wpList_append_apk rfl _ _ 49 rfl 0 32 iL (.slice none 0 0) 1 24 Try.underlying49 hiL hL0 hL1 hL2 rfl (by decide) (.slice aa A.length ac) A.length (A.map Prod.fst) rfl HP5.out.al.row ⟨w5.heap.size, 0, none⟩ 2 2 [.slice m1 l0.length n1, .slice m2 l0.length n2] rfl rfl (two_cells _ _ _ _) (by simp [Value.oneCell']) (by have := HAl.out; unfold maxLen; omega) (by have := HAl.out; omega) (Nat.zero_le _) ?_; intro v6 w6 own6 ap6; have hq6 := HFin.out v6 w6 own6 ap6; have HQ6 : Hid (Ph w (w6.setCell ⟨D, 0, none⟩ v6) (fun _ => False) D v S (.slice (some ⟨g4, 0, none⟩) (lv 0 S).length c4) (.slice (some ⟨g5, 0, none⟩) U.length c5) (.slice a6 C.length c6) U C v6 (A ++ [(.slice m1 l0.length n1, l0), (.slice m2 l0.length n2, l0)]) (dbl ((lv 0 S).take (j + 1)))) := hq6.1; have z1 := hq6.2.1; have z2 := hq6.2.2; obtain ⟨a7, c7, hv7⟩ := row_form own6; subst hv7; clear own6 ap6 hq6)
          go_roundg (gj - 1)
          case measure => have := HJ.out; have := HJL.out; omega
          case rel => exact ⟨j + 1, _, _, by have := HJ.out; have := HJL.out; omega, by go_num, HQ6⟩
        · obtain rfl : j = (lv 0 S).length := by have := HJ.out; omega
          have HAX : Hid (Ph w wr (fun _ => False) D v S (.slice a4 (lv 0 S).length c4) (.slice a5 U.length c5) (.slice a6 C.length c6) U C av A (dbl (lv 0 S))) := by have := HA.out; rw [List.take_length] at this; exact this
          clear hjl HA
          have hlv2 := lv_len_le S 0
          go_wp2_with fail
          refine (live_any w.heap.size v S wr HAX.out.sq.ar (by omega) (by omega)).mono ?_
          rintro e w2 ⟨B, u, g, rfl, bx2, row2, lB, b2, hg2⟩
          have hnn := fn_nil5 35 #[.pointer (some ⟨B, 0, none⟩)]
          obtain ⟨Qk, hQk⟩ : ∃ Qk : Nat → Prop, Qk = fun k => k = B ∨ u.ownBlock = some k ∨ (lv 0 S ≠ [] ∧ k = g) := ⟨_, rfl⟩
          have hvg : lv 0 S ≠ [] → v.ownBlock = some g := fun hne => by
            rcases hg2 with e | ⟨c, e⟩
            · rw [e] at hne; exact absurd rfl hne
            · rw [e]; rfl
          have HQl : Hid (∀ k, Qk k → k < w2.heap.size) := fun k hk => by
            rw [hQk] at hk
            rcases hk with rfl | q | ⟨hne, rfl⟩
            · exact (Array.getElem?_eq_some_iff.1 bx2).1
            · exact (World.ownsRow.lt row2 k q).2
            · exact Nat.lt_of_lt_of_le (HAX.out.sq.lt k (.inr (.inl (hvg hne)))) b2.size
          have HAQ : Hid (Ph w w2 Qk D v S (.slice a4 (lv 0 S).length c4) (.slice a5 U.length c5) (.slice a6 C.length c6) U C av A (dbl (lv 0 S))) := HAX.out.toQ (fun k hk => by
            rw [hQk] at hk
            rcases hk with rfl | q | ⟨hne, rfl⟩
            · exact .inr lB
            · exact .inr (World.ownsRow.lt row2 k q).1
            · exact .inl (.inr (.inl (hvg hne)))) b2 HQl.out
          have HSEQ : Hid (∀ n, 1 ≤ n → SeqW Fence.wide n Try.prog 35 #[.pointer (some ⟨B, 0, none⟩)] (fun x : Itl => #[.int .i64 x.1, x.2.1]) (fun m => VL m (rdL (lv 0 S))) (Kq Qk) (fun xs => xs.map Itl.proj = rdL (lv 0 S)) (fun pre => pre.map Itl.proj <+: rdL (lv 0 S)) w2) := fun n hn => by
            refine live_seqW n hn B g wr.heap.size u (lv 0 S) w2 Qk (by rw [hQk]; exact .inl rfl) (fun k hk => by rw [hQk]; exact .inr (.inl hk)) (fun hne => by rw [hQk]; exact .inr (.inr ⟨hne, rfl⟩)) HQl.out bx2 row2 (fun k hk j hj => ?_) (fun k hk => ?_) (by omega)
            · have hfj := lv_find (List.getElem_mem hk)
              rw [Int.sub_zero] at hfj
              obtain ⟨f1, f2, f3, f4, f5, f6⟩ := find_get hfj
              have hown := HAQ.out.sq.ar.own
              have hne : lv 0 S ≠ [] := fun e => by rw [e] at hk; simp at hk
              have hc := World.ownsRow.cells hown (g := g) (hvg hne) ((lv 0 S)[k].1.toNat + 1 + j) (.int .i64 ((lv 0 S)[k].2.1.getD j 0)) (by
                have h4 := congrArg (fun l => l[j]?) f4
                simp only [List.getElem?_take, List.getElem?_drop] at h4
                rw [if_pos hj] at h4
                rw [List.getElem?_map, h4, List.getElem?_eq_getElem hj]
                simp [List.getD_eq_getElem?_getD, List.getElem?_eq_getElem hj])
              rw [Addr.add_lit, Nat.zero_add] at hc
              exact hc
            · have hfj := lv_find (List.getElem_mem hk)
              rw [Int.sub_zero] at hfj
              have : (lv 0 S)[k].2.1.length ≤ (flat S).length := lits_le hfj
              omega
          clear bx2 row2 lB b2 hg2 hvg hQk HAX
          --RANGES
          have hww : w.heap.size ≤ w2.heap.size := HAQ.out.sq.bel.size
          have heg : ∀ args W, (callFunc 35 args).run Try.prog W = .ok (.enter 35 args) W := fun _ _ => rfl
          have HEG : Hid (∀ args W, (callFunc 35 args).run Try.prog W = .ok (.enter 35 args) W) := heg
          clear heg
          go_wp2
          refine (wpIn_wide (n := 12)).1 ?_
          refine' wpIn_rangeW rfl (by omega) (gf := 35) (lb := #[.pointer (some ⟨B, 0, none⟩)]) rfl trivial HEG.out (HSEQ.out (12 - 1) (by omega)) Kq.trans (fun W l o o' hl _ _ _ => Kq.putObj hl HQl.out) (fun W o h => h.alloc o HQl.out) (Kq.refl _ _) (fun _ => rfl)
            (fun pre W => (∃ av A, Ph w W Qk D v S (.slice a4 (lv 0 S).length c4) (.slice a5 U.length c5) (.slice a6 C.length c6) U C av A (dbl (lv 0 S) ++ pre.map (fun x => x.2.2))) ∧ Kq Qk w2 W)
            (fun c pre W => False)
            (fun s X Y row h hg hr => by obtain ⟨⟨av, A, ph⟩, kq⟩ := h; exact ⟨⟨av, A, Ph.from hww () X Y row ph hg hr⟩, Kq.from (Nat.le_refl _) HQl.out () X Y row kq hg hr⟩)
            (fun c s A B row hs hg hr => hs)
            (fun m pre => VL_from _ _ _ pre)
            ⟨⟨_, _, by rw [List.map_nil, List.append_nil]; exact HAQ.out⟩, Kq.refl _ _⟩
            _ ?assign ?body ?done ?stop
          case assign =>
            intro l x W K hK
            gi_wp2
            exact hK
          case body =>
            rintro l' pre ⟨xp, xs, xl⟩ W0 W ⟨⟨av1, A1, ph0⟩, hkq0⟩ hsz hZ ⟨hpx, ho⟩
            dsimp only at ho
            have ph := hZ (fun W => Ph w W Qk D v S (.slice a4 (lv 0 S).length c4) (.slice a5 U.length c5) (.slice a6 C.length c6) U C av1 A1 (dbl (lv 0 S) ++ pre.map (fun x => x.2.2))) (Ph.from (by omega)) ph0
            have hkq := hZ (fun W => Kq Qk w2 W) (Kq.from (by omega) HQl.out) hkq0
            skip
            have hpl : pre.length + 1 ≤ (lv 0 S).length := by
              have := hpx.length_le
              simp only [rdL, List.map_append, List.length_append, List.length_map, List.map_cons, List.map_nil, List.length_cons, List.length_nil] at this
              omega
            have hAl : A1.length ≤ 33554432 := by
              have h5 := congrArg List.length ph0.eq
              simp only [List.length_map, List.length_append, dbl_len] at h5
              omega
            obtain ⟨ax, cxx, ex⟩ := own_form ho
            subst ex
            obtain ⟨ar, cr, er⟩ := row_form ph.al.row
            subst er
            have cb := ph.al.cell.1
            have HPA : Hid (Ph w (W.alloc (.cells #[.slice ax xl.length cxx] 32)) Qk D v S (.slice a4 (lv 0 S).length c4) (.slice a5 U.length c5) (.slice a6 C.length c6) U C (.slice ar A1.length cr) A1 (dbl (lv 0 S) ++ pre.map (fun x => x.2.2))) := ph.below (below_box _ _)
            have ca := HPA.out.al.cell.1
            have HN1 : Hid (∀ x ∈ [((.slice ax xl.length cxx, xl) : Ls)], Own W0.heap.size (W.alloc (.cells #[.slice ax xl.length cxx] 32)) x.1 x.2) := fun x hx => by
              rw [List.mem_singleton.1 hx]
              exact ho.below (below_box _ _)
            have HFin : Hid (∀ v6 w6, w6.ownsRow 0 32 1 v6 (A1.length + 1) (A1.map Prod.fst ++ [.slice ax xl.length cxx]) → Ap (W.alloc (.cells #[.slice ax xl.length cxx] 32)) (.slice ar A1.length cr) w6 v6 →
                (KeepsOthers W (w6.setCell ⟨D, 0, none⟩ v6) ∧ Kq Qk W (w6.setCell ⟨D, 0, none⟩ v6) ∧ (∃ av A, Ph w (w6.setCell ⟨D, 0, none⟩ v6) Qk D v S (.slice a4 (lv 0 S).length c4) (.slice a5 U.length c5) (.slice a6 C.length c6) U C av A (dbl (lv 0 S) ++ (pre ++ [((xp, .slice ax xl.length cxx, xl) : Itl)]).map (fun x => x.2.2))) ∧ Kq Qk w2 (w6.setCell ⟨D, 0, none⟩ v6)) ∧ w6.cell? ⟨D, 0, none⟩ = some (.slice ar A1.length cr) ∧ w6.frozen? ⟨D, 0, none⟩ = false) := fun v6 w6 o6 a6' => by
              have q := HPA.out.app W0.heap.size HN1.out ph0.lt ⟨ph0.sq.bel.size, ph0.al.lt.1⟩ ph0.al.lt.2.1 ph0.al.lt.2.2 (List.pairwise_singleton _ _) a6' o6
              have kk : KeepsOthers W (w6.setCell ⟨D, 0, none⟩ v6) := (KeepsOthers.alloc W _).trans q.2.2.2.2
              have hqs : ∀ k, Qk k → k < W.heap.size := ph.qs
              have kq : Kq Qk W (w6.setCell ⟨D, 0, none⟩ v6) := (Kq.of_below (below_box _ _) hqs).trans q.2.2.2.1
              refine ⟨⟨kk, kq, ⟨_, _, (by rw [List.map_append, ← List.append_assoc]; exact q.1)⟩, hkq.trans kq⟩, q.2.1, q.2.2.1⟩
            clear ho hpx hZ ph hkq hkq0 
            gi_wp2_with (gi_at_builtin; refine wpListIn_append_apk4 _ rfl _ _ 49 rfl 0 32 iL (.slice none 0 0) 1 24 Try.underlying49 hiL hL0 hL1 hL2 rfl (by decide) (.slice ar A1.length cr) A1.length (A1.map Prod.fst) rfl HPA.out.al.row ⟨W.heap.size, 0, none⟩ 1 1 [.slice ax xl.length cxx] rfl rfl (one_new4 _ _ _) (by simp [Value.oneCell']) (by unfold maxLen; omega) (by omega) (Nat.zero_le _) ?_; intro v6 w6 own6 ap6; have hq6 := HFin.out v6 w6 own6 ap6; have HQ6 := (show Hid _ from hq6.1); have z1 := hq6.2.1; have z2 := hq6.2.2; obtain ⟨a7, c7, hv7⟩ := row_form own6; subst hv7; clear own6 ap6 hq6)
            exact HQ6.out
          case stop =>
            rintro Dm c pre W hD hSp h hK
            exact h.elim
          case done =>
            rintro Dm ys W3 hDm0 hS ⟨⟨av1, A1, ph1⟩, kq3⟩ hK3
            have HP3 : Hid (Ph w W3 Qk D v S (.slice a4 (lv 0 S).length c4) (.slice a5 U.length c5) (.slice a6 C.length c6) U C av1 A1 ((dbl (lv 0 S) ++ (lv 0 S).map (fun x => x.2.1)))) := by
              have h5 : ys.map (fun x => x.2.2) = (lv 0 S).map (fun x => x.2.1) := by
                have := congrArg (List.map Prod.snd) hS
                simp only [rdL, List.map_map] at this
                exact this
              rw [h5] at ph1
              exact ph1
            have HK3 : Hid (Kq Qk w2 W3) := kq3
            have hDm : Dm < W3.heap.size := (Array.getElem?_eq_some_iff.1 hK3).1
            have HDm : Hid (W3.heap[Dm]? = some (.deferred (some []))) := hK3
            have hw3 : w2.heap.size ≤ W3.heap.size := kq3.size
            clear hS ph1 kq3 hK3
            go_wp2
            refine (wpIn_wide (n := 12)).1 ?_
            refine' wpIn_rangeW rfl (by omega) (gf := 35) (lb := #[.pointer (some ⟨B, 0, none⟩)]) rfl trivial HEG.out (HSEQ.out (12 - 1) (by omega)) Kq.trans (fun W l o o' hl _ _ _ => Kq.putObj (Nat.le_trans hw3 hl) HQl.out) (fun W o h => h.alloc o HQl.out) HK3.out (fun _ => rfl)
              (fun pre W => (∃ av A, Ph w W Qk D v S (.slice a4 (lv 0 S).length c4) (.slice a5 U.length c5) (.slice a6 C.length c6) U C av A ((dbl (lv 0 S) ++ (lv 0 S).map (fun x => x.2.1)) ++ pre.map (fun x => x.2.2))) ∧ Kq Qk w2 W ∧ W.heap[Dm]? = some (.deferred (some [])))
              (fun c pre W => False)
              (fun s X Y row h hg hr => by obtain ⟨⟨av, A, ph⟩, kq, hm⟩ := h; exact ⟨⟨av, A, Ph.from (Nat.le_trans hww hw3) () X Y row ph hg hr⟩, Kq.from hw3 HQl.out () X Y row kq hg hr, ownFrom_mark4 hDm () X Y row hm hg hr⟩)
              (fun c s A B row hs hg hr => hs)
              (fun m pre => VL_from _ _ _ pre)
              ⟨⟨_, _, by rw [List.map_nil, List.append_nil]; exact HP3.out⟩, HK3.out, HDm.out⟩
              _ ?assign2 ?body2 ?done2 ?stop2
            case assign2 =>
              intro l x W K hK
              gi_wp2
              exact hK
            case body2 =>
              rintro l' pre ⟨xp, xs, xl⟩ W0 W ⟨⟨av1, A1, ph0⟩, hkq0, hmk⟩ hsz hZ ⟨hpx, ho⟩
              dsimp only at ho
              have ph := hZ (fun W => Ph w W Qk D v S (.slice a4 (lv 0 S).length c4) (.slice a5 U.length c5) (.slice a6 C.length c6) U C av1 A1 ((dbl (lv 0 S) ++ (lv 0 S).map (fun x => x.2.1)) ++ pre.map (fun x => x.2.2))) (Ph.from (by omega)) ph0
              have hkq := hZ (fun W => Kq Qk w2 W) (Kq.from (by omega) HQl.out) hkq0
              have HMK : Hid (W.heap[Dm]? = some (.deferred (some []))) := hZ (fun W => W.heap[Dm]? = some (.deferred (some []))) (ownFrom_mark4 hDm) hmk
              have hpl : pre.length + 1 ≤ (lv 0 S).length := by
                have := hpx.length_le
                simp only [rdL, List.map_append, List.length_append, List.length_map, List.map_cons, List.map_nil, List.length_cons, List.length_nil] at this
                omega
              have hAl : A1.length ≤ 33554432 := by
                have h5 := congrArg List.length ph0.eq
                simp only [List.length_map, List.length_append, dbl_len] at h5
                omega
              obtain ⟨ax, cxx, ex⟩ := own_form ho
              subst ex
              obtain ⟨ar, cr, er⟩ := row_form ph.al.row
              subst er
              have cb := ph.al.cell.1
              have HPA : Hid (Ph w (W.alloc (.cells #[.slice ax xl.length cxx] 32)) Qk D v S (.slice a4 (lv 0 S).length c4) (.slice a5 U.length c5) (.slice a6 C.length c6) U C (.slice ar A1.length cr) A1 ((dbl (lv 0 S) ++ (lv 0 S).map (fun x => x.2.1)) ++ pre.map (fun x => x.2.2))) := ph.below (below_box _ _)
              have ca := HPA.out.al.cell.1
              have HN1 : Hid (∀ x ∈ [((.slice ax xl.length cxx, xl) : Ls)], Own W0.heap.size (W.alloc (.cells #[.slice ax xl.length cxx] 32)) x.1 x.2) := fun x hx => by
                rw [List.mem_singleton.1 hx]
                exact ho.below (below_box _ _)
              have HFin : Hid (∀ v6 w6, w6.ownsRow 0 32 1 v6 (A1.length + 1) (A1.map Prod.fst ++ [.slice ax xl.length cxx]) → Ap (W.alloc (.cells #[.slice ax xl.length cxx] 32)) (.slice ar A1.length cr) w6 v6 →
                  (KeepsOthers W (w6.setCell ⟨D, 0, none⟩ v6) ∧ Kq Qk W (w6.setCell ⟨D, 0, none⟩ v6) ∧ (∃ av A, Ph w (w6.setCell ⟨D, 0, none⟩ v6) Qk D v S (.slice a4 (lv 0 S).length c4) (.slice a5 U.length c5) (.slice a6 C.length c6) U C av A ((dbl (lv 0 S) ++ (lv 0 S).map (fun x => x.2.1)) ++ (pre ++ [((xp, .slice ax xl.length cxx, xl) : Itl)]).map (fun x => x.2.2))) ∧ Kq Qk w2 (w6.setCell ⟨D, 0, none⟩ v6) ∧ (w6.setCell ⟨D, 0, none⟩ v6).heap[Dm]? = some (.deferred (some []))) ∧ w6.cell? ⟨D, 0, none⟩ = some (.slice ar A1.length cr) ∧ w6.frozen? ⟨D, 0, none⟩ = false) := fun v6 w6 o6 a6' => by
                have q := HPA.out.app W0.heap.size HN1.out ph0.lt ⟨ph0.sq.bel.size, ph0.al.lt.1⟩ ph0.al.lt.2.1 ph0.al.lt.2.2 (List.pairwise_singleton _ _) a6' o6
                have kk : KeepsOthers W (w6.setCell ⟨D, 0, none⟩ v6) := (KeepsOthers.alloc W _).trans q.2.2.2.2
                have hqs : ∀ k, Qk k → k < W.heap.size := ph.qs
                have kq : Kq Qk W (w6.setCell ⟨D, 0, none⟩ v6) := (Kq.of_below (below_box _ _) hqs).trans q.2.2.2.1
                refine ⟨⟨kk, kq, ⟨_, _, (by rw [List.map_append, ← List.append_assoc]; exact q.1)⟩, hkq.trans kq, kk.same Dm _ HMK.out rfl⟩, q.2.1, q.2.2.1⟩
              clear ho hpx hZ ph hkq hkq0 hmk
              gi_wp2_with (gi_at_builtin; refine wpListIn_append_apk4 _ rfl _ _ 49 rfl 0 32 iL (.slice none 0 0) 1 24 Try.underlying49 hiL hL0 hL1 hL2 rfl (by decide) (.slice ar A1.length cr) A1.length (A1.map Prod.fst) rfl HPA.out.al.row ⟨W.heap.size, 0, none⟩ 1 1 [.slice ax xl.length cxx] rfl rfl (one_new4 _ _ _) (by simp [Value.oneCell']) (by unfold maxLen; omega) (by omega) (Nat.zero_le _) ?_; intro v6 w6 own6 ap6; have hq6 := HFin.out v6 w6 own6 ap6; have HQ6 := (show Hid _ from hq6.1); have z1 := hq6.2.1; have z2 := hq6.2.2; obtain ⟨a7, c7, hv7⟩ := row_form own6; subst hv7; clear own6 ap6 hq6)
              exact HQ6.out
            case stop2 =>
              rintro Dm2 c pre W hD hSp h hK
              exact h.elim
            case done2 =>
              rintro Dm2 ys W4 hDm20 hS ⟨⟨av2, A2, ph2⟩, kq4, hKm⟩ hK4
              have HP4 : Hid (Ph w W4 Qk D v S (.slice a4 (lv 0 S).length c4) (.slice a5 U.length c5) (.slice a6 C.length c6) U C av2 A2 (((dbl (lv 0 S) ++ (lv 0 S).map (fun x => x.2.1)) ++ (lv 0 S).map (fun x => x.2.1)))) := by
                have h5 : ys.map (fun x => x.2.2) = (lv 0 S).map (fun x => x.2.1) := by
                  have := congrArg (List.map Prod.snd) hS
                  simp only [rdL, List.map_map] at this
                  exact this
                rw [h5] at ph2
                exact ph2
              clear hS ph2 kq4
              have HA4 : Hid (A2.length = 4 * (lv 0 S).length) := by
                show _ = _
                have h5 := congrArg List.length HP4.out.eq
                simp only [List.length_map, List.length_append, dbl_len] at h5
                omega
              obtain ⟨ar, cr, er⟩ := row_form HP4.out.al.row
              subst er
              have y0 := HP4.out.al.cell.1
              have hb4 : ((A2.length : Int) == 4 * ((lv 0 S).length : Int)) = true := beq_iff_eq.2 (by have := HA4.out; omega)
              have hb5 : ((A2.length : Int) != 4 * ((lv 0 S).length : Int)) = false := by rw [bne, hb4]; rfl
              have HKm : Hid (W4.heap[Dm]? = some (.deferred (some [])) ∧ W4.heap[Dm2]? = some (.deferred (some []))) := ⟨hKm, hK4⟩
              have hDm4 : Dm2 < W4.heap.size := (Array.getElem?_eq_some_iff.1 hK4).1
              have hDm3 : Dm < W4.heap.size := (Array.getElem?_eq_some_iff.1 hKm).1
              clear hKm hK4
              go_wp2
              go_loopg [23] (lv 0 S).length (fun q i' wz => ∃ j : Nat, j + q = (lv 0 S).length ∧ i' = .int .i64 j ∧ Hid (Below W4.heap.size W4 wz))
              case atStart => exact ⟨0, by omega, rfl, Below.refl _ _⟩
              case round =>
                obtain ⟨j, hj, rfl, HB⟩ := hrel
                obtain ⟨gj, hgj⟩ : ∃ gj, gj = gk := ⟨_, rfl⟩
                have HJ : Hid (j + gj = (lv 0 S).length) := by rw [hgj]; exact hj
                clear hj
                by_cases hjl : j < (lv 0 S).length
                · have HJL : Hid (j < (lv 0 S).length) := hjl
                  have hjU : j < U.length := by have := congrArg List.length HUe.out.1; simp at this; omega
                  have hj2 : 2 * (lv 0 S).length + j < A2.length := by have := HA4.out; omega
                  have hj3 : 3 * (lv 0 S).length + j < A2.length := by have := HA4.out; omega
                  obtain ⟨g5, k5, e5, -, p5⟩ := row1_cell HP4.out.sq.ur (i := j) (x := (U[j]).1) (by rw [List.getElem?_map, List.getElem?_eq_getElem hjU]; rfl)
                  obtain ⟨gA, kA, eA, -, pA2⟩ := row1_cell HP4.out.al.row (i := 2 * (lv 0 S).length + j) (x := (A2[2 * (lv 0 S).length + j]).1) (by rw [List.getElem?_map, List.getElem?_eq_getElem hj2]; rfl)
                  obtain ⟨gA', kA', eA', -, pA3⟩ := row1_cell HP4.out.al.row (i := 3 * (lv 0 S).length + j) (x := (A2[3 * (lv 0 S).length + j]).1) (by rw [List.getElem?_map, List.getElem?_eq_getElem hj3]; rfl)
                  injection e5 with q4 q5 q6
                  injection eA with q7 q8 q9
                  injection eA' with r7 r8 r9
                  subst q4; subst q6; subst q7; subst q9
                  injection r7 with r7
                  injection r7 with r7
                  subst r7
                  have hUj : (U[j]).2 = (lv 0 S)[j].2.1 := by
                    have h7 : (U.map Prod.snd)[j]? = ((lv 0 S).map (fun x => x.2.1))[j]? := by rw [HUe.out.1]
                    rw [List.getElem?_map, List.getElem?_map, List.getElem?_eq_getElem hjU, List.getElem?_eq_getElem hjl] at h7
                    exact Option.some.inj h7
                  have hA2e : (A2[2 * (lv 0 S).length + j]).2 = (lv 0 S)[j].2.1 := by
                    have h7 : (A2.map Prod.snd)[2 * (lv 0 S).length + j]? = some (lv 0 S)[j].2.1 := by
                      rw [HP4.out.eq, List.getElem?_append_left (by simp only [List.length_append, List.length_map, dbl_len]; omega), List.getElem?_append_right (by rw [dbl_len]; omega), dbl_len, show 2 * (lv 0 S).length + j - 2 * (lv 0 S).length = j by omega, List.getElem?_map, List.getElem?_eq_getElem hjl]
                      rfl
                    rw [List.getElem?_map, List.getElem?_eq_getElem hj2] at h7
                    exact Option.some.inj h7
                  have hA3e : (A2[3 * (lv 0 S).length + j]).2 = (lv 0 S)[j].2.1 := by
                    have h7 : (A2.map Prod.snd)[3 * (lv 0 S).length + j]? = some (lv 0 S)[j].2.1 := by
                      rw [HP4.out.eq, List.getElem?_append_right (by simp only [List.length_append, List.length_map, dbl_len]; omega), show 3 * (lv 0 S).length + j - (dbl (lv 0 S) ++ (lv 0 S).map (fun x => x.2.1)).length = j by simp only [List.length_append, List.length_map, dbl_len]; omega, List.getElem?_map, List.getElem?_eq_getElem hjl]
                      rfl
                    rw [List.getElem?_map, List.getElem?_eq_getElem hj3] at h7
                    exact Option.some.inj h7
                  have hfj : find S (lv 0 S)[j].1 = some ⟨(lv 0 S)[j].2.1, (lv 0 S)[j].2.2, true⟩ := by
                    have := lv_find (List.getElem_mem hjl)
                    rwa [Int.sub_zero] at this
                  have hlj : (lv 0 S)[j].2.1.length ≤ (flat S).length := lits_le hfj
                  have hoU := HP4.out.sq.uo U[j] (List.getElem_mem hjU)
                  have ho2 := HP4.out.al.own _ (List.getElem_mem hj2)
                  have ho3 := HP4.out.al.own _ (List.getElem_mem hj3)
                  rw [hUj] at hoU
                  rw [hA2e] at ho2
                  rw [hA3e] at ho3
                  obtain ⟨ua, uc, hua⟩ := own_form hoU
                  obtain ⟨m2, n2, hm2⟩ := own_form ho2
                  obtain ⟨m3, n3, hm3⟩ := own_form ho3
                  rw [hua] at p5 hoU
                  rw [hm2] at pA2 ho2
                  rw [hm3] at pA3 ho3
                  clear hUj hA2e hA3e hua hm2 hm3 q5 q8 r8 r9
                  generalize (lv 0 S)[j].2.1 = l0 at *
                  obtain ⟨i2, hi2⟩ : ∃ i2, i2 = 2 * (lv 0 S).length + j := ⟨_, rfl⟩
                  obtain ⟨i3, hi3⟩ : ∃ i3, i3 = 3 * (lv 0 S).length + j := ⟨_, rfl⟩
                  rw [← hi2] at pA2 hj2
                  rw [← hi3] at pA3 hj3
                  have f2 : 2 * ((lv 0 S).length : Int) + (j : Int) = (i2 : Int) := by omega
                  have f3 : 3 * ((lv 0 S).length : Int) + (j : Int) = (i3 : Int) := by omega
                  have wr2 : IntKind.i64.wrap (2 * ((lv 0 S).length : Int)) = 2 * ((lv 0 S).length : Int) := by rw [IntKind.wrap_i64]; omega
                  have wr3 : IntKind.i64.wrap (3 * ((lv 0 S).length : Int)) = 3 * ((lv 0 S).length : Int) := by rw [IntKind.wrap_i64]; omega
                  have wr4 : IntKind.i64.wrap (i2 : Int) = (i2 : Int) := by rw [IntKind.wrap_i64]; omega
                  have wr5 : IntKind.i64.wrap (i3 : Int) = (i3 : Int) := by rw [IntKind.wrap_i64]; omega
                  have HEq2 : Hid (∀ W, Below W4.heap.size W4 W → Calls Try.prog 12 #[.slice m2 l0.length n2, .slice ua l0.length uc] W fun e w' => e = .returned (.bool true) ∧ Below W.heap.size W w') := fun W hW => by
                    have h5 := requal4_any _ _ l0 l0 W ((ho2.below hW).rd (by omega)) ((hoU.below hW).rd (by omega))
                    rw [show (l0 == l0) = true from beq_self_eq_true l0] at h5
                    exact h5
                  have HEq3 : Hid (∀ W, Below W4.heap.size W4 W → Calls Try.prog 12 #[.slice m3 l0.length n3, .slice ua l0.length uc] W fun e w' => e = .returned (.bool true) ∧ Below W.heap.size W w') := fun W hW => by
                    have h5 := requal4_any _ _ l0 l0 W ((ho3.below hW).rd (by omega)) ((hoU.below hW).rd (by omega))
                    rw [show (l0 == l0) = true from beq_self_eq_true l0] at h5
                    exact h5
                  have HSc : Hid (∀ W, Below W4.heap.size W4 W → W.cell? ⟨D, 0, none⟩ = some (.slice (some ⟨gA, 0, none⟩) A2.length cr) ∧ W.cell? ⟨gA, i2, none⟩ = some (.slice m2 l0.length n2) ∧ W.cell? ⟨gA, i3, none⟩ = some (.slice m3 l0.length n3) ∧ W.cell? ⟨g5, j, none⟩ = some (.slice ua l0.length uc)) := fun W hW =>
                    ⟨(hW.cell (p := ⟨D, 0, none⟩) (World.block_lt_of_cell? _ _ y0)).trans y0, (hW.cell (p := ⟨gA, i2, none⟩) (World.block_lt_of_cell? _ _ pA2)).trans pA2, (hW.cell (p := ⟨gA, i3, none⟩) (World.block_lt_of_cell? _ _ pA3)).trans pA3, (hW.cell (p := ⟨g5, j, none⟩) (World.block_lt_of_cell? _ _ p5)).trans p5⟩
                  have HBd : Hid (Below W4.heap.size W4 wr.drew) := HB.out.drew
                  have HS1 := (show Hid _ from HSc.out _ HBd.out)
                  clear ho2 ho3 hoU p5 pA2 pA3 hfj hi2 hi3
                  go_upto_region 45 with fail
                  go_region_held (fun W' => W'.cell? ⟨D, 0, none⟩ = some (.slice (some ⟨gA, 0, none⟩) A2.length cr) ∧ W'.cell? ⟨gA, i2, none⟩ = some (.slice m2 l0.length n2) ∧ W'.cell? ⟨gA, i3, none⟩ = some (.slice m3 l0.length n3) ∧ W'.cell? ⟨g5, j, none⟩ = some (.slice ua l0.length uc)) (first | with_reducible exact HS1.out | with_reducible exact HS3.out | with_reducible exact HS2.out) (first
                    | (go_at_call_of 12 (Value.slice m2 l0.length n2); refine Calls.mono (HEq2.out _ HBd.out) ?_; rintro e w5 ⟨rfl, b5⟩; have HB5 : Hid (Below W4.heap.size W4 w5) := Below.step HBd.out b5; have HS2 := (show Hid _ from HSc.out _ HB5.out); clear b5)
                    | (go_at_call_of 12 (Value.slice m3 l0.length n3); refine Calls.mono (HEq3.out _ HB5.out) ?_; rintro e w6 ⟨rfl, b6⟩; have HB6 : Hid (Below W4.heap.size W4 w6) := Below.step HB5.out b6; have HS3 := (show Hid _ from HSc.out _ HB6.out); clear b6))
                  go_wp2
                  go_roundg (gj - 1)
                  case measure => have := HJ.out; have := HJL.out; omega
                  case rel => exact ⟨j + 1, by have := HJ.out; have := HJL.out; omega, by go_num, HB6⟩
                · obtain rfl : j = (lv 0 S).length := by have := HJ.out; omega
                  have HP5 : Hid (Ph w wr Qk D v S (.slice a4 (lv 0 S).length c4) (.slice a5 U.length c5) (.slice a6 C.length c6) U C (.slice ar A2.length cr) A2 (dbl (lv 0 S) ++ (lv 0 S).map (fun x => x.2.1) ++ (lv 0 S).map (fun x => x.2.1))) := HP4.out.below HB.out
                  have m1 : wr.heap[Dm]? = some (.deferred (some [])) := (HB.out.block Dm hDm3).trans HKm.out.1
                  have m2 : wr.heap[Dm2]? = some (.deferred (some [])) := (HB.out.block Dm2 hDm4).trans HKm.out.2
                  obtain ⟨gc, hgc⟩ : ∃ gc, a6 = some ⟨gc, 0, none⟩ := by
                    rcases HP5.out.sq.cr.2 with ⟨e, e2⟩ | ⟨g', cap', cur', e, -⟩
                    · have := HUe.out.2.1; omega
                    · injection e with e1 e2 e3; exact ⟨g', e1⟩
                  subst hgc
                  have hCl : C.length ≤ 4194305 := by have := HUe.out.2.1; have := HLn.out; omega
                  have hA4' : A2.length ≤ 16777232 := by have := HA4.out; omega
                  have HNw : Hid (∀ i u, (C.map Prod.fst)[i]? = some u → wr.cell? ((⟨gc, 0, none⟩ : Addr).add i) = some u) := fun i u hu => World.ownsRow.cells HP5.out.sq.cr (g := gc) rfl i u hu
                  have HOn : Hid (∀ u ∈ C.map Prod.fst, u.oneCell' = true) := fun u hu => by
                    obtain ⟨x, hx, rfl⟩ := List.mem_map.1 hu
                    obtain ⟨a, c, e⟩ := own_form (HP5.out.sq.co x hx)
                    rw [e]
                    rfl
                  have HLa : Hid (∀ v6 w6, w6.ownsRow 0 32 1 v6 (A2.length + C.length) (A2.map Prod.fst ++ C.map Prod.fst) → Ap wr (.slice ar A2.length cr) w6 v6 → w6.cell? ⟨D, 0, none⟩ = some (.slice ar A2.length cr) ∧ w6.frozen? ⟨D, 0, none⟩ = false ∧ (w6.setCell ⟨D, 0, none⟩ v6).cell? ⟨D, 0, none⟩ = some v6 ∧ Calls Try.prog 20 #[v6] (w6.setCell ⟨D, 0, none⟩ v6) fun e w' => e = .returned (.bool true) ∧ Sq w w' w.heap.size v S S (.slice a4 (lv 0 S).length c4) (.slice a5 U.length c5) (.slice none 0 0) U [] ∧ w'.heap[Dm]? = some (.deferred (some [])) ∧ w'.heap[Dm2]? = some (.deferred (some []))) := fun v6 w6 o6 a6' => HP5.out.last a6' o6 Dm Dm2 m1 m2 (by omega) (fun x hx => by
                    have h7 : x.2 ∈ A2.map Prod.snd := List.mem_map_of_mem hx
                    rw [HP5.out.eq] at h7
                    have h8 : ∀ y ∈ dbl (lv 0 S) ++ (lv 0 S).map (fun x => x.2.1) ++ (lv 0 S).map (fun x => x.2.1), y.length ≤ (flat S).length := fun y hy => lits_in hy
                    have := h8 _ h7
                    omega) (fun x hx => by have := HUe.out.2.2 x hx; omega)
                  have y1 := HP5.out.al.cell.1
                  clear m1 m2
                  go_wp2_with (at_builtin; refine wpList_append_apk rfl _ _ 49 rfl 0 32 iL (.slice none 0 0) 1 24 Try.underlying49 hiL hL0 hL1 hL2 rfl (by decide) (.slice ar A2.length cr) A2.length (A2.map Prod.fst) rfl HP5.out.al.row ⟨gc, 0, none⟩ C.length c6 (C.map Prod.fst) rfl (by rw [List.length_map, Nat.mul_one]) HNw.out HOn.out (by unfold maxLen; omega) (by omega) (Nat.zero_le _) ?_; intro v6 w6 own6 ap6; obtain ⟨z1, z2, z3, hca⟩ := HLa.out v6 w6 own6 ap6; obtain ⟨a7, c7, hv7⟩ := row_form own6; subst hv7; have HCa := (show Hid _ from hca); clear own6 ap6 hca)
                  refine Calls.mono HCa.out ?_
                  rintro e w7 ⟨rfl, sq7, mm1, mm2⟩
                  have HS7 : Hid (Sq w w7 w.heap.size v S S (.slice a4 (lv 0 S).length c4) (.slice a5 U.length c5) (.slice none 0 0) U []) := sq7
                  have HM7 : Hid (w7.heap[Dm]? = some (.deferred (some [])) ∧ w7.heap[Dm2]? = some (.deferred (some []))) := ⟨mm1, mm2⟩
                  clear sq7 mm1 mm2
                  go_wp2
                  go_loopg [24, 25, 26] (lv 0 S).length (fun q i' p1 p2 wz => ∃ j : Nat, j + q = (lv 0 S).length ∧ i' = .int .i64 j ∧ Hid (Below w7.heap.size w7 wz))
                  case atStart => exact ⟨0, by omega, rfl, Below.refl _ _⟩
                  case round =>
                    obtain ⟨j, hj, rfl, HB7⟩ := hrel
                    obtain ⟨gj, hgj⟩ : ∃ gj, gj = gk := ⟨_, rfl⟩
                    have HJ7 : Hid (j + gj = (lv 0 S).length) := by rw [hgj]; exact hj
                    clear hj
                    by_cases hjl : j < (lv 0 S).length
                    · have HJL : Hid (j < (lv 0 S).length) := hjl
                      obtain ⟨g4, k4, e4, -, p4⟩ := row1_cell HS7.out.pr (i := j) (x := .int .i64 (lv 0 S)[j].1) (by rw [List.getElem?_map, List.getElem?_eq_getElem hjl]; rfl)
                      have hjU : j < U.length := by have := congrArg List.length HUe.out.1; simp at this; omega
                      obtain ⟨g5, k5, e5, -, p5⟩ := row1_cell HS7.out.ur (i := j) (x := (U[j]).1) (by rw [List.getElem?_map, List.getElem?_eq_getElem hjU]; rfl)
                      injection e4 with q1 q2 q3
                      injection e5 with q4 q5 q6
                      subst q1; subst q3; subst q4; subst q6
                      have hUj : (U[j]).2 = (lv 0 S)[j].2.1 := by
                        have h7 : (U.map Prod.snd)[j]? = ((lv 0 S).map (fun x => x.2.1))[j]? := by rw [HUe.out.1]
                        rw [List.getElem?_map, List.getElem?_map, List.getElem?_eq_getElem hjU, List.getElem?_eq_getElem hjl] at h7
                        exact Option.some.inj h7
                      have hfj : find S (lv 0 S)[j].1 = some ⟨(lv 0 S)[j].2.1, (lv 0 S)[j].2.2, true⟩ := by
                        have := lv_find (List.getElem_mem hjl)
                        rwa [Int.sub_zero] at this
                      have hlj : (lv 0 S)[j].2.1.length ≤ (flat S).length := lits_le hfj
                      have hoU := HS7.out.uo U[j] (List.getElem_mem hjU)
                      rw [hUj] at hoU
                      have HGet : Hid (Calls Try.prog 19 #[.pointer (some ⟨w.heap.size, 0, none⟩), .int .i64 (lv 0 S)[j].1] wr fun e w' => ∃ u, e = .returned (.tuple #[u, .bool true]) ∧ Own wr.heap.size w' u (lv 0 S)[j].2.1 ∧ Below wr.heap.size wr w') := arGet_some w.heap.size v S _ _ wr (HS7.out.ar.below HB7.out) (by omega) hfj
                      obtain ⟨ua, uc, hua⟩ := own_form hoU
                      have HRu : Hid (∀ W, Below w7.heap.size w7 W → Rd W (.slice ua (lv 0 S)[j].2.1.length uc) (lv 0 S)[j].2.1) := fun W hW => by
                        have := (hoU.below hW).rd (by omega)
                        rw [hua] at this
                        exact this
                      rw [hua] at p5
                      have HC4 : Hid (∀ W, Below w7.heap.size w7 W → W.cell? ⟨g4, j, none⟩ = some (.int .i64 (lv 0 S)[j].1) ∧ W.cell? ⟨g5, j, none⟩ = some (.slice ua (lv 0 S)[j].2.1.length uc)) := fun W hW => ⟨(hW.cell (p := ⟨g4, j, none⟩) (World.block_lt_of_cell? _ _ p4)).trans p4, (hW.cell (p := ⟨g5, j, none⟩) (World.block_lt_of_cell? _ _ p5)).trans p5⟩
                      obtain ⟨p41, p51⟩ := HC4.out wr HB7.out
                      clear q2 q5 hUj hoU hua hfj p4 p5
                      generalize (lv 0 S)[j].1 = r0 at *
                      generalize (lv 0 S)[j].2.1 = l0 at *
                      go_wp2_with fail
                      refine HGet.out.mono ?_
                      rintro e w8 ⟨x1, rfl, o1, b1⟩
                      obtain ⟨m1, n1, hx1⟩ := own_form o1
                      subst hx1
                      have HB8 : Hid (Below w7.heap.size w7 w8) := Below.step HB7.out b1
                      obtain ⟨p42, p52⟩ := HC4.out w8 HB8.out
                      have HE1 : Hid (Calls Try.prog 12 #[.slice m1 l0.length n1, .slice ua l0.length uc] w8 fun e w' => e = .returned (.bool true) ∧ Below w8.heap.size w8 w') := by
                        have h5 := requal4_any _ _ l0 l0 w8 (o1.rd (by omega)) (HRu.out w8 HB8.out)
                        rw [show (l0 == l0) = true from beq_self_eq_true l0] at h5
                        exact h5
                      clear o1 b1
                      go_wp2_with fail
                      refine HE1.out.mono ?_
                      rintro e w9 ⟨rfl, b9⟩
                      have HB9 : Hid (Below w7.heap.size w7 w9) := Below.step HB8.out b9
                      clear b9
                      go_wp2
                      go_roundg (gj - 1)
                      case measure => have := HJ7.out; have := HJL.out; omega
                      case rel => exact ⟨j + 1, by have := HJ7.out; have := HJL.out; omega, by go_num, HB9⟩
                    · obtain rfl : j = (lv 0 S).length := by have := HJ7.out; omega
                      have mk1 : wr.heap[Dm]? = some (.deferred (some [])) := (HB7.out.block Dm (Array.getElem?_eq_some_iff.1 HM7.out.1).1).trans HM7.out.1
                      have mk2 : wr.heap[Dm2]? = some (.deferred (some [])) := (HB7.out.block Dm2 (Array.getElem?_eq_some_iff.1 HM7.out.2).1).trans HM7.out.2
                      have HMk : Hid (wr.heap[Dm]? = some (.deferred (some [])) ∧ wr.heap[Dm2]? = some (.deferred (some []))) := ⟨mk1, mk2⟩
                      have HBe : Hid (Below w.heap.size w wr) := Below.step HS7.out.bel HB7.out
                      clear mk1 mk2 hjl
                      go_wp2_with fail
                      refine (arCount_any w.heap.size v S wr (HS7.out.ar.below HB7.out)).mono ?_
                      rintro e w8 ⟨rfl, ew⟩
                      have ew := ew.symm
                      subst ew
                      have hbe : (((lv 0 S).length : Int) == ((lv 0 S).length : Int)) = true := beq_self_eq_true _
                      go_wp2
                      have hDD : Dm ≠ Dm2 := by omega
                      refine ⟨by simp, .inl ⟨_, _, rfl, run_takeDeferred HMk.out.2, ?_⟩⟩
                      have hKD := (World.putObj_heap_other (w := wr) (o := .deferred none) hDD).trans HMk.out.1
                      refine ⟨by simp, .inl ⟨_, _, rfl, run_takeDeferred hKD, ?_⟩⟩
                      refine ⟨.bool true, by simp [results, Try.f5, go_sem], rfl, (HBe.out.trans (belowK_b (w := w) (Nat.le_refl _) _ Dm2 _ _ (by omega) HMk.out.2 rfl rfl)).trans (belowK_b (w := w) (Nat.le_refl _) _ Dm _ _ (by omega) hKD rfl rfl)⟩
end Go.Proofs.Ytnglgcipjbpgoaa.arenaSpares
