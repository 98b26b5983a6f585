/-
  The program's relation, walked (walks/genrlu.py writes it).
  KEEP: off c0 c1 c2 c3 c4 s0 s1 s2 s3 s4 newS rds lt f t q x len below nil form rd mono on app start at new trans refl kept own row out grown rdz set one more lt size cell some none letL tail next step go add put del get look no yes e c f b k n m box blw c0 c1 c2 s0 s1 s2 s3 newS drewN x t q
-/
import Derived.Test.YtmfcaoacklbkoaaDoorRlS
set_option linter.unusedSimpArgs false
set_option linter.unusedVariables false
namespace Go.Proofs.YtmfcaoacklbkoaaDoor
open Go Go.RowKit

/-- all three cells are laid -/
def st3 (W : World) (D : Nat) (n : ByteArray) (o : Int) (v : ByteArray) : World := ((W.setCell ⟨D, 0, none⟩ (.string n)).setCell ⟨D, 1, none⟩ (.int .i64 o)).setCell ⟨D, 2, none⟩ (.string v)
theorem st3_q {W : World} {D : Nat} {n n' v v' : ByteArray} {o o' : Int} (h : Rq W D n o v) : Rq (st3 W D n' o' v') D n' o' v' := ((h.s0 _).s1 _).s2 _
theorem gr_new22 {A B : World} {g N : Nat} (h : A.grownBy B (some g)) (hN : A.heap.size ≤ N) (k : Nat) (x : Value) : A.grownBy (B.setCell ⟨N, k, none⟩ x) (some g) :=
  ⟨h.os, h.tape, h.output, by rw [show (B.setCell ⟨N, k, none⟩ x).heap.size = B.heap.size by simp]; exact h.size, fun i hi hn => (Below.heap_setCell _ _ _ _ (by show i ≠ N; omega)).trans (h.block i hi hn)⟩
theorem LkA.off22 {A B : World} {D N : Nat} {s : ByteArray} {a : Nat} (h : LkA A B D s a) (hN : A.heap.size ≤ N) (hD : D ≠ N) (k : Nat) (x : Value) : LkA A (B.setCell ⟨N, k, none⟩ x) D s a :=
  ⟨(Below.heap_setCell _ _ _ _ hD).trans h.1, gr_new22 h.2 hN k x⟩
theorem st3_l {A B : World} {D N : Nat} {s : ByteArray} {a : Nat} (h : LkA A B D s a) (hN : A.heap.size ≤ N) (hD : D ≠ N) (n : ByteArray) (o : Int) (v : ByteArray) : LkA A (st3 B N n o v) D s a :=
  ((h.off22 hN hD _ _).off22 hN hD _ _).off22 hN hD _ _
theorem ret_r2 {fn : Func} {p u : Tmp} {tmps : Array Value} {W : World} {D : Nat} {n v : ByteArray} {o : Int} (h : fn.results = #[.cell p 34, .tmp u]) (hp : tmps.getD p undef = .pointer (some ⟨D, 0, none⟩)) (hb : Rq W D n o v) :
    (results fn tmps).run Tryd.prog W = .ok (.tuple #[.agg #[.string n, .int .i64 o, .string v], tmps.getD u undef]) W := by
  have c0 := hb.c0
  have c1 := hb.c1
  have c2 := hb.c2
  simp only [Array.getD_eq_getD_getElem?] at hp ⊢
  simp [results, h, hp, go_sem, c0, c1, c2]
/-- between two pieces: the reader, the answer's box, the table -/
structure SR (w W : World) (D : Nat) (s : ByteArray) (q N : Nat) : Prop where
  x : LkA w W D s q
  b : Rq W N ⟨#[]⟩ 0 ⟨#[]⟩
  t : OpT W
theorem SR.step22 {w W W' : World} {D : Nat} {s : ByteArray} {q q' N : Nat} (h : SR w W D s q N) (hN : D ≠ N) (k : LkA W W' D s q') : SR w W' D s q' N :=
  ⟨h.x.trans22 k, (k.2.block N h.b.lt (fun e => hN (by injection e with e; exact e.symm))).trans h.b, h.t.lk h.x.1 k⟩
/-- what relation answers -/
def RlAns (w w' : World) (e : Ending) (D : Nat) (s : ByteArray) (R : On1) : Prop :=
  ∃ rn ro rv q, e = .returned (.tuple #[.agg #[.string rn, .int .i64 ro, .string rv], .int .i64 R.e]) ∧ LkA w w' D s q ∧ q ≤ s.size ∧ (R.e = 0 → rn = R.n ∧ ro = R.o ∧ rv = R.v ∧ runF gapZ s.data.toList q = R.k) ∧ (R.e ≠ 0 → q = R.k)
theorem runF_stop {p : Int → Bool} {s : ByteArray} {k : Nat} (h : k ≤ s.size) : runF p s.data.toList (runF p s.data.toList k) = runF p s.data.toList k := by
  induction hn : s.size - k generalizing k with
  | zero =>
    have e : k = s.size := by omega
    have := runF_end p s.data.toList k (by rw [size20]; omega)
    rw [this, this]
  | succ n ih =>
    have hlt : k < s.size := by omega
    cases hb : p ((s[k]'hlt).toNat : Int)
    · rw [runF_no hlt hb, runF_no hlt hb]
    · rw [runF_yes hlt hb]; exact ih (by omega) (by omega)

set_option maxHeartbeats 6400000 in
set_option maxRecDepth 20000 in
theorem relation22 (s : ByteArray) (k D : Nat) (w : World) (hR : Rx w D s k) (hT : OpT w) (hk : k ≤ s.size) (hs : s.size ≤ 281474976710656) :
    Calls Tryd.prog 32 #[.pointer (some ⟨D, 0, none⟩)] w fun e w' => RlAns w w' e D s (oneF s (runF gapZ s.data.toList k)) := by
  obtain ⟨R, hRr⟩ : ∃ R, R = oneF s (runF gapZ s.data.toList k) := ⟨_, rfl⟩
  rw [← hRr]
  have HRl : Hid (∀ (p : Int → Bool) (j : Nat), j ≤ s.size → j ≤ runF p s.data.toList j ∧ runF p s.data.toList j ≤ s.size) := fun p j hj => ⟨runF_ge p _ j, runF_le22 p s hj⟩
  have HWN : Hid (∀ W j, Rx W D s j → j ≤ s.size → Calls Tryd.prog 47 #[.pointer (some ⟨D, 0, none⟩), .func (.func 28) #[] #[], .int .i64 230] W fun e w' => e = .returned (.tuple #[.string (wdN s (runF gapZ s.data.toList j) 230).1, .int .i64 (wdN s (runF gapZ s.data.toList j) 230).2.1]) ∧ LkA W w' D s (wdN s (runF gapZ s.data.toList j) 230).2.2) := fun W j h hj => wordN22 s j D 230 W h hj hs
  have HWV : Hid (∀ W j, Rx W D s j → j ≤ s.size → Calls Tryd.prog 47 #[.pointer (some ⟨D, 0, none⟩), .func (.func 38) #[] #[], .int .i64 200] W fun e w' => e = .returned (.tuple #[.string (wdV s (runF gapZ s.data.toList j) 200).1, .int .i64 (wdV s (runF gapZ s.data.toList j) 200).2.1]) ∧ LkA W w' D s (wdV s (runF gapZ s.data.toList j) 200).2.2) := fun W j h hj => wordV22 s j D 200 W h hj hs
  have HPs : Hid (∀ W j (K : Int), Rx W D s j → j ≤ s.size → Calls Tryd.prog 48 #[.pointer (some ⟨D, 0, none⟩), .int .i64 K] W fun e w' => e = .returned (.bool (lkF s (runF gapZ s.data.toList j) == K)) ∧ LkA W w' D s (psA s (runF gapZ s.data.toList j) K)) := fun W j K h hj => pass22 s j D K W h hj hs
  have HOp : Hid (∀ W j, Rx W D s j → OpT W → j ≤ s.size → Calls Tryd.prog 49 #[.pointer (some ⟨D, 0, none⟩)] W fun e w' => e = .returned (.tuple #[.int .i64 (oprF s (runF gapZ s.data.toList j)).1, .int .i64 (oprF s (runF gapZ s.data.toList j)).2.1]) ∧ LkA W w' D s (oprF s (runF gapZ s.data.toList j)).2.2) := fun W j h ht hj => operator22 s j D W h ht hj hs
  have HDN : Hid (D ≠ w.heap.size) := by have := hR.lt; show ¬ _ = _; omega
  have HN : Hid (w.heap.size ≤ w.heap.size) := Nat.le_refl _
  have HS0 : Hid (SR w (w.alloc (.cells #[.string ⟨#[]⟩, .int .i64 0, .string ⟨#[]⟩] 34)) D s k w.heap.size) := by
    have hb : Below w.heap.size w (w.alloc (.cells #[.string ⟨#[]⟩, .int .i64 0, .string ⟨#[]⟩] 34)) := Below.alloc (Below.refl _ _) (Nat.le_refl _) _
    exact ⟨⟨hR.blw hb, gr_b22 hb⟩, Rq.newS _ _ _ _ _ rfl, hT.blw hb⟩
  clear hR hT
  obtain ⟨a, ha⟩ : ∃ a, a = runF gapZ s.data.toList k := ⟨_, rfl⟩
  rw [← ha] at hRr
  have has : a ≤ s.size := by rw [ha]; exact (HRl.out _ _ hk).2
  obtain ⟨hat, hts⟩ := HRl.out wrdZ a has
  have HR1 : Hid (R = if runF wrdZ s.data.toList a = a then noR 220 a else if rnmF (s.extract a (runF wrdZ s.data.toList a)).data.toList = false then noR 230 a else onA s (s.extract a (runF wrdZ s.data.toList a)) (runF gapZ s.data.toList (runF wrdZ s.data.toList a))) := hRr
  have HW1 : Hid (wdN s a 230 = if runF wrdZ s.data.toList a = a then (⟨#[]⟩, 220, a) else if rnmF (s.extract a (runF wrdZ s.data.toList a)).data.toList = false then (⟨#[]⟩, 230, a) else (s.extract a (runF wrdZ s.data.toList a), 0, runF wrdZ s.data.toList a)) := rfl
  have HC1 : Hid (Calls Tryd.prog 47 #[.pointer (some ⟨D, 0, none⟩), .func (.func 28) #[] #[], .int .i64 230] (w.alloc (.cells #[.string ⟨#[]⟩, .int .i64 0, .string ⟨#[]⟩] 34)) fun e w' => e = .returned (.tuple #[.string (wdN s a 230).1, .int .i64 (wdN s a 230).2.1]) ∧ LkA (w.alloc (.cells #[.string ⟨#[]⟩, .int .i64 0, .string ⟨#[]⟩] 34)) w' D s (wdN s a 230).2.2) := by
    rw [ha]; exact HWN.out _ _ HS0.out.x.1 hk
  clear hRr ha HWN hk
  generalize wdN s a 230 = r1 at *
  generalize runF wrdZ s.data.toList a = t at *
  generalize s.extract a t = n at *
  go_enter Tryd.func32, Tryd.ntmps32
  go_wp2_with fail
  generalize w.alloc (.cells #[.string ⟨#[]⟩, .int .i64 0, .string ⟨#[]⟩] 34) = W0 at *
  refine HC1.out.mono ?_
  rintro e w1 ⟨rfl, h1⟩
  have HS1 : Hid (SR w w1 D s r1.2.2 w.heap.size) := HS0.out.step22 HDN.out h1
  clear h1 HC1 HS0
  by_cases c1 : t = a ∨ rnmF n.data.toList = false
  · obtain ⟨er, her0, hr1, hRe⟩ : ∃ er : Int, er ≠ 0 ∧ r1 = (⟨#[]⟩, er, a) ∧ R = noR er a := by
      by_cases e1 : t = a
      · exact ⟨220, by decide, by rw [HW1.out, if_pos e1], by rw [HR1.out, if_pos e1]⟩
      · have e2 : rnmF n.data.toList = false := by rcases c1 with c1 | c1; exact absurd c1 e1; exact c1
        exact ⟨230, by decide, by rw [HW1.out, if_neg e1, if_pos e2], by rw [HR1.out, if_neg e1, if_pos e2]⟩
    have HE : Hid (R = noR er a) := hRe
    subst hr1
    have hb : (er != 0) = true := by simpa using her0
    have HE0 : Hid (er ≠ 0) := her0
    clear c1 HW1 HR1 hRe her0
    have hD := HS1.out.b.lt
    have f0 := HS1.out.b.f 0
    have f1 := HS1.out.b.f 1
    have f2 := HS1.out.b.f 2
    have q0 := HS1.out.b.c0
    have q1 := HS1.out.b.c1
    have q2 := HS1.out.b.c2
    go_wp2
    have Z : Hid (Rq (st3 w1 w.heap.size ⟨#[]⟩ (0) ⟨#[]⟩) w.heap.size ⟨#[]⟩ (0) ⟨#[]⟩) := st3_q HS1.out.b
    have ZL : Hid (LkA w (st3 w1 w.heap.size ⟨#[]⟩ (0) ⟨#[]⟩) D s (a)) := st3_l HS1.out.x HN.out HDN.out _ _ _
    refine bodyPost_ret (ret_r2 rfl rfl Z.out) rfl ?_
    exact ⟨⟨#[]⟩, 0, ⟨#[]⟩, a, by rw [HE.out]; rfl, ZL.out, has, (fun z => by rw [HE.out] at z; exact absurd z HE0.out), (fun _ => by rw [HE.out]; rfl)⟩
  have e1 : ¬ t = a := fun h => c1 (.inl h)
  have e2 : rnmF n.data.toList = true := by cases h : rnmF n.data.toList; exact absurd (.inr h) c1; rfl
  have hr1 : r1 = (n, 0, t) := by rw [HW1.out, if_neg e1, if_neg (by rw [e2]; simp)]
  have HR2 : Hid (R = onA s n (runF gapZ s.data.toList t)) := by show _ = _; rw [HR1.out, if_neg e1, if_neg (by rw [e2]; simp)]
  subst hr1
  have HS2 : Hid (SR w w1 D s t w.heap.size) := HS1.out
  clear c1 e1 e2 HW1 HR1 HS1
  have HC2 : Hid (Calls Tryd.prog 48 #[.pointer (some ⟨D, 0, none⟩), .int .i64 4] w1 fun e w' => e = .returned (.bool (lkF s (runF gapZ s.data.toList t) == 4)) ∧ LkA w1 w' D s (psA s (runF gapZ s.data.toList t) 4)) := HPs.out w1 t 4 HS2.out.x.1 hts
  obtain ⟨htb, hbs⟩ := HRl.out gapZ t hts
  have HSt : Hid (runF gapZ s.data.toList (runF gapZ s.data.toList t) = runF gapZ s.data.toList t) := runF_stop hts
  generalize runF gapZ s.data.toList t = b at *
  have HPb : Hid (psA s b 4 = if lkF s b = 4 then b + 1 else b) := rfl
  have hL4 : lkF s b = 4 ↔ atB s b = 40 := lk_at kd_4 (by decide) (by decide)
  have hb0 : ((0 : Int) != 0) = false := rfl
  by_cases c2 : atB s b = 40
  rotate_left
  · have hl : ¬ lkF s b = 4 := fun h => c2 (hL4.1 h)
    have hb4 : (lkF s b == 4) = false := by simpa using hl
    have hpq : psA s b 4 = b := by rw [HPb.out, if_neg hl]
    rw [hb4, hpq] at HC2
    have HE : Hid (R = ⟨n, 0, ⟨#[]⟩, 0, b⟩) := by show _ = _; rw [HR2.out, onA, if_neg c2]
    clear HR2 HPb hL4 c2 hl hb4 hpq
    go_wp2_with fail
    refine HC2.out.mono ?_
    rintro e w2 ⟨rfl, h2⟩
    have HS3 : Hid (SR w w2 D s b w.heap.size) := HS2.out.step22 HDN.out h2
    clear h2 HC2 HS2
    have hD := HS3.out.b.lt
    have f0 := HS3.out.b.f 0
    have f1 := HS3.out.b.f 1
    have f2 := HS3.out.b.f 2
    have q0 := HS3.out.b.c0
    have q1 := HS3.out.b.c1
    have q2 := HS3.out.b.c2
    go_wp2
    have Z : Hid (Rq (st3 w2 w.heap.size n (0) ⟨#[]⟩) w.heap.size n (0) ⟨#[]⟩) := st3_q HS3.out.b
    have ZL : Hid (LkA w (st3 w2 w.heap.size n (0) ⟨#[]⟩) D s (b)) := st3_l HS3.out.x HN.out HDN.out _ _ _
    refine bodyPost_ret (ret_r2 rfl rfl Z.out) rfl ?_
    exact ⟨n, 0, ⟨#[]⟩, b, by rw [HE.out]; rfl, ZL.out, hbs, (fun _ => by rw [HE.out]; exact ⟨rfl, rfl, rfl, HSt.out⟩), (fun z => by rw [HE.out] at z; exact absurd rfl z)⟩
  have hl : lkF s b = 4 := hL4.2 c2
  have hb4 : (lkF s b == 4) = true := by simpa using hl
  have hpq : psA s b 4 = b + 1 := by rw [HPb.out, if_pos hl]
  rw [hb4, hpq] at HC2
  have hblt : b < s.size := by
    apply Classical.byContradiction
    intro hn; rw [atB_out hn] at c2; cases c2
  have HR3 : Hid (R = onB s n (runF gapZ s.data.toList (b + 1))) := by show _ = _; rw [HR2.out, onA, if_pos c2]
  clear HR2 HPb hL4 c2 hl hb4 hpq HSt
  go_wp2_with fail
  refine HC2.out.mono ?_
  rintro e w2 ⟨rfl, h2⟩
  have HS3 : Hid (SR w w2 D s (b + 1) w.heap.size) := HS2.out.step22 HDN.out h2
  clear h2 HC2 HS2
  have HC3 : Hid (Calls Tryd.prog 49 #[.pointer (some ⟨D, 0, none⟩)] w2 fun e w' => e = .returned (.tuple #[.int .i64 (oprF s (runF gapZ s.data.toList (b + 1))).1, .int .i64 (oprF s (runF gapZ s.data.toList (b + 1))).2.1]) ∧ LkA w2 w' D s (oprF s (runF gapZ s.data.toList (b + 1))).2.2) := HOp.out w2 (b + 1) HS3.out.x.1 HS3.out.t hblt
  obtain ⟨hbd, hds⟩ := HRl.out gapZ (b + 1) hblt
  generalize runF gapZ s.data.toList (b + 1) = d at *
  obtain ⟨hdc, hcs⟩ := HRl.out sgnZ d hds
  have HW2 : Hid (oprF s d = if opF (s.extract d (runF sgnZ s.data.toList d)) = 0 then (0, 220, d) else (opF (s.extract d (runF sgnZ s.data.toList d)), 0, runF sgnZ s.data.toList d)) := rfl
  have HR4 : Hid (R = if opF (s.extract d (runF sgnZ s.data.toList d)) = 0 then noR 220 d else onC s n (opF (s.extract d (runF sgnZ s.data.toList d))) (runF gapZ s.data.toList (runF sgnZ s.data.toList d))) := HR3.out
  clear HR3 HOp
  generalize oprF s d = r2 at *
  generalize runF sgnZ s.data.toList d = c at *
  generalize opF (s.extract d c) = O at *
  go_wp2_with fail
  refine HC3.out.mono ?_
  rintro e w3 ⟨rfl, h3⟩
  have HS4 : Hid (SR w w3 D s r2.2.2 w.heap.size) := HS3.out.step22 HDN.out h3
  clear h3 HC3 HS3
  by_cases c3 : O = 0
  · have hr2 : r2 = (0, 220, d) := by rw [HW2.out, if_pos c3]
    have HE : Hid (R = noR 220 d) := by show _ = _; rw [HR4.out, if_pos c3]
    subst hr2
    have hb : ((220 : Int) != 0) = true := rfl
    have HE0 : Hid ((220 : Int) ≠ 0) := show (220 : Int) ≠ 0 by decide
    clear HW2 HR4 c3
    have hD := HS4.out.b.lt
    have f0 := HS4.out.b.f 0
    have f1 := HS4.out.b.f 1
    have f2 := HS4.out.b.f 2
    have q0 := HS4.out.b.c0
    have q1 := HS4.out.b.c1
    have q2 := HS4.out.b.c2
    go_wp2
    have Z : Hid (Rq (st3 w3 w.heap.size ⟨#[]⟩ (0) ⟨#[]⟩) w.heap.size ⟨#[]⟩ (0) ⟨#[]⟩) := st3_q HS4.out.b
    have ZL : Hid (LkA w (st3 w3 w.heap.size ⟨#[]⟩ (0) ⟨#[]⟩) D s (d)) := st3_l HS4.out.x HN.out HDN.out _ _ _
    refine bodyPost_ret (ret_r2 rfl rfl Z.out) rfl ?_
    exact ⟨⟨#[]⟩, 0, ⟨#[]⟩, d, by rw [HE.out]; rfl, ZL.out, hds, (fun z => by rw [HE.out] at z; exact absurd z HE0.out), (fun _ => by rw [HE.out]; rfl)⟩
  have hr2 : r2 = (O, 0, c) := by rw [HW2.out, if_neg c3]
  have HR5 : Hid (R = onC s n O (runF gapZ s.data.toList c)) := by show _ = _; rw [HR4.out, if_neg c3]
  subst hr2
  have HS5 : Hid (SR w w3 D s c w.heap.size) := HS4.out
  clear HW2 HR4 c3 HS4
  have HC4 : Hid (Calls Tryd.prog 47 #[.pointer (some ⟨D, 0, none⟩), .func (.func 38) #[] #[], .int .i64 200] w3 fun e w' => e = .returned (.tuple #[.string (wdV s (runF gapZ s.data.toList c) 200).1, .int .i64 (wdV s (runF gapZ s.data.toList c) 200).2.1]) ∧ LkA w3 w' D s (wdV s (runF gapZ s.data.toList c) 200).2.2) := HWV.out w3 c HS5.out.x.1 hcs
  obtain ⟨hcg, hgs⟩ := HRl.out gapZ c hcs
  generalize runF gapZ s.data.toList c = g at *
  obtain ⟨hgf, hfs⟩ := HRl.out wrdZ g hgs
  have HW3 : Hid (wdV s g 200 = if runF wrdZ s.data.toList g = g then (⟨#[]⟩, 220, g) else if okS (s.extract g (runF wrdZ s.data.toList g)) = false then (⟨#[]⟩, 200, g) else (s.extract g (runF wrdZ s.data.toList g), 0, runF wrdZ s.data.toList g)) := rfl
  have HR6 : Hid (R = if runF wrdZ s.data.toList g = g then noR 220 g else if okS (s.extract g (runF wrdZ s.data.toList g)) = false then noR 200 g else onD s n O (s.extract g (runF wrdZ s.data.toList g)) (runF gapZ s.data.toList (runF wrdZ s.data.toList g))) := HR5.out
  clear HR5 HWV
  generalize wdV s g 200 = r3 at *
  generalize runF wrdZ s.data.toList g = f at *
  generalize s.extract g f = v at *
  go_wp2_with fail
  refine HC4.out.mono ?_
  rintro e w4 ⟨rfl, h4⟩
  have HS6 : Hid (SR w w4 D s r3.2.2 w.heap.size) := HS5.out.step22 HDN.out h4
  clear h4 HC4 HS5
  by_cases c4 : f = g ∨ okS v = false
  · obtain ⟨er, her0, hr3, hRe⟩ : ∃ er : Int, er ≠ 0 ∧ r3 = (⟨#[]⟩, er, g) ∧ R = noR er g := by
      by_cases e1 : f = g
      · exact ⟨220, by decide, by rw [HW3.out, if_pos e1], by rw [HR6.out, if_pos e1]⟩
      · have e2 : okS v = false := by rcases c4 with c4 | c4; exact absurd c4 e1; exact c4
        exact ⟨200, by decide, by rw [HW3.out, if_neg e1, if_pos e2], by rw [HR6.out, if_neg e1, if_pos e2]⟩
    have HE : Hid (R = noR er g) := hRe
    subst hr3
    have hb : (er != 0) = true := by simpa using her0
    have HE0 : Hid (er ≠ 0) := her0
    clear c4 HW3 HR6 hRe her0
    have hD := HS6.out.b.lt
    have f0 := HS6.out.b.f 0
    have f1 := HS6.out.b.f 1
    have f2 := HS6.out.b.f 2
    have q0 := HS6.out.b.c0
    have q1 := HS6.out.b.c1
    have q2 := HS6.out.b.c2
    go_wp2
    have Z : Hid (Rq (st3 w4 w.heap.size ⟨#[]⟩ (0) ⟨#[]⟩) w.heap.size ⟨#[]⟩ (0) ⟨#[]⟩) := st3_q HS6.out.b
    have ZL : Hid (LkA w (st3 w4 w.heap.size ⟨#[]⟩ (0) ⟨#[]⟩) D s (g)) := st3_l HS6.out.x HN.out HDN.out _ _ _
    refine bodyPost_ret (ret_r2 rfl rfl Z.out) rfl ?_
    exact ⟨⟨#[]⟩, 0, ⟨#[]⟩, g, by rw [HE.out]; rfl, ZL.out, hgs, (fun z => by rw [HE.out] at z; exact absurd z HE0.out), (fun _ => by rw [HE.out]; rfl)⟩
  have e1 : ¬ f = g := fun h => c4 (.inl h)
  have e2 : okS v = true := by cases h : okS v; exact absurd (.inr h) c4; rfl
  have hr3 : r3 = (v, 0, f) := by rw [HW3.out, if_neg e1, if_neg (by rw [e2]; simp)]
  have HR7 : Hid (R = onD s n O v (runF gapZ s.data.toList f)) := by show _ = _; rw [HR6.out, if_neg e1, if_neg (by rw [e2]; simp)]
  subst hr3
  have HS7 : Hid (SR w w4 D s f w.heap.size) := HS6.out
  clear c4 e1 e2 HW3 HR6 HS6
  have HC5 : Hid (Calls Tryd.prog 48 #[.pointer (some ⟨D, 0, none⟩), .int .i64 5] w4 fun e w' => e = .returned (.bool (lkF s (runF gapZ s.data.toList f) == 5)) ∧ LkA w4 w' D s (psA s (runF gapZ s.data.toList f) 5)) := HPs.out w4 f 5 HS7.out.x.1 hfs
  obtain ⟨hfh, hhs⟩ := HRl.out gapZ f hfs
  generalize runF gapZ s.data.toList f = h at *
  have HPh : Hid (psA s h 5 = if lkF s h = 5 then h + 1 else h) := rfl
  have hL5 : lkF s h = 5 ↔ atB s h = 41 := lk_at kd_5 (by decide) (by decide)
  by_cases c5 : atB s h = 41
  rotate_left
  · have hl : ¬ lkF s h = 5 := fun q => c5 (hL5.1 q)
    have hb5 : (lkF s h == 5) = false := by simpa using hl
    have hpq : psA s h 5 = h := by rw [HPh.out, if_neg hl]
    rw [hb5, hpq] at HC5
    have HE : Hid (R = noR 220 h) := by show _ = _; rw [HR7.out, onD, if_neg c5]
    have HE0 : Hid ((220 : Int) ≠ 0) := show (220 : Int) ≠ 0 by decide
    clear HR7 HPh hL5 c5 hl hb5 hpq
    go_wp2_with fail
    refine HC5.out.mono ?_
    rintro e w5 ⟨rfl, h5⟩
    have HS8 : Hid (SR w w5 D s h w.heap.size) := HS7.out.step22 HDN.out h5
    clear h5 HC5 HS7
    have hD := HS8.out.b.lt
    have f0 := HS8.out.b.f 0
    have f1 := HS8.out.b.f 1
    have f2 := HS8.out.b.f 2
    have q0 := HS8.out.b.c0
    have q1 := HS8.out.b.c1
    have q2 := HS8.out.b.c2
    go_wp2
    have Z : Hid (Rq (st3 w5 w.heap.size ⟨#[]⟩ (0) ⟨#[]⟩) w.heap.size ⟨#[]⟩ (0) ⟨#[]⟩) := st3_q HS8.out.b
    have ZL : Hid (LkA w (st3 w5 w.heap.size ⟨#[]⟩ (0) ⟨#[]⟩) D s (h)) := st3_l HS8.out.x HN.out HDN.out _ _ _
    refine bodyPost_ret (ret_r2 rfl rfl Z.out) rfl ?_
    exact ⟨⟨#[]⟩, 0, ⟨#[]⟩, h, by rw [HE.out]; rfl, ZL.out, hhs, (fun z => by rw [HE.out] at z; exact absurd z HE0.out), (fun _ => by rw [HE.out]; rfl)⟩
  have hl : lkF s h = 5 := hL5.2 c5
  have hb5 : (lkF s h == 5) = true := by simpa using hl
  have hpq : psA s h 5 = h + 1 := by rw [HPh.out, if_pos hl]
  rw [hb5, hpq] at HC5
  have hhlt : h < s.size := by
    apply Classical.byContradiction
    intro hn; rw [atB_out hn] at c5; cases c5
  have HE : Hid (R = ⟨n, O, v, 0, runF gapZ s.data.toList (h + 1)⟩) := by show _ = _; rw [HR7.out, onD, if_pos c5]
  clear HR7 HPh hL5 c5 hl hb5 hpq
  go_wp2_with fail
  refine HC5.out.mono ?_
  rintro e w5 ⟨rfl, h5⟩
  have HS8 : Hid (SR w w5 D s (h + 1) w.heap.size) := HS7.out.step22 HDN.out h5
  clear h5 HC5 HS7
  have hD := HS8.out.b.lt
  have f0 := HS8.out.b.f 0
  have f1 := HS8.out.b.f 1
  have f2 := HS8.out.b.f 2
  have q0 := HS8.out.b.c0
  have q1 := HS8.out.b.c1
  have q2 := HS8.out.b.c2
  go_wp2
  have Z : Hid (Rq (st3 w5 w.heap.size n (O) v) w.heap.size n (O) v) := st3_q HS8.out.b
  have ZL : Hid (LkA w (st3 w5 w.heap.size n (O) v) D s (h + 1)) := st3_l HS8.out.x HN.out HDN.out _ _ _
  refine bodyPost_ret (ret_r2 rfl rfl Z.out) rfl ?_
  exact ⟨n, O, v, h + 1, by rw [HE.out]; rfl, ZL.out, hhlt, (fun _ => by rw [HE.out]; exact ⟨rfl, rfl, rfl, rfl⟩), (fun z => by rw [HE.out] at z; exact absurd rfl z)⟩

end Go.Proofs.YtmfcaoacklbkoaaDoor
