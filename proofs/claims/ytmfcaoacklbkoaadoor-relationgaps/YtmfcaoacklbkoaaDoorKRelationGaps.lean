/-
  RelationGaps.
  KEEP: walk lisF LsAns OwnR OwnRs off c0 c1 c2 c3 c4 s0 s1 s2 s3 s4 newS rds lt f t q x len below nil form rd mono on app start at new trans refl kept own row out grown rdz set one more size cell some none letL tail next step go add put del get look no yes e c b k n m box rd22 at22 below22 RdR RdRs
-/
import Derived.Test.YtmfcaoacklbkoaaDoorJRlO
import Derived.Test.YtmfcaoacklbkoaaDoorKRmF
import Derived.Test.YtmfcaoacklbkoaaDoorKRnS
import Derived.Test.YtmfcaoacklbkoaaDoorJRlF
import Derived.Test.YtmfcaoacklbkoaaDoorKRnI
set_option linter.unusedSimpArgs false
set_option linter.unusedVariables false
namespace Go.Proofs.YtmfcaoacklbkoaaDoor
open Go Go.RowKit
namespace relationGaps

/-- the place that is picked out of four -/
def pkG (z : Int) : Nat := (if z.tmod 4 < 0 then z.tmod 4 + 4 else z.tmod 4).toNat
theorem pkG_lt (z : Int) : pkG z < 4 := by
  have h1 : z.tmod 4 < 4 := Int.tmod_lt_of_pos z (by omega)
  unfold pkG; split <;> omega
theorem pickG (z : Int) (w : World) : Calls Tryd.prog 17 #[.int .i64 z, .int .i64 4] w fun e w' => e = .returned (.int .i64 (pkG z)) ∧ w' = w := by
  have h1 : z.tmod 4 < 4 := Int.tmod_lt_of_pos z (by omega)
  have h2 : -4 < z.tmod 4 := by
    have := Int.tmod_lt_of_pos (-z) (show (0 : Int) < 4 by omega)
    rw [Int.neg_tmod] at this; omega
  have hwr : IntKind.i64.wrap (z.tmod 4) = z.tmod 4 := by rw [IntKind.wrap_i64]; omega
  have hsm : wrap64 (z.tmod 4 + 4) = z.tmod 4 + 4 := by unfold wrap64; omega
  have HE : Hid ((pkG z : Int) = if z.tmod 4 < 0 then z.tmod 4 + 4 else z.tmod 4) := by show _ = _; unfold pkG; split <;> omega
  rw [HE.out]
  by_cases hn : z.tmod 4 < 0
  · rw [if_pos hn]
    go_enter Tryd.func17, Tryd.ntmps17
    go_wp2
    go_ret
    exact ⟨by first | rfl | (simp [hsm]; done), rfl⟩
  · rw [if_neg hn]
    go_enter Tryd.func17, Tryd.ntmps17
    go_wp2
    go_ret
    exact ⟨rfl, rfl⟩
/-- a gap that is put in -/
def gpB (g : ByteArray) : Prop := g.size ≤ 4 ∧ g.data.toList ≠ [] ∧ ∀ b ∈ g.data.toList, gapZ b.toNat = true
theorem gp0 : gpB ⟨#[32]⟩ := ⟨by decide, by decide, by decide⟩
theorem gp1 : gpB ⟨#[9]⟩ := ⟨by decide, by decide, by decide⟩
theorem gp2 : gpB ⟨#[10]⟩ := ⟨by decide, by decide, by decide⟩
theorem gp3 : gpB ⟨#[32, 10, 9, 32]⟩ := ⟨by decide, by decide, by decide⟩
theorem lstF_bad {s : ByteArray} {bars : Bool} {p : Int × Int} (h : lstF s bars = .error p) : p.1 ≠ 0 ∧ 0 ≤ p.2 ∧ p.2 ≤ s.size := by
  unfold lstF at h
  split at h
  · cases h
  · have := lst_bad _ _ _ _ _ (runF_le22 gapZ s (Nat.zero_le _)) h
    exact ⟨this.1, by omega, this.2.2⟩
/-- Read of a text that is read as these lists -/
theorem read_ok {s : ByteArray} {l : List (List Rl)} (h : lstF s true = .ok l) (hs : s.size ≤ 1099511627776) (V : World) (hT : OpT V) :
    Calls Tryd.prog 8 #[.string s] V fun e w' => ∃ a c, e = .returned (.tuple #[.slice a l.length c, .int .i64 0, .int .i64 0]) ∧ RdRs w' (.slice a l.length c) l ∧ Below V.heap.size V w' :=
  (pRead22 s V hT hs).mono fun e w' q => by
    have q2 := ls_rd22 q hs
    rw [h] at q2
    obtain ⟨v, L, q1, _, _, q4, q5⟩ := q2
    obtain ⟨a, c, rfl, -, -, -⟩ := q4.at22
    exact ⟨a, c, q1, q4, q5⟩
theorem read_bad {s : ByteArray} {p : Int × Int} (h : lstF s true = .error p) (hs : s.size ≤ 1099511627776) (V : World) (hT : OpT V) :
    Calls Tryd.prog 8 #[.string s] V fun e w' => ∃ a c, e = .returned (.tuple #[.slice a 0 c, .int .i64 p.1, .int .i64 p.2]) ∧ Below V.heap.size V w' :=
  (pRead22 s V hT hs).mono fun e w' q => by
    have q2 := ls_rd22 q hs
    rw [h] at q2
    obtain ⟨v, L, q1, _, _, q4, q5⟩ := q2
    obtain ⟨a, c, rfl, -, -, -⟩ := q4.at22
    exact ⟨a, c, q1, q5⟩
set_option maxHeartbeats 6400000 in
set_option maxRecDepth 100000 in
theorem walk (s : ByteArray) (kd : Int) (W : World) (hkd : (Lit.int IntKind.i64 kd).wf = true) (hs : s.size ≤ 281474976710656) (hT : OpT W) :
    Calls Tryd.prog 5 #[.string s, .int .i64 kd] W fun e W' => e = .returned (.bool true) ∧ Below W.heap.size W W' := by
  by_cases hbig : 4000 < s.size
  · have d1 : decide ((s.size : Int) > 4000) = true := by simp; omega
    go_enter Tryd.func5, Tryd.ntmps5
    go_wp2
    go_ret
    exact ⟨rfl, Below.refl _ _⟩
  have d1 : ¬ (s.size : Int) > 4000 := by omega
  have hs4 : s.size ≤ 4000 := by omega
  have HT : Hid (∀ V, Below W.heap.size W V → OpT V) := fun V h => hT.blw h
  have HA : Hid (∀ V, OpT V → Calls Tryd.prog 8 #[.string ⟨#[97, 97]⟩] V fun e w' => ∃ a c, e = .returned (.tuple #[.slice a 1 c, .int .i64 0, .int .i64 0]) ∧ Below V.heap.size V w') := fun V h => by
    refine (read_ok num_f (by decide) V h).mono ?_
    rintro e w' ⟨a, c, q1, _, q3⟩
    exact ⟨a, c, q1, q3⟩
  obtain ⟨j, hj⟩ : ∃ j, j = pkG kd := ⟨_, rfl⟩
  have HPk : Hid (∀ V, Calls Tryd.prog 17 #[.int .i64 kd, .int .i64 4] V fun e w' => e = .returned (.int .i64 j) ∧ w' = V) := fun V => by rw [hj]; exact pickG kd V
  have hj4 : j < 4 := by rw [hj]; exact pkG_lt kd
  clear hj hbig hs hT hkd
  go_enter Tryd.func5, Tryd.ntmps5
  go_upto_region 4 with fail
  have HBa : Hid (Below W.heap.size W (W.alloc (.cells #[.string ⟨#[32]⟩, .string ⟨#[9]⟩, .string ⟨#[10]⟩, .string ⟨#[32, 10, 9, 32]⟩] 9))) := Below.alloc (Below.refl _ _) (Nat.le_refl _) _
  have e0 := World.alloc_heap_new W (.cells #[.string ⟨#[32]⟩, .string ⟨#[9]⟩, .string ⟨#[10]⟩, .string ⟨#[32, 10, 9, 32]⟩] 9)
  have c0 := cell_of22 e0 0
  have c1 := cell_of22 e0 1
  have c2 := cell_of22 e0 2
  have c3 := cell_of22 e0 3
  clear e0
  generalize W.alloc (.cells #[.string ⟨#[32]⟩, .string ⟨#[9]⟩, .string ⟨#[10]⟩, .string ⟨#[32, 10, 9, 32]⟩] 9) = W1 at *
  go_cut [6] from 28 to 34 (fun p wx => ∃ g, p = .string g ∧ Hid (gpB g) ∧ Hid (Below W.heap.size W wx))
  case first =>
    rcases (show j = 0 ∨ j = 1 ∨ j = 2 ∨ j = 3 by omega) with rfl | rfl | rfl | rfl
    · go_wp2_with fail
      refine (HPk.out _).mono ?_
      rintro e w9 ⟨rfl, h9⟩
      have h9s := h9.symm
      clear h9
      subst h9s
      go_wp2_with fail
      go_meet
      exact ⟨_, rfl, gp0, by first | exact HBa.out | exact HBa.out.drew⟩
    · go_wp2_with fail
      refine (HPk.out _).mono ?_
      rintro e w9 ⟨rfl, h9⟩
      have h9s := h9.symm
      clear h9
      subst h9s
      go_wp2_with fail
      go_meet
      exact ⟨_, rfl, gp1, by first | exact HBa.out | exact HBa.out.drew⟩
    · go_wp2_with fail
      refine (HPk.out _).mono ?_
      rintro e w9 ⟨rfl, h9⟩
      have h9s := h9.symm
      clear h9
      subst h9s
      go_wp2_with fail
      go_meet
      exact ⟨_, rfl, gp2, by first | exact HBa.out | exact HBa.out.drew⟩
    · go_wp2_with fail
      refine (HPk.out _).mono ?_
      rintro e w9 ⟨rfl, h9⟩
      have h9s := h9.symm
      clear h9
      subst h9s
      go_wp2_with fail
      go_meet
      exact ⟨_, rfl, gp3, by first | exact HBa.out | exact HBa.out.drew⟩
  case rest =>
    obtain ⟨g, rfl, HGp, HB0⟩ := hcut
    clear c0 c1 c2 c3 HBa HPk hj4
    cases hR : lstF s true with
    | error p =>
      have hp := lstF_bad hR
      have HP : Hid (∀ V, OpT V → Calls Tryd.prog 8 #[.string s] V fun e w' => ∃ a c, e = .returned (.tuple #[.slice a 0 c, .int .i64 p.1, .int .i64 p.2]) ∧ Below V.heap.size V w') := fun V h => read_bad hR (by omega) V h
      have q1 : (p.1 != 0) = true := by simpa using hp.1
      have q2 : decide (p.2 ≥ 0) = true := by simpa using hp.2.1
      have q3 : decide (p.2 ≤ (s.size : Int)) = true := by simpa using hp.2.2
      clear hp hR HGp
      generalize p.1 = E at *
      generalize p.2 = Q at *
      go_wp2_with fail
      refine (HP.out _ (HT.out _ HB0.out)).mono ?_
      rintro e w1 ⟨a1, k1, rfl, b1⟩
      have HB1 : Hid (Below W.heap.size W w1) := HB0.out.trans (b1.mono HB0.out.size)
      clear b1 HP HB0
      go_wp2_with fail
      refine (HA.out _ (HT.out _ HB1.out)).mono ?_
      rintro e w2 ⟨a2, k2, rfl, b2⟩
      have HB2 : Hid (Below W.heap.size W w2) := HB1.out.trans (b2.mono HB1.out.size)
      clear b2 HA HB1
      go_wp2
      go_ret
      exact ⟨rfl, HB2.out⟩
    | ok l =>
      have HP : Hid (∀ V, OpT V → Calls Tryd.prog 8 #[.string s] V fun e w' => ∃ a c, e = .returned (.tuple #[.slice a l.length c, .int .i64 0, .int .i64 0]) ∧ RdRs w' (.slice a l.length c) l ∧ Below V.heap.size V w') := fun V h => read_ok hR (by omega) V h
      have HGd : Hid (∀ V, Calls Tryd.prog 18 #[.string s, .string g] V fun e w' => ∃ R : ByteArray, e = .returned (.string R) ∧ (lstF R true = .ok l ∧ R.size ≤ 1048576) ∧ Below V.heap.size V w') := fun V => by
        refine (gapped22 s g V hs4 HGp.out.1).mono ?_
        rintro e w' ⟨R, h1, h2, h3, h4⟩
        refine ⟨R, h1, ⟨lst_same ?_ hR, h3⟩, h4⟩
        rw [h2, tk_gapped _ _ HGp.out.2.2 HGp.out.2.1]
      have HBr : Hid (∀ V, Calls Tryd.prog 19 #[.string s] V fun e w' => ∃ R : ByteArray, e = .returned (.string R) ∧ (lstF R true = .ok l ∧ R.size ≤ 1048576) ∧ (l = [] ↔ R.data.toList = []) ∧ Below V.heap.size V w') := fun V => by
        refine (bare22 s V hs4).mono ?_
        rintro e w' ⟨R, h1, h2, h3, h4⟩
        refine ⟨R, h1, ⟨lst_same ?_ hR, h3⟩, ?_, h4⟩
        · rw [h2, tk_bare]
        · rw [h2]; exact lst_empty hR
      have HRo : Hid (∀ R V, lstF R true = .ok l ∧ R.size ≤ 1048576 → OpT V → Calls Tryd.prog 8 #[.string R] V fun e w' => ∃ a c, e = .returned (.tuple #[.slice a l.length c, .int .i64 0, .int .i64 0]) ∧ RdRs w' (.slice a l.length c) l ∧ Below V.heap.size V w') := fun R V h hT => read_ok h.1 (by omega) V hT
      obtain ⟨z1, z2, z3⟩ := read_sz hs4 hR
      have hln := lstF_len hR
      have hle := lstF_each hR
      obtain ⟨T, t1, t2⟩ := lis_some l 0 ⟨#[]⟩ z2 z3
      have ht0 : (⟨#[]⟩ : ByteArray).size = 0 := rfl
      have HRt : Hid (∀ V, OpT V → Calls Tryd.prog 8 #[.string T] V fun e w' => ∃ a c, e = .returned (.tuple #[.slice a l.length c, .int .i64 0, .int .i64 0]) ∧ RdRs w' (.slice a l.length c) l ∧ Below V.heap.size V w') := fun V hT => read_ok (lst_back t1) (by omega) V hT
      have HPw : Hid (∀ V u, OpT V → RdRs V u l → Calls Tryd.prog 10 #[u] V fun e w' => e = .returned (.tuple #[.string T, .int .i64 0]) ∧ Below V.heap.size V w') := fun V u ht h => by
        have := pWrite22 u l V h ht z1
        rw [t1] at this
        exact this
      have HCp : Hid (∀ V u, RdRs V u l → Calls Tryd.prog 12 #[u] V fun e w' => ∃ v', e = .returned v' ∧ RdRs w' v' l ∧ Below V.heap.size V w') := fun V u h => by
        refine (copies22 u l V h).mono ?_
        rintro e w' ⟨v', L, e1, e2, e3, e4⟩
        refine ⟨v', e1, ?_, e4⟩
        have h1 := e2.len22 e3
        rw [← e3]
        refine e2.rd22 (by omega) (fun x hx => ?_)
        have := hle x.2 (by rw [← e3]; exact List.mem_map.2 ⟨x, hx, rfl⟩)
        omega
      have HAl : Hid (∀ V u v, RdRs V u l → RdRs V v l → Calls Tryd.prog 16 #[u, v] V fun e w' => e = .returned (.bool true) ∧ Below V.heap.size V w') := fun V u v h1 h2 => by
        refine (alike22 u v l V h1 h2).mono ?_
        rintro e w' ⟨e1, m, e2⟩
        exact ⟨e1, by rw [e2]; exact blw_dn22 V m⟩
      have HLn : Hid (l.length = 0 ↔ l = []) := List.length_eq_zero_iff
      clear hR z1 z2 z3 t1 t2 hle HGp ht0
      obtain ⟨n, hn⟩ : ∃ n, n = l.length := ⟨_, rfl⟩
      rw [← hn] at HP HRo HRt HLn hln
      clear hn
      go_wp2_with fail
      refine (HP.out _ (HT.out _ HB0.out)).mono ?_
      rintro e w1 ⟨a1, k1, rfl, r1, b1⟩
      have HB1 : Hid (Below W.heap.size W w1) := HB0.out.trans (b1.mono HB0.out.size)
      have HR1 : Hid (∀ V, Below w1.heap.size w1 V → RdRs V (.slice a1 n k1) l) := fun V h => r1.below22 h
      have HW1 : Hid (∀ V, Below w1.heap.size w1 V → Below W.heap.size W V) := fun V h => HB1.out.trans (h.mono HB1.out.size)
      clear b1 r1 HP HB0 HB1
      go_wp2_with fail
      refine (HGd.out _).mono ?_
      rintro e w2 ⟨G, rfl, hG, b2⟩
      have HB2 : Hid (Below w1.heap.size w1 w2) := b2
      have HRg : Hid (Calls Tryd.prog 8 #[.string G] w2 fun e w' => ∃ a c, e = .returned (.tuple #[.slice a n c, .int .i64 0, .int .i64 0]) ∧ RdRs w' (.slice a n c) l ∧ Below w2.heap.size w2 w') := HRo.out G w2 hG (HT.out _ (HW1.out _ b2))
      clear b2 hG HGd
      go_wp2_with fail
      refine HRg.out.mono ?_
      rintro e w3 ⟨a3, k3, rfl, r3, b3⟩
      have HB3 : Hid (Below w1.heap.size w1 w3) := HB2.out.trans (b3.mono HB2.out.size)
      have HR3 : Hid (∀ V, Below w3.heap.size w3 V → RdRs V (.slice a3 n k3) l) := fun V h => r3.below22 h
      clear b3 r3 HRg HB2
      go_wp2_with fail
      refine (HBr.out _).mono ?_
      rintro e w4 ⟨B, rfl, hB, -, b4⟩
      have HB4 : Hid (Below w3.heap.size w3 w4) := b4
      have HRb : Hid (Calls Tryd.prog 8 #[.string B] w4 fun e w' => ∃ a c, e = .returned (.tuple #[.slice a n c, .int .i64 0, .int .i64 0]) ∧ RdRs w' (.slice a n c) l ∧ Below w4.heap.size w4 w') := HRo.out B w4 hB (HT.out _ (HW1.out _ (HB3.out.trans (b4.mono HB3.out.size))))
      clear b4 hB HRo
      go_wp2_with fail
      refine HRb.out.mono ?_
      rintro e w5 ⟨a5, k5, rfl, r5, b5⟩
      have HB53 : Hid (Below w3.heap.size w3 w5) := HB4.out.trans (b5.mono HB4.out.size)
      have HB5 : Hid (Below w1.heap.size w1 w5) := HB3.out.trans (HB53.out.mono HB3.out.size)
      have HR5 : Hid (∀ V, Below w5.heap.size w5 V → RdRs V (.slice a5 n k5) l) := fun V h => r5.below22 h
      clear b5 r5 HRb HB4
      have HA1 : Hid (Calls Tryd.prog 16 #[.slice a1 n k1, .slice a3 n k3] w5 fun e w' => e = .returned (.bool true) ∧ Below w5.heap.size w5 w') := HAl.out _ _ _ (HR1.out _ HB5.out) (HR3.out _ HB53.out)
      clear HB3 HB53 HR3
      go_wp2_with fail
      refine HA1.out.mono ?_
      rintro e w6 ⟨rfl, b6⟩
      have HB6 : Hid (Below w1.heap.size w1 w6) := HB5.out.trans (b6.mono HB5.out.size)
      have HA2 : Hid (Calls Tryd.prog 16 #[.slice a1 n k1, .slice a5 n k5] w6 fun e w' => e = .returned (.bool true) ∧ Below w6.heap.size w6 w') := HAl.out _ _ _ (HR1.out _ HB6.out) (HR5.out _ b6)
      clear b6 HB5 HR5 HA1
      go_wp2_with fail
      refine HA2.out.mono ?_
      rintro e w7 ⟨rfl, b7⟩
      have HB7 : Hid (Below w1.heap.size w1 w7) := HB6.out.trans (b7.mono HB6.out.size)
      clear b7 HB6 HA2
      have HC : Hid (Calls Tryd.prog 12 #[.slice a1 n k1] w7 fun e w' => ∃ v', e = .returned v' ∧ RdRs w' v' l ∧ Below w7.heap.size w7 w') := HCp.out _ _ (HR1.out _ HB7.out)
      clear HCp
      go_wp2_with fail
      refine HC.out.mono ?_
      rintro e w8 ⟨v8, rfl, r8, b8⟩
      have HB8 : Hid (Below w1.heap.size w1 w8) := HB7.out.trans (b8.mono HB7.out.size)
      have HPv : Hid (Calls Tryd.prog 10 #[v8] w8 fun e w' => e = .returned (.tuple #[.string T, .int .i64 0]) ∧ Below w8.heap.size w8 w') := HPw.out _ _ (HT.out _ (HW1.out _ HB8.out)) r8
      obtain ⟨a8, k8, rfl, -, -, -⟩ := r8.at22
      clear b8 r8 HC HB7 HPw
      generalize l.length = n8 at *
      go_wp2_with fail
      refine HPv.out.mono ?_
      rintro e w9 ⟨rfl, b9⟩
      have HB9 : Hid (Below w1.heap.size w1 w9) := HB8.out.trans (b9.mono HB8.out.size)
      clear b9 HPv HB8
      go_wp2_with fail
      refine (HRt.out _ (HT.out _ (HW1.out _ HB9.out))).mono ?_
      rintro e wa ⟨aa, ka, rfl, ra, ba⟩
      have HBa : Hid (Below w1.heap.size w1 wa) := HB9.out.trans (ba.mono HB9.out.size)
      have HAa : Hid (Calls Tryd.prog 16 #[.slice a1 n k1, .slice aa n ka] wa fun e w' => e = .returned (.bool true) ∧ Below wa.heap.size wa w') := HAl.out _ _ _ (HR1.out _ HBa.out) ra
      clear ba ra HRt HB9 HAl HR1
      go_wp2_with fail
      refine HAa.out.mono ?_
      rintro e wb ⟨rfl, bb⟩
      have HBb : Hid (Below w1.heap.size w1 wb) := HBa.out.trans (bb.mono HBa.out.size)
      clear bb HAa HBa
      go_wp2_with fail
      refine (HBr.out _).mono ?_
      rintro e wd ⟨X, rfl, -, hX, bd⟩
      have HBd : Hid (Below w1.heap.size w1 wd) := HBb.out.trans (bd.mono HBb.out.size)
      clear bd HBb HBr
      by_cases hl : l = []
      · have hX2 : X = ⟨#[]⟩ := ba_of22 (hX.1 hl)
        have hn0 := HLn.out.2 hl
        subst hX2
        subst hn0
        clear hX HLn hl
        go_wp2
        go_ret
        exact ⟨rfl, HW1.out _ HBd.out⟩
      · have hXn : X.data.toList ≠ [] := fun h => hl (hX.2 h)
        have hX1 : X.toList.isEmpty = false := by
          rw [ByteArray.toList_eq]
          cases h : X.data.toList with
          | nil => exact absurd h hXn
          | cons x r => rfl
        have hX2 : ¬ X.toList = [] := by simpa using hX1
        have hn1 : ¬ n = 0 := fun h => hl (HLn.out.1 h)
        have hn2 : decide ((n : Int) > 0) = true := by simp; omega
        clear hX HLn hl hXn
        go_wp2
        go_ret
        exact ⟨ret_bool (decide_eq_true (show 0 < n by omega)), HW1.out _ HBd.out⟩
end relationGaps
end Go.Proofs.YtmfcaoacklbkoaaDoor
