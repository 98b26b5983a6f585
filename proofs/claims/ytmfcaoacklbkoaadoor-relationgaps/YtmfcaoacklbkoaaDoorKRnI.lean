/-
  The law's signed, gapped, bare, Pick, walked.
  KEEP: off c0 c1 c2 c3 c4 s0 s1 s2 s3 s4 newS rds lt f t q x len below nil form rd mono on one more out step round
-/
import Derived.Test.YtmfcaoacklbkoaaDoorKRnH
set_option linter.unusedSimpArgs false
set_option linter.unusedVariables false
namespace Go.Proofs.YtmfcaoacklbkoaaDoor
open Go Go.RowKit

set_option maxHeartbeats 800000 in
theorem signed22 (z : Int) (w : World) : Calls Tryd.prog 39 #[.int .u8 z] w fun e w' => e = .returned (.bool (sgZ z)) ∧ w' = w := by
  have HP : Hid (sgZ z = (z == 44 || z == 124 || z == 40 || z == 41)) := rfl
  cases h1 : (z == 44) <;> cases h2 : (z == 124) <;> cases h3 : (z == 40) <;> cases h4 : (z == 41)
  all_goals
    go_enter Tryd.func39, Tryd.ntmps39
    go_wp2
    go_ret
    exact ⟨ret_bool (by rw [HP.out, h1, h2, h3, h4]; rfl), rfl⟩

theorem app22 (x y : ByteArray) : (x ++ y).data.toList = x.data.toList ++ y.data.toList := by simp
theorem ext_one22 {s : ByteArray} {k : Nat} (h : k < s.size) : (s.extract k (k + 1)).data.toList = [s[k]'h] := by
  have e : (s.extract k (k + 1)).data.toList = (s.data.toList.drop k).take 1 := by simp [ByteArray.data_extract]
  rw [e, drop20 h]; rfl
theorem gp_len (g : List UInt8) : ∀ l : List UInt8, (gpF g l).length ≤ l.length * (2 * g.length + 1)
  | [] => Nat.zero_le _
  | b :: r => by
    have := gp_len g r
    rw [gpF, List.length_append, List.length_cons, Nat.add_mul, Nat.one_mul]
    split
    · simp only [List.length_append, List.length_cons]; omega
    · simp only [List.length_cons, List.length_nil]; omega
theorem br_len : ∀ (l pend : List UInt8) (b : Bool), (brF pend b l).length ≤ pend.length + l.length
  | [], pend, p => Nat.zero_le _
  | b :: r, pend, p => by
    rw [brF]
    split
    · have := br_len r (pend ++ [b]) p
      simp only [List.length_append, List.length_cons, List.length_nil] at this ⊢
      omega
    · have := br_len r [] (sgZ b.toNat)
      simp only [List.length_append, List.length_cons, List.length_nil] at this ⊢
      split <;> simp <;> omega
theorem ba_of22 {x : ByteArray} {l : List UInt8} (h : x.data.toList = l) : x = ⟨l.toArray⟩ := by rw [← h, ba_l]

set_option maxHeartbeats 3200000 in
set_option maxRecDepth 20000 in
theorem gapped22 (s g : ByteArray) (w : World) (hs : s.size ≤ 4000) (hg : g.size ≤ 4) :
    Calls Tryd.prog 18 #[.string s, .string g] w fun e w' => ∃ R : ByteArray, e = .returned (.string R) ∧ R.data.toList = g.data.toList ++ gpF g.data.toList s.data.toList ++ g.data.toList ∧ R.size ≤ 1048576 ∧ Below w.heap.size w w' := by
  obtain ⟨G, hG⟩ : ∃ G, G = g.data.toList := ⟨_, rfl⟩
  have hgl : G.length = g.size := by rw [hG]; exact size20 g
  have hsl : s.data.toList.length = s.size := size20 s
  have HRl : Hid (∀ k, (gpF G (s.data.toList.drop k)).length ≤ 36000) := fun k => by
    have h1 := gp_len G (s.data.toList.drop k)
    have h2 : (s.data.toList.drop k).length ≤ 4000 := by rw [List.length_drop]; omega
    exact Nat.le_trans h1 (Nat.le_trans (Nat.mul_le_mul h2 (show 2 * G.length + 1 ≤ 9 by omega)) (by decide))
  have HR0 : Hid (G ++ gpF G s.data.toList = g.data.toList ++ gpF G (s.data.toList.drop 0)) := by show _ = _; rw [← hG, List.drop_zero]
  have HGg : Hid (g.data.toList = G) := hG.symm
  obtain ⟨R, hR⟩ : ∃ R, R = G ++ gpF G s.data.toList := ⟨_, rfl⟩
  rw [← hG]
  rw [← hR] at HR0 ⊢
  have HRz : Hid (R.length ≤ 36004) := by
    show _ ≤ _
    have := HRl.out 0
    rw [List.drop_zero] at this
    rw [hR, List.length_append]
    omega
  have HS : Hid (∀ z V, Calls Tryd.prog 39 #[.int .u8 z] V fun e w' => e = .returned (.bool (sgZ z)) ∧ w' = V) := fun z V => signed22 z V
  have hg9 : g.size ≤ 4 := hg
  clear hG hR hgl hsl hg HRl
  go_enter Tryd.func18, Tryd.ntmps18
  go_wp2
  go_loopg [5, 6] s.size (fun gg x5 i wr => ∃ (k : Nat) (o : ByteArray), k + gg = s.size ∧ i = .int .i64 k ∧ x5 = .string o ∧ Hid (R = o.data.toList ++ gpF G (s.data.toList.drop k)) ∧ Hid (Below w.heap.size w wr))
  case atStart => exact ⟨0, g, by omega, rfl, rfl, HR0.out, Below.refl _ _⟩
  case round =>
    obtain ⟨k, o, hk, rfl, rfl, HK, HB⟩ := hrel
    have HG : Hid (k + gk = s.size) := hk
    have ho : o.size ≤ 36004 := by
      have h1 := HRz.out
      rw [HK.out, List.length_append, size20] at h1
      omega
    clear HR0
    by_cases hlt : k < s.size
    · have HK2 : Hid (R = o.data.toList ++ ((if sgZ ((s[k]'hlt).toNat : Int) = true then G ++ (s[k]'hlt) :: G else [s[k]'hlt]) ++ gpF G (s.data.toList.drop (k + 1)))) := by
        show _ = _
        rw [HK.out, drop20 hlt, gpF]
      have hX := ext_one22 hlt
      have HSk : Hid (∀ V, Calls Tryd.prog 39 #[.int .u8 (((s[k]'hlt).toNat : Nat) : Int)] V fun e w' => e = .returned (.bool (sgZ ((s[k]'hlt).toNat : Int))) ∧ w' = V) := fun V => HS.out _ V
      have hXz : (s.extract k (k + 1)).size = 1 := by rw [ByteArray.size_extract]; omega
      clear hk HK
      cases hb : sgZ ((s[k]'hlt).toNat : Int)
      · rw [hb] at HSk HK2
        have k3 := cat22 o (s.extract k (k + 1)) (by omega)
        have e3 := app22 o (s.extract k (k + 1))
        rw [hX] at e3
        generalize o ++ s.extract k (k + 1) = t3 at *
        have HE : Hid (R = t3.data.toList ++ gpF G (s.data.toList.drop (k + 1))) := by
          show _ = _
          rw [HK2.out, if_neg (by simp), e3, List.append_assoc]
        clear HK2 hb hX hXz e3 ho
        go_wp2_with (go_at_call 39; refine (HSk.out _).mono ?_; rintro e w9 ⟨rfl, h9⟩; have h9s := h9.symm; clear h9; subst h9s)
        go_roundg (gk - 1)
        case measure => have := HG.out; omega
        case rel => exact ⟨k + 1, t3, by have := HG.out; omega, by first | rfl | go_num, rfl, HE.out, HB.out⟩
      · rw [hb] at HSk HK2
        have k1 := cat22 g (s.extract k (k + 1)) (by omega)
        have e1 := app22 g (s.extract k (k + 1))
        have z1 : (g ++ s.extract k (k + 1)).size = g.size + (s.extract k (k + 1)).size := ByteArray.size_append
        rw [hX] at e1
        generalize g ++ s.extract k (k + 1) = t1 at *
        have k2 := cat22 t1 g (by omega)
        have e2 := app22 t1 g
        have z2 : (t1 ++ g).size = t1.size + g.size := ByteArray.size_append
        generalize t1 ++ g = t2 at *
        have k3 := cat22 o t2 (by omega)
        have e3 := app22 o t2
        generalize o ++ t2 = t3 at *
        have HE : Hid (R = t3.data.toList ++ gpF G (s.data.toList.drop (k + 1))) := by
          show _ = _
          rw [HK2.out, if_pos rfl, e3, e2, e1, HGg.out]
          simp
        clear HK2 hb hX hXz e3 e2 e1 z1 z2 ho
        go_wp2_with (go_at_call 39; refine (HSk.out _).mono ?_; rintro e w9 ⟨rfl, h9⟩; have h9s := h9.symm; clear h9; subst h9s)
        go_roundg (gk - 1)
        case measure => have := HG.out; omega
        case rel => exact ⟨k + 1, t3, by have := HG.out; omega, by first | rfl | go_num, rfl, HE.out, HB.out⟩
    · have HE : Hid (R = o.data.toList) := by
        show _ = _
        have e : s.data.toList.drop k = [] := List.drop_eq_nil_of_le (by rw [size20]; omega)
        rw [HK.out, e]
        exact List.append_nil _
      have k3 := cat22 o g (by omega)
      have e3 := app22 o g
      have z3 : (o ++ g).size = o.size + g.size := ByteArray.size_append
      generalize o ++ g = t3 at *
      clear hk HK
      go_wp2
      go_ret
      exact ⟨t3, rfl, by rw [e3, HE.out, HGg.out], by omega, HB.out⟩

set_option maxHeartbeats 6400000 in
set_option maxRecDepth 20000 in
theorem bare22 (s : ByteArray) (w : World) (hs : s.size ≤ 4000) :
    Calls Tryd.prog 19 #[.string s] w fun e w' => ∃ R : ByteArray, e = .returned (.string R) ∧ R.data.toList = brF [] true s.data.toList ∧ R.size ≤ 1048576 ∧ Below w.heap.size w w' := by
  have hsl : s.data.toList.length = s.size := size20 s
  have HR0 : Hid (brF [] true s.data.toList = (⟨#[]⟩ : ByteArray).data.toList ++ brF (⟨#[]⟩ : ByteArray).data.toList true (s.data.toList.drop 0)) := by show _ = _; rw [List.drop_zero]; rfl
  have HRz : Hid ((brF [] true s.data.toList).length ≤ 4000) := by
    have := br_len s.data.toList [] true
    show _ ≤ _
    simp only [List.length_nil] at this
    omega
  generalize brF [] true s.data.toList = R at *
  have HS : Hid (∀ z V, Calls Tryd.prog 39 #[.int .u8 z] V fun e w' => e = .returned (.bool (sgZ z)) ∧ w' = V) := fun z V => signed22 z V
  clear hsl
  go_enter Tryd.func19, Tryd.ntmps19
  go_wp2
  go_loopg [3, 4, 5, 6] s.size (fun gg x3 x4 x5 i wr => ∃ (k : Nat) (o p : ByteArray) (b : Bool), k + gg = s.size ∧ i = .int .i64 k ∧ x3 = .string o ∧ x4 = .string p ∧ x5 = .bool b ∧ p.size ≤ k ∧ Hid (R = o.data.toList ++ brF p.data.toList b (s.data.toList.drop k)) ∧ Hid (Below w.heap.size w wr))
  case atStart => exact ⟨0, ⟨#[]⟩, ⟨#[]⟩, true, by omega, rfl, rfl, rfl, rfl, Nat.le_refl _, HR0.out, Below.refl _ _⟩
  case round =>
    obtain ⟨k, o, p, b, hk, rfl, rfl, rfl, rfl, hp, HK, HB⟩ := hrel
    have HG : Hid (k + gk = s.size) := hk
    have ho : o.size ≤ 4000 := by
      have h1 := HRz.out
      rw [HK.out, List.length_append, size20] at h1
      omega
    clear HR0
    by_cases hlt : k < s.size
    · have HK2 : Hid (R = o.data.toList ++ (if gapZ ((s[k]'hlt).toNat : Int) = true then brF (p.data.toList ++ [s[k]'hlt]) b (s.data.toList.drop (k + 1)) else (if (!b && !sgZ ((s[k]'hlt).toNat : Int)) = true then p.data.toList else []) ++ (s[k]'hlt) :: brF [] (sgZ ((s[k]'hlt).toNat : Int)) (s.data.toList.drop (k + 1)))) := by
        show _ = _
        rw [HK.out, drop20 hlt, brF]
      have hX := ext_one22 hlt
      have HSk : Hid (∀ V, Calls Tryd.prog 39 #[.int .u8 (((s[k]'hlt).toNat : Nat) : Int)] V fun e w' => e = .returned (.bool (sgZ ((s[k]'hlt).toNat : Int))) ∧ w' = V) := fun V => HS.out _ V
      have hXz : (s.extract k (k + 1)).size = 1 := by rw [ByteArray.size_extract]; omega
      have HGp : Hid (gapZ ((s[k]'hlt).toNat : Int) = (((s[k]'hlt).toNat : Int) == 32 || ((s[k]'hlt).toNat : Int) == 9 || ((s[k]'hlt).toNat : Int) == 10)) := rfl
      have HX : Hid ((s.extract k (k + 1)).data.toList = [s[k]'hlt]) := hX
      clear hk HK hX
      by_cases hgap : gapZ ((s[k]'hlt).toNat : Int) = true
      · have k3 := cat22 p (s.extract k (k + 1)) (by omega)
        have e3 := app22 p (s.extract k (k + 1))
        have z3 : (p ++ s.extract k (k + 1)).size = p.size + (s.extract k (k + 1)).size := ByteArray.size_append
        rw [HX.out] at e3
        generalize p ++ s.extract k (k + 1) = t3 at *
        have HE : Hid (R = o.data.toList ++ brF t3.data.toList b (s.data.toList.drop (k + 1))) := by
          show _ = _
          rw [HK2.out, if_pos hgap, e3]
        have hp2 : t3.size ≤ k + 1 := by omega
        have hg3 : (((s[k]'hlt).toNat : Int) == 32 || ((s[k]'hlt).toNat : Int) == 9 || ((s[k]'hlt).toNat : Int) == 10) = true := hgap
        clear HK2 hgap HX hXz e3 z3 ho HGp HSk
        cases g1 : (((s[k]'hlt).toNat : Int) == 32)
        case true =>
          clear hg3
          go_wp2
          go_roundg (gk - 1)
          case measure => have := HG.out; omega
          case rel => exact ⟨k + 1, o, t3, b, by have := HG.out; omega, by first | rfl | go_num, rfl, rfl, rfl, hp2, HE.out, HB.out⟩
        case false =>
          cases g2 : (((s[k]'hlt).toNat : Int) == 9)
          case true =>
            clear hg3
            go_wp2
            go_roundg (gk - 1)
            case measure => have := HG.out; omega
            case rel => exact ⟨k + 1, o, t3, b, by have := HG.out; omega, by first | rfl | go_num, rfl, rfl, rfl, hp2, HE.out, HB.out⟩
          case false =>
            have g3 : (((s[k]'hlt).toNat : Int) == 10) = true := by rw [g1, g2] at hg3; exact hg3
            clear hg3
            go_wp2
            go_roundg (gk - 1)
            case measure => have := HG.out; omega
            case rel => exact ⟨k + 1, o, t3, b, by have := HG.out; omega, by first | rfl | go_num, rfl, rfl, rfl, hp2, HE.out, HB.out⟩
      · have hg3 : (((s[k]'hlt).toNat : Int) == 32 || ((s[k]'hlt).toNat : Int) == 9 || ((s[k]'hlt).toNat : Int) == 10) = false := by
          cases h : gapZ ((s[k]'hlt).toNat : Int)
          · exact h
          · exact absurd h hgap
        simp only [Bool.or_eq_false_iff] at hg3
        obtain ⟨⟨g1, g2⟩, g3⟩ := hg3
        have HK3 : Hid (R = o.data.toList ++ ((if (!b && !sgZ ((s[k]'hlt).toNat : Int)) = true then p.data.toList else []) ++ (s[k]'hlt) :: brF [] (sgZ ((s[k]'hlt).toNat : Int)) (s.data.toList.drop (k + 1)))) := by
          show _ = _
          rw [HK2.out, if_neg hgap]
        clear HK2 hgap HGp
        generalize hq : sgZ ((s[k]'hlt).toNat : Int) = q at *
        clear hq
        by_cases hbq : b = false ∧ q = false
        · obtain ⟨rfl, rfl⟩ := hbq
          have k2 := cat22 o p (by omega)
          have e2 := app22 o p
          have z2 : (o ++ p).size = o.size + p.size := ByteArray.size_append
          generalize o ++ p = t2 at *
          have k3 := cat22 t2 (s.extract k (k + 1)) (by omega)
          have e3 := app22 t2 (s.extract k (k + 1))
          rw [HX.out] at e3
          generalize t2 ++ s.extract k (k + 1) = t3 at *
          have HE : Hid (R = t3.data.toList ++ brF (⟨#[]⟩ : ByteArray).data.toList false (s.data.toList.drop (k + 1))) := by
            show _ = _
            rw [HK3.out, if_pos (show (!false && !false) = true from rfl), e3, e2]
            simp
          clear HK3 HX hXz e3 e2 z2 ho hp
          go_wp2_with (go_at_call 39; refine (HSk.out _).mono ?_; rintro e w9 ⟨rfl, h9⟩; have h9s := h9.symm; clear h9; subst h9s)
          go_roundg (gk - 1)
          case measure => have := HG.out; omega
          case rel => exact ⟨k + 1, t3, ⟨#[]⟩, false, by have := HG.out; omega, by first | rfl | go_num, rfl, rfl, rfl, Nat.zero_le _, HE.out, HB.out⟩
        · have k3 := cat22 o (s.extract k (k + 1)) (by omega)
          have e3 := app22 o (s.extract k (k + 1))
          rw [HX.out] at e3
          generalize o ++ s.extract k (k + 1) = t3 at *
          have HE : Hid (R = t3.data.toList ++ brF (⟨#[]⟩ : ByteArray).data.toList q (s.data.toList.drop (k + 1))) := by
            show _ = _
            rw [HK3.out, if_neg (by intro h; apply hbq; simpa using h), e3]
            simp
          clear HK3 HX hXz e3 ho hp
          cases b
          · cases q
            · exact absurd ⟨rfl, rfl⟩ hbq
            clear hbq
            go_wp2_with (go_at_call 39; refine (HSk.out _).mono ?_; rintro e w9 ⟨rfl, h9⟩; have h9s := h9.symm; clear h9; subst h9s)
            go_roundg (gk - 1)
            case measure => have := HG.out; omega
            case rel => exact ⟨k + 1, t3, ⟨#[]⟩, true, by have := HG.out; omega, by first | rfl | go_num, rfl, rfl, rfl, Nat.zero_le _, HE.out, HB.out⟩
          · clear hbq
            go_wp2_with (go_at_call 39; refine (HSk.out _).mono ?_; rintro e w9 ⟨rfl, h9⟩; have h9s := h9.symm; clear h9; subst h9s)
            go_roundg (gk - 1)
            case measure => have := HG.out; omega
            case rel => exact ⟨k + 1, t3, ⟨#[]⟩, q, by have := HG.out; omega, by first | rfl | go_num, rfl, rfl, rfl, Nat.zero_le _, HE.out, HB.out⟩
    · have HE : Hid (R = o.data.toList) := by
        show _ = _
        have e : s.data.toList.drop k = [] := List.drop_eq_nil_of_le (by rw [size20]; omega)
        rw [HK.out, e]
        exact List.append_nil _
      clear hk HK
      go_wp2
      go_ret
      exact ⟨o, rfl, HE.out.symm, by omega, HB.out⟩

end Go.Proofs.YtmfcaoacklbkoaaDoor
