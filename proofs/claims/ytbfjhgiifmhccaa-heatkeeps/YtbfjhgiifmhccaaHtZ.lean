/-
  heat: what HeatOrders says, step by step.
  KEEP: set on app at below new trans refl start kept mono lt add none own nil put len pos other cell ty blt fz box k p r pr a0 a1 a2 c0 c1 c2 hb setK setP setR unique grown step fin bij up q1 q2 pl held mk v1 v2 t1 t2 hs few cut root z kl nl sl d1 d2 row down has holds stp bel heat mem srt inn inj out lays ap kind rd rds bump cool weak types foreign rows cong form heat nodup
-/
import Derived.Test.YtbfjhgiifmhccaaHtRu
import Derived.Test.YtbfjhgiifmhccaaSames
set_option linter.unusedSimpArgs false
set_option linter.unusedVariables false
namespace Go.Proofs.Ytbfjhgiifmhccaa
open Go Go.RowKit

theorem contains_more14 (zs : List Int) (k : Nat) (h : k < zs.length) (l : Int) : (zs.take (k + 1)).contains l = ((zs.take k).contains l || (l == zs.getD k 0)) := by
  rw [take_succ_getD zs 0 k h, List.contains_eq_any_beq, List.contains_eq_any_beq, List.any_append]; simp
set_option maxHeartbeats 1600000 in
theorem hasInt14_any (v : Value) (zs : List Int) (l : Int) (w : World) (hr : Rd w v zs) :
    Calls Try.prog 18 #[v, .int .i64 l] w fun e w' => e = .returned (.bool (zs.contains l)) ∧ w' = w := by
  have hl := hr.len
  obtain ⟨a, c, rfl, hc, hm, hcell⟩ := hr.form
  have HC : Hid (∀ k, k < zs.length → ∃ b off, a = some ⟨b, off, none⟩ ∧ w.cell? ⟨b, off + k, none⟩ = some (.int .i64 (zs.getD k 0))) := hcell
  clear hcell hr
  go_enter Try.func18, Try.ntmps18
  go_wp2
  go_loopg [5] zs.length (fun g i wr => ∃ k : Nat, k + g = zs.length ∧ i = .int .i64 k ∧ (zs.take k).contains l = false ∧ wr = w)
  case atStart => exact ⟨0, by omega, rfl, by simp, rfl⟩
  case round =>
    obtain ⟨k, hk, rfl, hall, rfl⟩ := hrel
    have HA : Hid ((zs.take k).contains l = false) := hall
    have HK : Hid (k + gk = zs.length) := hk
    clear hall
    by_cases hlt : k < zs.length
    · obtain ⟨b, off, rfl, hck⟩ := HC.out k hlt
      have HS : Hid ((zs.take (k + 1)).contains l = ((zs.take k).contains l || (l == zs.getD k 0))) := contains_more14 zs k hlt l
      have HE : Hid (l = zs.getD k 0 → zs.contains l = true) := fun e => by rw [List.contains_iff_mem, e]; exact getD_mem' hlt
      clear hk
      generalize zs.getD k 0 = z at *
      cases hf : (z == l)
      · go_wp2
        go_roundg (gk - 1)
        case measure => have := HK.out; omega
        case rel => exact ⟨k + 1, by have := HK.out; omega, by go_num, by rw [HS.out, HA.out, Bool.false_or]; rw [beq_eq_false_iff_ne] at hf ⊢; exact fun e => hf e.symm, rfl⟩
      · go_wp2
        go_ret
        exact ⟨ret_bool (HE.out (beq_iff_eq.1 hf).symm).symm, rfl⟩
    · obtain rfl : k = zs.length := by omega
      have HE : Hid (zs.contains l = false) := by have := HA.out; rw [List.take_length] at this; exact this
      clear hk
      go_wp2
      go_ret
      exact ⟨ret_bool HE.out.symm, rfl⟩


/-- how many of the first m are within -/
def cnH (H : Nat → Bool) : Nat → Nat
  | 0 => 0
  | m + 1 => cnH H m + (if H (m + 1) = true then 1 else 0)
theorem cnH_le (H : Nat → Bool) : ∀ m, cnH H m ≤ m
  | 0 => Nat.le_refl _
  | m + 1 => by have := cnH_le H m; unfold cnH; split <;> omega
theorem len_cnH {H : Nat → Bool} : ∀ (n : Nat) (S : List Nat), S.Nodup → (∀ v, v ∈ S ↔ (1 ≤ v ∧ v ≤ n ∧ H v = true)) → S.length = cnH H n
  | 0, S, _, h => by
    cases S with
    | nil => rfl
    | cons a r => have := (h a).1 (by simp); omega
  | n + 1, S, hd, h => by
    unfold cnH
    by_cases e : H (n + 1) = true
    · rw [if_pos e]
      have hm : n + 1 ∈ S := (h _).2 ⟨by omega, by omega, e⟩
      have := len_cnH n (S.erase (n + 1)) (hd.erase _) fun v => by
        rw [hd.mem_erase_iff, h]
        constructor
        · rintro ⟨h1, h2, h3, h4⟩; exact ⟨h2, by omega, h4⟩
        · rintro ⟨h1, h2, h3⟩; exact ⟨by omega, h1, by omega, h3⟩
      rw [List.length_erase_of_mem hm] at this
      have : 0 < S.length := List.length_pos_of_mem hm
      omega
    · rw [if_neg e, Nat.add_zero]
      exact len_cnH n S hd fun v => by
        rw [h]
        constructor
        · rintro ⟨h1, h2, h3⟩
          refine ⟨h1, ?_, h3⟩
          have : v ≠ n + 1 := fun e2 => e (by rw [← e2]; exact h3)
          omega
        · rintro ⟨h1, h2, h3⟩; exact ⟨h1, by omega, h3⟩
theorem IsOrd.nodup {κ : Nat → Nat} {H : Nat → Bool} {n : Nat} {S : List Nat} (h : IsOrd κ H n S) : S.Nodup := h.srt.imp fun {a b} hab e => by subst e; rw [ahd_irr] at hab; cases hab
/-- those of a list -/
def dcd (S : List Nat) (u : Nat) : Bool := decide (u ∈ S)
section
variable {B b n dec st : Nat} {v : Hv} {K S : List Nat} {H H' : Nat → Bool} {W W' wx : World}
theorem Ht.cong (h : Ht B W b v n dec st K H) (he : ∀ u, 1 ≤ u → u ≤ n → H u = H' u) : Ht B W b v n dec st K H' := by
  obtain ⟨P, R, h1, h2, h3, h4⟩ := h.z
  exact ⟨⟨P, R, h1, h2, h3, fun u a c => by rw [← he u a c]; exact h4 u a c⟩, h.kl, h.nl, h.fin, h.sl, h.d1, h.d2⟩
theorem drop_gt {i : Nat} (h : i < S.length) : S.drop i = gt S i :: S.drop (i + 1) := by
  rw [List.drop_eq_getElem_cons h]; unfold gt; rw [List.getD_eq_getElem?_getD, List.getElem?_eq_getElem h]; rfl
theorem takeD {i : Nat} (h : Ht B wx b v n dec st K (dcd (S.drop i))) (hi : i < S.length) (ho : IsOrd (gt K) H n S) :
    Calls Try.prog 20 #[.pointer (some ⟨b, 0, none⟩)] wx fun e w' => e = .returned (.tuple #[.int .i64 (gt S i : Nat), .bool true]) ∧ HtS B b v n dec st K (dcd (S.drop (i + 1))) wx w' := by
  have hd := drop_gt hi
  have hm := (ho.mem (gt S i)).1 (gt_mem hi)
  have hp : (S.drop i).Pairwise (fun a b => ahd (gt K) a b = true) := ho.srt.sublist (List.drop_sublist i S)
  have hnd : (S.drop i).Nodup := ho.nodup.sublist (List.drop_sublist i S)
  rw [hd] at hp hnd
  refine (take_yes (gt S i) wx h hm.1 hm.2.1 (by unfold dcd; rw [hd]; simp) fun u hu hu' hh => ?_).mono fun e w' hx => ⟨hx.1, ?_⟩
  · unfold dcd at hh
    rw [hd, decide_eq_true_iff, List.mem_cons] at hh
    rcases hh with rfl | hh
    · exact ahd_irr _ _
    · exact ahd_asym ((List.pairwise_cons.1 hp).1 u hh)
  · obtain ⟨v', hv, hmf⟩ := hx.2
    refine ⟨v', hv.cong fun u hu hu' => ?_, hmf⟩
    unfold dcd
    rw [hd]
    by_cases e : u = gt S i
    · rw [if_pos e, e]; exact (decide_eq_false (List.nodup_cons.1 hnd).1).symm
    · rw [if_neg e]; simp [e]
theorem putD {i : Nat} (h : Ht B wx b v n dec st K (dcd (S.drop (i + 1)))) (hi : i < S.length) (ho : IsOrd (gt K) H n S) :
    Calls Try.prog 21 #[.pointer (some ⟨b, 0, none⟩), .int .i64 (gt S i : Nat)] wx fun e w' => e = .returned (.int .i64 0) ∧ HtS B b v n dec st K (dcd (S.drop i)) wx w' := by
  have hd := drop_gt hi
  have hm := (ho.mem (gt S i)).1 (gt_mem hi)
  have hnd : (S.drop i).Nodup := ho.nodup.sublist (List.drop_sublist i S)
  rw [hd] at hnd
  refine (put_yes (gt S i) wx h hm.1 hm.2.1 (decide_eq_false (List.nodup_cons.1 hnd).1)).mono fun e w' hx => ⟨hx.1, ?_⟩
  obtain ⟨v', hv, hmf⟩ := hx.2
  refine ⟨v', hv.cong fun u hu hu' => ?_, hmf⟩
  unfold dcd
  rw [hd]
  by_cases e : u = gt S i
  · rw [if_pos e, e]; simp
  · rw [if_neg e]; simp [e]
theorem inD {i : Nat} (h : Ht B wx b v n dec st K (dcd (S.drop (i + 1)))) (hi : i < S.length) (ho : IsOrd (gt K) H n S) :
    Calls Try.prog 14 #[.pointer (some ⟨b, 0, none⟩), .int .i64 (gt S i : Nat)] wx fun e w' => e = .returned (.bool false) ∧ w' = wx := by
  have hd := drop_gt hi
  have hnd : (S.drop i).Nodup := ho.nodup.sublist (List.drop_sublist i S)
  rw [hd] at hnd
  refine in_is h _ false ?_
  unfold inB dcd
  rw [Int.toNat_natCast, decide_eq_false (List.nodup_cons.1 hnd).1, Bool.and_false]
theorem ahdL_any (x y : Nat) (h : Ht B wx b v n dec st K H) (hx : 1 ≤ x ∧ x ≤ n) (hy : 1 ≤ y ∧ y ≤ n) (ha : ahd (gt K) x y = true) :
    Calls Try.prog 19 #[.pointer (some ⟨b, 0, none⟩), .int .i64 (x : Int), .int .i64 (y : Int)] wx fun e w' => e = .returned (.bool true) ∧ w' = wx := by
  have H1 : Hid (Calls Try.prog 15 #[.pointer (some ⟨b, 0, none⟩), .int .i64 (x : Int)] wx fun e w' => e = .returned (.tuple #[.float .f64 (gt K x), .int .i64 0]) ∧ w' = wx) := score_yes x wx h hx.1 hx.2
  have H2 : Hid (Calls Try.prog 15 #[.pointer (some ⟨b, 0, none⟩), .int .i64 (y : Int)] wx fun e w' => e = .returned (.tuple #[.float .f64 (gt K y), .int .i64 0]) ∧ w' = wx) := score_yes y wx h hy.1 hy.2
  have hg := ord_gtr (h.fin x) (h.fin y)
  have HFy : Hid (gt K y ≤ infR) := h.fin y
  clear h
  by_cases hlt : gt K y < gt K x
  · rw [decide_eq_true hlt] at hg
    clear hlt ha
    generalize gt K x = s at *
    generalize gt K y = t at *
    go_enter Try.func19, Try.ntmps19
    go_wp2_with (first | (go_at_call 15; with_reducible refine Calls.mono H1.out ?_; rintro e w' ⟨rfl, hw'⟩; have hw'' := hw'.symm; clear hw'; subst hw'') | (go_at_call 15; with_reducible refine Calls.mono H2.out ?_; rintro e w' ⟨rfl, hw'⟩; have hw'' := hw'.symm; clear hw'; subst hw''))
    go_ret
    exact ⟨rfl, rfl⟩
  · have he : gt K x = gt K y ∧ x < y := by simp [ahd] at ha; omega
    rw [decide_eq_false hlt] at hg
    have hq : (FloatKind.f64.format.order (gt K x) (gt K y) == some .eq) = true := by
      rw [he.1]
      show (Ieee.double.order (gt K y) (gt K y) == some .eq) = true
      rw [ord_word HFy.out HFy.out, Nat.compare_eq_eq.2 rfl]; rfl
    have hxy : (x : Int) < (y : Int) := by omega
    clear hlt ha he
    generalize gt K x = s at *
    generalize gt K y = t at *
    go_enter Try.func19, Try.ntmps19
    go_wp2_with (first | (go_at_call 15; with_reducible refine Calls.mono H1.out ?_; rintro e w' ⟨rfl, hw'⟩; have hw'' := hw'.symm; clear hw'; subst hw'') | (go_at_call 15; with_reducible refine Calls.mono H2.out ?_; rintro e w' ⟨rfl, hw'⟩; have hw'' := hw'.symm; clear hw'; subst hw''))
    go_ret
    exact ⟨rfl, rfl⟩
/-- a Heat and a list of Order's -/
def OS (w0 wx : World) (b n dec st : Nat) (K : List Nat) (H : Nat → Bool) (u : Value) (S : List Nat) : Prop := ∃ v, Ht w0.heap.size wx b v n dec st K H ∧ Own w0.heap.size wx u (S.map fun (x : Nat) => (x : Int)) ∧ Below w0.heap.size w0 wx
theorem OS.step {w0 : World} {u : Value} {T : List Nat} (h : Ht w0.heap.size wx b v n dec st K H) (ho : Own w0.heap.size wx u (T.map fun (x : Nat) => (x : Int))) (hb : Below w0.heap.size w0 wx) (hs : HtS w0.heap.size b v n dec st K H' wx W') : OS w0 W' b n dec st K H' u T := by
  obtain ⟨v', hv, hm⟩ := hs
  exact ⟨v', hv, own_heat ho h hm, Mf.bel hb (fun i hi => (h.lt i hi).1) hm⟩
end
end Go.Proofs.Ytbfjhgiifmhccaa
