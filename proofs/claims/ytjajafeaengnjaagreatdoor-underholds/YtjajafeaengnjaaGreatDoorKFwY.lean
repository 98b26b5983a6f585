/-
  forward: textOf.
  KEEP: len below nil form rd mono one more grown lt size cell some none of ofNat add out step row get at mk
-/
import Derived.Test.YtjajafeaengnjaaGreatDoorKFwL
import Derived.Test.YtjajafeaengnjaaGreatDoorKByT
import Derived.Lib.ConvBytes
import Derived.Laws.IdiomStrings
set_option linter.unusedSimpArgs false
set_option linter.unusedVariables false
namespace Go.Proofs.YtjajafeaengnjaaGreatDoor
open Go Go.RowKit
theorem nil_bytes11 (w : World) : (convert 84 9 (.slice none 0 0)).run Tryz.prog w = .ok (.string ⟨#[]⟩) w := by
  rw [run_convert_bytes_string w 84 9 5 none 0 0 Tryz.underlying84 Tryz.underlying5 Tryz.underlying9]
  rfl
theorem conv_y11 {w : World} {v : Value} {T : List UInt8} (h : RdY w v T) : (convert 84 9 v).run Tryz.prog w = .ok (.string ⟨T.toArray⟩) w := by
  obtain ⟨h1, a, c, rfl, hc, hm, hn, h2⟩ := h
  cases a with
  | none =>
    have hc0 := hn rfl
    have hT : T = [] := List.length_eq_zero_iff.1 (by omega)
    subst hT; subst hc0
    exact nil_bytes11 w
  | some a =>
    refine run_convert_bytes_back (P := Tryz.prog) w 84 9 5 a c T Tryz.underlying84 Tryz.underlying5 Tryz.underlying9 (fun j hj => ?_)
    obtain ⟨b, off, e, hlt, hcell⟩ := h2 (by intro e; subst e; simp at hj)
    obtain rfl : a = ⟨b, off, none⟩ := by simpa using e
    have hadd : (⟨b, off, none⟩ : Addr).add j = ⟨b, off + j, none⟩ := Addr.add_lit _ _ _
    rw [hadd, hcell j hj]
    simp [List.getD_eq_getElem?_getD, hj]
/-- a literal's three bytes -/
def tx1 (l : Int) : List UInt8 := [UInt8.ofNat ((idx l).toNat / 65536), UInt8.ofNat ((idx l).toNat / 256), UInt8.ofNat (idx l).toNat]
/-- a clause's text -/
def tx (c : List Int) : List UInt8 := c.flatMap tx1
theorem tx_len (c : List Int) : (tx c).length = 3 * c.length := by
  induction c with
  | nil => rfl
  | cons a r ih => unfold tx at ih ⊢; rw [List.flatMap_cons, List.length_append, ih]; simp [tx1]; omega
theorem tx_take (c : List Int) {k : Nat} (h : k < c.length) : tx (c.take (k + 1)) = tx (c.take k) ++ tx1 (c.getD k 0) := by
  unfold tx
  rw [List.take_succ_eq_append_getElem h, List.flatMap_append, List.getD_eq_getElem?_getD, List.getElem?_eq_getElem h]
  simp
theorem tx1_inj {a b : Int} (ha : fmd a = true) (hb : fmd b = true) (h : tx1 a = tx1 b) : a = b := by
  obtain ⟨i, hi⟩ := idx_nat ha
  obtain ⟨j, hj⟩ := idx_nat hb
  have ri := idx_range ha
  have rj := idx_range hb
  unfold tx1 at h
  rw [hi, hj] at h
  have h1 : UInt8.ofNat (i / 65536) = UInt8.ofNat (j / 65536) := by injection h
  have h2 : UInt8.ofNat (i / 256) = UInt8.ofNat (j / 256) := by injection h with _ h; injection h
  have h3 : UInt8.ofNat i = UInt8.ofNat j := by injection h with _ h; injection h with _ h; injection h
  have g1 := congrArg UInt8.toNat h1
  have g2 := congrArg UInt8.toNat h2
  have g3 := congrArg UInt8.toNat h3
  simp at g1 g2 g3
  have e : i = j := by omega
  exact idx_inj ha hb (by rw [hi, hj, e])
theorem tx_inj : ∀ {c d : List Int}, (∀ l ∈ c, fmd l = true) → (∀ l ∈ d, fmd l = true) → tx c = tx d → c = d
  | [], [], _, _, _ => rfl
  | [], b :: d, _, _, h => by have := congrArg List.length h; rw [tx_len, tx_len] at this; simp at this
  | a :: c, [], _, _, h => by have := congrArg List.length h; rw [tx_len, tx_len] at this; simp at this
  | a :: c, b :: d, hc, hd, h => by
    have e : tx1 a ++ tx c = tx1 b ++ tx d := by unfold tx at h ⊢; rw [List.flatMap_cons, List.flatMap_cons] at h; exact h
    obtain ⟨e1, e2⟩ := List.append_inj e (by simp [tx1])
    rw [tx1_inj (hc a (by simp)) (hd b (by simp)) e1, tx_inj (fun l hl => hc l (by simp [hl])) (fun l hl => hd l (by simp [hl])) e2]
set_option maxRecDepth 100000 in
set_option maxHeartbeats 1600000 in
theorem fText_any (vc : Value) (c : List Int) (w : World) (hr : Rd w vc c) (hs : ∀ l ∈ c, fmd l = true) (hl : c.length ≤ 2097152) :
    Calls Tryz.prog 48 #[vc] w fun e w' => e = .returned (.string ⟨(tx c).toArray⟩) ∧ Below w.heap.size w w' := by
  obtain ⟨av, cv, rfl, v1, v2, hcell⟩ := hr.form
  have HC : Hid ((∀ k, k < c.length → ∃ bb off, av = some ⟨bb, off, none⟩ ∧ w.cell? ⟨bb, off + k, none⟩ = some (.int .i64 (c.getD k 0))) ∧ ∀ l ∈ c, fmd l = true) := ⟨hcell, hs⟩
  obtain ⟨iY, hiY, hzY0, hzY1, hzY2⟩ := info_parts infoY
  clear hr hcell hs
  go_enter Tryz.func48, Tryz.ntmps48
  go_upto_region 2 with (refine wpList_make_own _ rfl _ _ 84 rfl w.heap.size 5 iY (.int .u8 0) 1 Tryz.underlying84 hiY hzY0 hzY1 .i64 .i64 _ (3 * c.length) rfl (by go_num) (by omega) (by rw [hzY2]; omega) (by unfold maxLen; omega) (Nat.le_refl _) ?_; intro w1 hown1 hgrow1)
  have HO1 : Hid (OwnT w.heap.size w1 (.slice (some ⟨w.heap.size, 0, none⟩) 0 (3 * c.length)) [] ∧ Below w.heap.size w w1) := ⟨hown1, (Below.refl _ _).grown hgrow1 (Nat.le_refl _) (fun j hj => by cases hj)⟩
  have HI : Hid (Tryz.prog.info? 5 = some iY ∧ iY.zero = some (.int .u8 0) ∧ iY.size = 1 ∧ iY.bytes = 1) := ⟨hiY, hzY0, hzY1, hzY2⟩
  clear hown1 hgrow1 hiY hzY0 hzY1 hzY2
  go_wp2_with fail
  go_loopg [3, 13] c.length (fun g tv iv wx => ∃ k : Nat, k + g = c.length ∧ iv = .int .i64 (k : Int) ∧ OwnT w.heap.size wx tv (tx (c.take k)) ∧ Below w.heap.size w wx)
  case atStart => exact ⟨0, by omega, rfl, HO1.out.1, HO1.out.2⟩
  case round =>
    obtain ⟨k, hk, rfl, ho, hb⟩ := hrel
    have HK : Hid (k + gk = c.length) := hk
    obtain ⟨aT, cT, eT⟩ := ho.form
    have htl : (tx (c.take k)).length = 3 * (c.take k).length := tx_len _
    rw [List.length_take] at htl
    by_cases hlt : k < c.length
    · rw [Nat.min_eq_left (by omega)] at htl
      rw [htl] at eT
      subst eT
      obtain ⟨bb, off, rfl, kc0⟩ := HC.out.1 k hlt
      have kc := (hb.cell (p := ⟨bb, off + k, none⟩) (World.block_lt_of_cell? w _ kc0)).trans kc0
      have hf := HC.out.2 _ (getD_mem0 hlt)
      have hte := tx_take c hlt
      obtain ⟨i, hi⟩ := idx_nat hf
      obtain ⟨l, hl1⟩ : ∃ l, c.getD k 0 = l := ⟨_, rfl⟩
      rw [hl1] at kc hi hte hf
      have hir := idx_range hf
      have hi2 : i < 2097152 := by omega
      have HX : Hid (∀ W : World, Calls Tryz.prog 60 #[.int .i64 l] W fun e w' => e = .returned (.int .i64 (i : Int)) ∧ w' = W) := fun W => (index_any _ _).mono fun e w' h => ⟨by rw [h.1, hi], h.2⟩
      have HO : Hid (OwnT w.heap.size wr (.slice aT (3 * k) cT) (tx (c.take k)) ∧ Below w.heap.size w wr ∧ (tx (c.take k)).length = 3 * k) := ⟨ho, hb, htl⟩
      have HT : Hid (tx (c.take (k + 1)) = tx (c.take k) ++ [UInt8.ofNat (i / 65536), UInt8.ofNat (i / 256), UInt8.ofNat i]) := by
        show _ = _
        rw [hte]; unfold tx1; rw [hi]; rfl
      clear ho hb htl kc0 hf hte hl1 hi hir hk
      have HOa : Hid ((wr.alloc (.cells #[.int .u8 ((i : Int) / 65536), .int .u8 ((i : Int) / 256 % 256), .int .u8 ((i : Int) % 256)] 5)).ownsRow w.heap.size 5 1 (.slice aT (3 * k) cT) (3 * k) (Lib.byteCells (tx (c.take k)))) := by
        have h := HO.out.1.below (below_box wr (.cells #[.int .u8 ((i : Int) / 65536), .int .u8 ((i : Int) / 256 % 256), .int .u8 ((i : Int) % 256)] 5))
        unfold OwnT at h
        rw [HO.out.2.2] at h; exact h
      have HNa : Hid (∀ q y, [Value.int .u8 ((i : Int) / 65536), .int .u8 ((i : Int) / 256 % 256), .int .u8 ((i : Int) % 256)][q]? = some y → (wr.alloc (.cells #[.int .u8 ((i : Int) / 65536), .int .u8 ((i : Int) / 256 % 256), .int .u8 ((i : Int) % 256)] 5)).cell? ((⟨wr.heap.size, 0, none⟩ : Addr).add q) = some y) := cells_new2 wr _ _
      have HSa : Hid (w.heap.size ≤ (wr.alloc (.cells #[.int .u8 ((i : Int) / 65536), .int .u8 ((i : Int) / 256 % 256), .int .u8 ((i : Int) % 256)] 5)).heap.size) := Nat.le_trans HO.out.2.1.size (below_box _ _).size
      have hl63 : 3 * k + 3 ≤ maxLen := by unfold maxLen; omega
      have hl48 : (3 * k + 3) * 1 ≤ 140737488355328 := by omega
      have HFi : Hid (∀ w6 v6, w6.ownsRow w.heap.size 5 1 v6 (3 * k + 3) (Lib.byteCells (tx (c.take k)) ++ [.int .u8 ((i : Int) / 65536), .int .u8 ((i : Int) / 256 % 256), .int .u8 ((i : Int) % 256)]) → Ap (wr.alloc (.cells #[.int .u8 ((i : Int) / 65536), .int .u8 ((i : Int) / 256 % 256), .int .u8 ((i : Int) % 256)] 5)) (.slice aT (3 * k) cT) w6 v6 → OwnT w.heap.size w6 v6 (tx (c.take (k + 1))) ∧ Below w.heap.size w w6) := fun w6 v6 ho ha => by
        refine ⟨?_, (Below.step HO.out.2.1 (below_box _ _)).grown ha.grown HSa.out (fun q e => (HOa.out.lt q e).1)⟩
        rw [HT.out]
        refine OwnT.more ?_
        rw [HO.out.2.2]
        have e1 : i / 65536 % 256 = i / 65536 := Nat.mod_eq_of_lt (by omega)
        have eb : Lib.byteCells [UInt8.ofNat (i / 65536), UInt8.ofNat (i / 256), UInt8.ofNat i] = [.int .u8 ((i : Int) / 65536), .int .u8 ((i : Int) / 256 % 256), .int .u8 ((i : Int) % 256)] := by
          simp [Lib.byteCells, e1]
        rw [eb]; exact ho
      go_wp2_with (first
        | (go_at_call 60; refine (HX.out _).mono ?_; intro e w9 hh; rw [hh.1, hh.2]; clear hh e w9; dsimp only)
        | (at_builtin; refine wpList_append_apk rfl _ _ 84 rfl w.heap.size 5 iY (.int .u8 0) 1 1 Tryz.underlying84 HI.out.1 HI.out.2.1 HI.out.2.2.1 HI.out.2.2.2 rfl (by decide) (.slice aT (3 * k) cT) (3 * k) (Lib.byteCells (tx (c.take k))) rfl HOa.out ⟨wr.heap.size, 0, none⟩ 3 3 [.int .u8 ((i : Int) / 65536), .int .u8 ((i : Int) / 256 % 256), .int .u8 ((i : Int) % 256)] rfl rfl HNa.out (by simp [Value.oneCell']) hl63 hl48 HSa.out ?_; intro v6 w6 own6 ap6; have F6 : Hid (OwnT w.heap.size w6 v6 (tx (c.take (k + 1))) ∧ Below w.heap.size w w6) := HFi.out w6 v6 own6 ap6; clear own6 ap6))
      go_roundg (gk - 1)
      case measure => have := HK.out; omega
      case rel => exact ⟨k + 1, by have := HK.out; omega, by go_num, F6.out.1, F6.out.2⟩
    · have ek : k = c.length := by omega
      subst ek
      rw [List.take_length] at ho htl
      have hty : (tx c).length = 3 * c.length := tx_len c
      rw [List.take_length, hty] at eT
      subst eT
      have hry : RdY wr (.slice aT (3 * c.length) cT) (tx c) := ho.rd (by omega)
      have hcv := conv_y11 hry
      have HCv : Hid ((convert 84 9 (.slice aT (3 * c.length) cT)).run Tryz.prog wr = .ok (.string ⟨(tx c).toArray⟩) wr) := hcv
      have HB : Hid (Below w.heap.size w wr) := hb
      clear ho hry hk hb htl hty
      go_wp2_with fail
      go_ret
      exact ⟨rfl, HB.out⟩
end Go.Proofs.YtjajafeaengnjaaGreatDoor
