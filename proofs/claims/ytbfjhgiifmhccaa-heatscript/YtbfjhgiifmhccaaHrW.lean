/-
  heat: whole.
  KEEP: set on app at below new trans refl start kept mono lt add none own nil put len pos other cell ty blt fz box k p r pr a0 a1 a2 c0 c1 c2 hb setK setP setR unique grown step fin bij up q1 q2 pl held mk v1 v2 t1 t2 hs few cut root z kl nl sl d1 d2 row down has holds stp bel heat cells sc wi mem srt inn inj out lays ap kind rd rds bump cool weak types foreign rows cong form heat nodup s w ord rest apS apV ht rz goX goY
-/
import Derived.Test.YtbfjhgiifmhccaaHrQ
set_option linter.unusedSimpArgs false
set_option linter.unusedVariables false
namespace Go.Proofs.Ytbfjhgiifmhccaa
open Go Go.RowKit
attribute [local go_sem] run_store_float

set_option maxRecDepth 100000 in
set_option maxHeartbeats 4000000 in
theorem whole_any14 (B C x : Nat) (v : Hv) (y : Nat) (s : Rv) (n dec st : Nat) (K : List Nat) (H : Nat → Bool) (w : World) (h : Ph B C w x v y s n dec st K H st K H) :
    Calls Try.prog 13 #[.pointer (some ⟨x, 0, none⟩), .pointer (some ⟨y, 0, none⟩)] w fun e w' => e = .returned (.bool true) ∧ Below w.heap.size w w' := by
  have hn := h.ht.nl
  have HP : Hid (Ph B C w x v y s n dec st K H st K H) := h
  obtain ⟨a, c, e⟩ := row_form' h.rz.sc
  have c0 := h.rz.cells.1
  rw [e] at c0
  have HF : Hid (Fin K) := h.ht.fin
  obtain ⟨L, hL, hX, hY⟩ := ord_both w h
  have HOX : Hid (Calls Try.prog 17 #[.pointer (some ⟨x, 0, none⟩)] w (fun e w' => ∃ u, e = .returned u ∧ Own w.heap.size w' u L ∧ Below w.heap.size w w')) := hX
  have HOY : Hid (∀ W, Below w.heap.size w W → Calls Try.prog 34 #[.pointer (some ⟨y, 0, none⟩)] W (fun e w' => ∃ u, e = .returned u ∧ Own W.heap.size w' u L ∧ Below W.heap.size W w')) := hY
  have HL : Hid (L.length ≤ 1048576) := hL
  clear h e hX hY hL
  go_enter Try.func13, Try.ntmps13
  go_wp2
  go_loopg [5] (n + 2) (fun g i wx => ∃ k : Nat, k + g = n + 2 ∧ i = .int .i64 (k : Int) ∧ wx = w)
  case atStart => exact ⟨0, by omega, rfl, rfl⟩
  case round =>
    obtain ⟨k, hk, rfl, rfl⟩ := hrel
    by_cases hlt : k < n + 2
    · have hgk : n + 2 - (k + 1) < gk := by omega
      have HKN : Hid (k + 1 + (n + 2 - (k + 1)) = n + 2) := by show _ = _; omega
      obtain ⟨f, r, hef, bx, by'⟩ := score_both (n := n) (dec := dec) (st := st) (H := H) (k : Int) HF.out
      have HX : Hid (Calls Try.prog 15 #[.pointer (some ⟨x, 0, none⟩), .int .i64 (k : Int)] wr fun e w' => e = .returned (.tuple #[.float .f64 f, .int .i64 r]) ∧ w' = wr) := bx _ _ _ _ HP.out.ht
      have HY : Hid (Calls Try.prog 33 #[.pointer (some ⟨y, 0, none⟩), .int .i64 (k : Int)] wr fun e w' => e = .returned (.tuple #[.float .f64 f, .int .i64 r]) ∧ w' = wr) := by' _ _ _ _ HP.out.rz
      have HIX : Hid (Calls Try.prog 14 #[.pointer (some ⟨x, 0, none⟩), .int .i64 (k : Int)] wr fun e w' => e = .returned (.bool (inB n H k)) ∧ w' = wr) := in_any k wr HP.out.ht
      have HIY : Hid (Calls Try.prog 32 #[.pointer (some ⟨y, 0, none⟩), .int .i64 (k : Int)] wr fun e w' => e = .returned (.bool (inB n H k)) ∧ w' = wr) := rin_any k wr HP.out.rz
      have hef' : FloatKind.f64.format.order f f = some .eq := by simpa using hef
      clear bx by' HOX HOY hk hef
      generalize inB n H k = q at *
      go_wp2_with (first | (go_at_call 15; refine HX.out.mono ?_; intro e w4 hh; rw [hh.1, hh.2]; clear hh e w4; dsimp only) | (go_at_call 33; refine HY.out.mono ?_; intro e w4 hh; rw [hh.1, hh.2]; clear hh e w4; dsimp only) | (go_at_call 14; refine HIX.out.mono ?_; intro e w4 hh; rw [hh.1, hh.2]; clear hh e w4; dsimp only) | (go_at_call 32; refine HIY.out.mono ?_; intro e w4 hh; rw [hh.1, hh.2]; clear hh e w4; dsimp only))
      go_roundg (n + 2 - (k + 1))
      case rel => exact ⟨k + 1, HKN.out, by simp, rfl⟩
      case measure => exact hgk
    · have hke : k = n + 2 := by omega
      go_wp2_with fail
      refine HOX.out.mono ?_
      rintro e w3 ⟨u3, rfl, own3, bel3⟩
      have O3 : Hid (Own wr.heap.size w3 u3 L ∧ Below wr.heap.size wr w3) := ⟨own3, bel3⟩
      clear own3 bel3
      go_wp2_with fail
      refine (HOY.out w3 O3.out.2).mono ?_
      rintro e w4 ⟨u4, rfl, own4, bel4⟩
      have C4 : Hid (Calls Try.prog 22 #[u3, u4] w4 fun e w' => e = .returned (.bool true) ∧ Below w4.heap.size w4 w') := sameSelf_any u3 u4 L w4 ((O3.out.1.below bel4).rd (by have := HL.out; omega)) (own4.rd (by have := HL.out; omega))
      have B4 : Hid (Below wr.heap.size wr w4) := Below.step O3.out.2 bel4
      clear own4 bel4
      go_wp2_with fail
      refine C4.out.mono ?_
      rintro e w5 ⟨rfl, bel5⟩
      have HE : Hid (Below wr.heap.size wr w5) := Below.step B4.out bel5
      clear bel5
      go_wp2
      go_ret
      exact ⟨rfl, HE.out⟩
end Go.Proofs.Ytbfjhgiifmhccaa
