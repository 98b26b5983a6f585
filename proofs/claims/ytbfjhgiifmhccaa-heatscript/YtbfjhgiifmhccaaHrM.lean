/-
  heat: the document's Heat, as it lies; Score, In, Put.
  KEEP: set on app at below new trans refl start kept mono lt add none own nil put len pos other cell ty blt fz box k p r pr a0 a1 a2 c0 c1 c2 hb setK setP setR unique grown step fin bij up q1 q2 pl held mk v1 v2 t1 t2 hs few cut root z kl nl sl d1 d2 row down has holds stp bel heat cells sc wi mem srt inn inj out lays ap kind rd rds bump cool weak types foreign rows cong form heat nodup s w
-/
import Derived.Test.YtbfjhgiifmhccaaHtO
set_option linter.unusedSimpArgs false
set_option linter.unusedVariables false
namespace Go.Proofs.Ytbfjhgiifmhccaa
open Go Go.RowKit
attribute [local go_sem] run_store_float

/-- who is within, as a row -/
def hrow (n : Nat) (H : Nat → Bool) : List Value := (List.range n).map fun i => .bool (H (i + 1))
theorem hrow_len (n : Nat) (H : Nat → Bool) : (hrow n H).length = n := by simp [hrow]
theorem hrow_at {n i : Nat} {H : Nat → Bool} (h : i < n) : (hrow n H)[i]? = some (.bool (H (i + 1))) := by unfold hrow; rw [List.getElem?_map, List.getElem?_range h]; rfl
theorem hrow_set {n v : Nat} {H : Nat → Bool} (q : Bool) (h1 : 1 ≤ v) (h2 : v ≤ n) : (hrow n H).set (v - 1) (.bool q) = hrow n (fun u => if u = v then q else H u) := by
  refine List.ext_getElem? fun i => ?_
  by_cases hi : i < n
  · rw [List.getElem?_set, hrow_at (H := fun u => if u = v then q else H u) hi]
    by_cases e : v - 1 = i
    · subst e
      rw [if_pos rfl, if_pos (by rw [hrow_len]; exact hi), if_pos (by omega)]
    · rw [if_neg e, hrow_at hi, if_neg (by omega)]
  · rw [List.getElem?_eq_none (by rw [List.length_set, hrow_len]; omega), List.getElem?_eq_none (by rw [hrow_len]; omega)]
theorem drop_at {K : List Nat} {v : Nat} (h1 : 1 ≤ v) (h2 : v < K.length) : (f64s (K.drop 1))[v - 1]? = some (.float .f64 (gt K v)) := by
  unfold f64s
  rw [List.getElem?_map, List.getElem?_drop, show 1 + (v - 1) = v by omega, gt_at h2]; rfl
theorem drop_set {K : List Nat} {v x : Nat} (h1 : 1 ≤ v) : (K.drop 1).set (v - 1) x = (K.set v x).drop 1 := by
  rw [List.drop_set, if_neg (by omega)]
structure Rv where
  S : Value
  W : Value
def Rv.own (s : Rv) (b k : Nat) : Prop := k = b ∨ some k = s.S.ownBlock ∨ some k = s.W.ownBlock
/-- the document's Heat -/
structure Rz (B : Nat) (W : World) (b : Nat) (s : Rv) (n dec st : Nat) (K : List Nat) (H : Nat → Bool) : Prop where
  box : W.heap[b]? = some (.cells #[s.S, s.W, .float .f64 st, .float .f64 dec] 73 (0, 0))
  hb : B ≤ b
  sc : W.ownsRow B 23 1 s.S n (f64s (K.drop 1))
  wi : W.ownsRow B 4 1 s.W n (hrow n H)
  kl : K.length = n + 1
  nl : n ≤ 1048576
  fin : Fin K
  sl : st ≤ infR
  d1 : 4602678819172646912 ≤ dec
  d2 : dec ≤ 4607182418800017408
section
variable {B b n dec st : Nat} {s : Rv} {K : List Nat} {H : Nat → Bool} {W W' : World}
theorem Rz.blt (h : Rz B W b s n dec st K H) : b < W.heap.size := (Array.getElem?_eq_some_iff.1 h.box).1
theorem Rz.lt (h : Rz B W b s n dec st K H) : ∀ k, s.own b k → B ≤ k ∧ k < W.heap.size := by
  rintro k (rfl | hk | hk)
  · exact ⟨h.hb, h.blt⟩
  · exact h.sc.lt k hk.symm
  · exact h.wi.lt k hk.symm
theorem Rz.kept (h : Rz B W b s n dec st K H) (hk : ∀ k, s.own b k → W'.heap[k]? = W.heap[k]?) : Rz B W' b s n dec st K H :=
  ⟨(hk b (.inl rfl)).trans h.box, h.hb, row_kept h.sc fun k e => hk k (.inr (.inl e)), row_kept h.wi fun k e => hk k (.inr (.inr e)), h.kl, h.nl, h.fin, h.sl, h.d1, h.d2⟩
theorem Rz.below (h : Rz B W b s n dec st K H) (hb : Below W.heap.size W W') : Rz B W' b s n dec st K H := h.kept fun k hk => hb.block k (h.lt k hk).2
theorem Rz.other {Q Q' : Nat → Prop} (h : Rz B W b s n dec st K H) (hm : Mf W Q W' Q') (hd : ∀ k, s.own b k → ¬ Q k) : Rz B W' b s n dec st K H := h.kept fun k hk => hm.block k (h.lt k hk).2 (hd k hk)
theorem Rz.cells (h : Rz B W b s n dec st K H) : W.cell? ⟨b, 0, none⟩ = some s.S ∧ W.cell? ⟨b, 1, none⟩ = some s.W ∧ W.cell? ⟨b, 2, none⟩ = some (.float .f64 st) ∧ W.cell? ⟨b, 3, none⟩ = some (.float .f64 dec) ∧ ∀ j, W.frozen? ⟨b, j, none⟩ = false := by
  have hb := h.box
  exact ⟨by simp [World.cell?, hb], by simp [World.cell?, hb], by simp [World.cell?, hb], by simp [World.cell?, hb], fun j => by simp [World.frozen?, hb]⟩
theorem Rz.setS (h : Rz B W b s n dec st K H) {g cap v : Nat} (hv : s.S = .slice (some ⟨g, 0, none⟩) n cap) (h1 : 1 ≤ v) (h2 : v ≤ n) {x : Nat} (hx : x ≤ infR) : Rz B (W.setCell ⟨g, v - 1, none⟩ (.float .f64 x)) b s n dec st (K.set v x) H ∧ Mf W (s.own b) (W.setCell ⟨g, v - 1, none⟩ (.float .f64 x)) (s.own b) := by
  have hg := grown_set W ⟨g, v - 1, none⟩ (.float .f64 x)
  have ht : ∀ y, some g = some y → Tf W y 23 := fun y e => row_tf h.sc (by rw [hv, ← e]; rfl)
  refine ⟨⟨box_oth h.box hg ht (by decide), h.hb, ?_, row_oth h.wi hg ht (by decide), by rw [List.length_set]; exact h.kl, h.nl, fin_set h.fin hx, h.sl, h.d1, h.d2⟩, Mf.grown hg fun y e => .inr (.inl (by rw [hv, ← e]; rfl))⟩
  have hs := h.sc
  rw [hv] at hs ⊢
  rw [← drop_set h1, f64s_set]
  exact own_cell hs (by omega) _
theorem Rz.setW (h : Rz B W b s n dec st K H) {g cap v : Nat} (hv : s.W = .slice (some ⟨g, 0, none⟩) n cap) (h1 : 1 ≤ v) (h2 : v ≤ n) (q : Bool) : Rz B (W.setCell ⟨g, v - 1, none⟩ (.bool q)) b s n dec st K (fun u => if u = v then q else H u) ∧ Mf W (s.own b) (W.setCell ⟨g, v - 1, none⟩ (.bool q)) (s.own b) := by
  have hg := grown_set W ⟨g, v - 1, none⟩ (.bool q)
  have ht : ∀ y, some g = some y → Tf W y 4 := fun y e => row_tf h.wi (by rw [hv, ← e]; rfl)
  refine ⟨⟨box_oth h.box hg ht (by decide), h.hb, row_oth h.sc hg ht (by decide), ?_, h.kl, h.nl, h.fin, h.sl, h.d1, h.d2⟩, Mf.grown hg fun y e => .inr (.inr (by rw [hv, ← e]; rfl))⟩
  have hs := h.wi
  rw [hv] at hs ⊢
  rw [← hrow_set q h1 h2]
  exact own_cell hs (by omega) _
theorem Rz.setT (h : Rz B W b s n dec st K H) {x : Nat} (hx : x ≤ infR) : Rz B (W.setCell ⟨b, 2, none⟩ (.float .f64 x)) b s n dec x K H ∧ Mf W (s.own b) (W.setCell ⟨b, 2, none⟩ (.float .f64 x)) (s.own b) := by
  have hg := grown_set W ⟨b, 2, none⟩ (.float .f64 x)
  refine ⟨⟨set_heap h.box 2 _, h.hb, set_oth h.box h.sc (by decide), set_oth h.box h.wi (by decide), h.kl, h.nl, h.fin, hx, h.d1, h.d2⟩, Mf.grown hg fun y e => .inl ?_⟩
  simpa using e.symm

theorem rscore_no (x : Int) (w : World) (h : Rz B w b s n dec st K H) (hx : ¬ (1 ≤ x ∧ x ≤ n)) :
    Calls Try.prog 33 #[.pointer (some ⟨b, 0, none⟩), .int .i64 x] w fun e w' => e = .returned (.tuple #[.float .f64 0, .int .i64 2]) ∧ w' = w := by
  obtain ⟨c0, _, _, _, _⟩ := h.cells
  obtain ⟨a, c, e⟩ := row_form' h.sc
  rw [e] at c0
  have hn := h.nl
  clear h e
  by_cases h1 : x < 1
  · clear hx
    go_enter Try.func33, Try.ntmps33
    go_wp2
    go_returns
    exact ⟨rfl, rfl⟩
  · have h2 : (n : Int) < x := by omega
    clear hx
    go_enter Try.func33, Try.ntmps33
    go_wp2
    go_returns
    exact ⟨rfl, rfl⟩
theorem rscore_yes (m : Nat) (w : World) (h : Rz B w b s n dec st K H) (h1 : 1 ≤ m) (h2 : m ≤ n) :
    Calls Try.prog 33 #[.pointer (some ⟨b, 0, none⟩), .int .i64 (m : Int)] w fun e w' => e = .returned (.tuple #[.float .f64 (gt K m), .int .i64 0]) ∧ w' = w := by
  obtain ⟨c0, _, _, _, _⟩ := h.cells
  obtain ⟨g, c, e, k1, k2, k3⟩ := row_some h.sc (by omega)
  have hs := h.sc
  rw [e] at c0 hs
  have xk := row_cell hs (drop_at h1 (by rw [h.kl]; omega))
  have hn := h.nl
  obtain ⟨m1, rfl⟩ : ∃ m1, m = m1 + 1 := ⟨m - 1, by omega⟩
  rw [Nat.add_sub_cancel] at xk
  have hm1 : ((m1 + 1 : Nat) : Int) - 1 = (m1 : Int) := by omega
  clear h e hs
  generalize gt K (m1 + 1) = y at *
  go_enter Try.func33, Try.ntmps33
  go_wp2
  go_returns
  exact ⟨rfl, rfl⟩
theorem rin_any (x : Int) (w : World) (h : Rz B w b s n dec st K H) :
    Calls Try.prog 32 #[.pointer (some ⟨b, 0, none⟩), .int .i64 x] w fun e w' => e = .returned (.bool (inB n H x)) ∧ w' = w := by
  obtain ⟨c0, c1, c2', c3', c4'⟩ := h.cells
  have hn := h.nl
  clear c2' c3' c4'
  by_cases hx : 1 ≤ x ∧ x ≤ n
  · obtain ⟨g, c, e, k1, k2, k3⟩ := row_some h.wi (by omega)
    obtain ⟨g0, cc0, e0⟩ := row_form' h.sc
    have hs := h.wi
    rw [e] at c1 hs
    rw [e0] at c0
    obtain ⟨m1, rfl⟩ : ∃ m1 : Nat, x = ((m1 + 1 : Nat) : Int) := ⟨x.toNat - 1, by omega⟩
    have xk := row_cell hs (hrow_at (i := m1) (by omega))
    have HE : Hid (H (m1 + 1) = inB n H ((m1 + 1 : Nat) : Int)) := by show _ = _; unfold inB; rw [decide_eq_true hx, Int.toNat_natCast]; rfl
    have hml : m1 < n := by omega
    clear h e hs e0 hx
    generalize inB n H ((m1 + 1 : Nat) : Int) = r at *
    generalize H (m1 + 1) = y at *
    go_enter Try.func32, Try.ntmps32
    go_wp2
    go_ret
    exact ⟨ret_bool HE.out, rfl⟩
  · have HE : Hid (false = inB n H x) := by show _ = _; unfold inB; rw [decide_eq_false hx]; rfl
    obtain ⟨g0, cc0, e0⟩ := row_form' h.sc
    rw [e0] at c0
    clear h e0 c1
    generalize inB n H x = r at *
    by_cases h1 : 1 ≤ x
    · have h2 : ¬ x ≤ n := fun h => hx ⟨h1, h⟩
      clear hx
      go_enter Try.func32, Try.ntmps32
      go_wp2
      go_ret
      exact ⟨ret_bool HE.out, rfl⟩
    · clear hx
      go_enter Try.func32, Try.ntmps32
      go_wp2
      go_ret
      exact ⟨ret_bool HE.out, rfl⟩
theorem rput_no (x : Int) (w : World) (h : Rz B w b s n dec st K H) (hx : ¬ (1 ≤ x ∧ x ≤ n)) :
    Calls Try.prog 31 #[.pointer (some ⟨b, 0, none⟩), .int .i64 x] w fun e w' => e = .returned (.int .i64 2) ∧ w' = w := by
  obtain ⟨c0, _, _, _, _⟩ := h.cells
  obtain ⟨a, c, e⟩ := row_form' h.sc
  rw [e] at c0
  have hn := h.nl
  clear h e
  by_cases h1 : x < 1
  · clear hx
    go_enter Try.func31, Try.ntmps31
    go_wp2
    go_ret
    exact ⟨rfl, rfl⟩
  · have h2 : (n : Int) < x := by omega
    clear hx
    go_enter Try.func31, Try.ntmps31
    go_wp2
    go_ret
    exact ⟨rfl, rfl⟩
theorem rput_set (m : Nat) (w : World) (h : Rz B w b s n dec st K H) (h1 : 1 ≤ m) (h2 : m ≤ n) (h0 : H m = true) :
    Calls Try.prog 31 #[.pointer (some ⟨b, 0, none⟩), .int .i64 (m : Int)] w fun e w' => e = .returned (.int .i64 50) ∧ w' = w := by
  obtain ⟨c0, c1, _, _, _⟩ := h.cells
  obtain ⟨g, c, e, k1, k2, k3⟩ := row_some h.wi (by omega)
  obtain ⟨g0, cc0, e0⟩ := row_form' h.sc
  have hs := h.wi
  rw [e] at c1 hs
  rw [e0] at c0
  obtain ⟨m1, rfl⟩ : ∃ m1, m = m1 + 1 := ⟨m - 1, by omega⟩
  have xk := row_cell hs (hrow_at (i := m1) (by omega))
  rw [h0] at xk
  have hn := h.nl
  clear h e hs e0 h0
  go_enter Try.func31, Try.ntmps31
  go_wp2
  go_ret
  exact ⟨rfl, rfl⟩
theorem rput_yes (m : Nat) (w : World) (h : Rz B w b s n dec st K H) (h1 : 1 ≤ m) (h2 : m ≤ n) (h0 : H m = false) :
    Calls Try.prog 31 #[.pointer (some ⟨b, 0, none⟩), .int .i64 (m : Int)] w fun e w' => e = .returned (.int .i64 0) ∧ Rz B w' b s n dec st K (fun u => if u = m then true else H u) ∧ Mf w (s.own b) w' (s.own b) := by
  obtain ⟨c0, c1, _, _, _⟩ := h.cells
  obtain ⟨g, c, e, k1, k2, k3⟩ := row_some h.wi (by omega)
  obtain ⟨g0, cc0, e0⟩ := row_form' h.sc
  have hs := h.wi
  have HF := h.setW e h1 h2 true
  rw [e] at c1 hs
  rw [e0] at c0
  obtain ⟨m1, rfl⟩ : ∃ m1, m = m1 + 1 := ⟨m - 1, by omega⟩
  have xk := row_cell hs (hrow_at (i := m1) (by omega))
  have zk := row_fz hs m1
  rw [h0] at xk
  rw [Nat.add_sub_cancel] at HF
  have HF' : Hid (Rz B (w.setCell ⟨g, m1, none⟩ (.bool true)) b s n dec st K (fun u => if u = m1 + 1 then true else H u) ∧ Mf w (s.own b) (w.setCell ⟨g, m1, none⟩ (.bool true)) (s.own b)) := HF
  have hn := h.nl
  clear h e hs e0 h0 HF
  go_enter Try.func31, Try.ntmps31
  go_wp2
  go_ret
  exact ⟨rfl, HF'.out⟩
end
end Go.Proofs.Ytbfjhgiifmhccaa
