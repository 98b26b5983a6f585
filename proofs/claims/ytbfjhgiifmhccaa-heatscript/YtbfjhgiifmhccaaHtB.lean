/-
  heat: a Heat as it lies; raise, put, take.
  KEEP: set on app at below new trans refl start kept mono lt add none own nil put len pos other cell ty blt fz box k p r pr a0 a1 a2 c0 c1 c2 hb setK setP setR unique grown step fin bij up q1 q2 pl held mk v1 v2 t1 t2 hs few cut root
-/
import Derived.Test.YtbfjhgiifmhccaaHtS
import Derived.Test.YtbfjhgiifmhccaaAppK
set_option linter.unusedSimpArgs false
set_option linter.unusedVariables false
namespace Go.Proofs.Ytbfjhgiifmhccaa
open Go Go.RowKit

theorem Try.info21 : (Try.prog.info? 21).map (fun i => (i.zero, i.size, i.bytes)) = some (some (.int .i32 0), 1, 4) := by kernel_rfl

attribute [local go_sem] run_store_float
/-- unlike numbers from 1 to n are at most n -/
theorem few_of : ∀ (n : Nat) (l : List Nat), l.Nodup → (∀ x ∈ l, 1 ≤ x ∧ x ≤ n) → l.length ≤ n
  | 0, l, _, h => by
    cases l with
    | nil => simp
    | cons a r => have := h a (by simp); omega
  | n + 1, l, hd, h => by
    by_cases hm : n + 1 ∈ l
    · have := few_of n (l.erase (n + 1)) (hd.erase _) fun x hx => by
        have h1 := h x (List.mem_of_mem_erase hx)
        have h2 : x ≠ n + 1 := fun e => by subst e; exact absurd hx (hd.not_mem_erase)
        omega
      rw [List.length_erase_of_mem hm] at this
      omega
    · have := few_of n l hd fun x hx => by
        have h1 := h x hx
        have h2 : x ≠ n + 1 := fun e => by subst e; exact hm hx
        omega
      omega
def hld (R : List Nat) : List Nat := (List.range (R.length - 1)).map fun i => gt R (i + 1)
theorem Bij.nodup {n : Nat} {R P : List Nat} (h : Bij n R P) : (hld R).Nodup := by
  unfold hld
  rw [List.Nodup, List.pairwise_map]
  refine List.Pairwise.imp_of_mem ?_ (List.nodup_range (n := R.length - 1))
  intro a b ha hb hab e
  rw [List.mem_range] at ha hb
  exact hab (by have := h.inj (by omega) (by omega) (by omega) (by omega) e; omega)
theorem Bij.few {n : Nat} {R P : List Nat} (h : Bij n R P) : R.length ≤ n + 1 := by
  have := few_of n (hld R) h.nodup fun x hx => by
    obtain ⟨i, hi, rfl⟩ := List.mem_map.1 hx
    rw [List.mem_range] at hi
    have := h.inn (i + 1) (by omega) (by omega)
    exact ⟨this.1, this.2.1⟩
  have hp := h.pos
  have hl : (hld R).length = R.length - 1 := by simp [hld]
  omega

/-- the three rows of a Heat -/
structure Hv where
  K : Value
  P : Value
  R : Value
def Hv.hs (v : Hv) (dec st : Nat) : Hs := ⟨#[.float .f64 dec, .float .f64 st, v.K, v.P, v.R], 70, 2, v.K, v.P, v.R⟩
def Hv.own (v : Hv) (b k : Nat) : Prop := k = b ∨ some k = v.K.ownBlock ∨ some k = v.P.ownBlock ∨ some k = v.R.ownBlock
/-- a Heat: its box, the decay, the step, the scores, and who is within -/
structure Ht (B : Nat) (W : World) (b : Nat) (v : Hv) (n dec st : Nat) (K : List Nat) (H : Nat → Bool) : Prop where
  z : ∃ P R, Hz B W b (v.hs dec st) K P R ∧ Bij n R P ∧ HP (gt K) R 1 ∧ ∀ u, 1 ≤ u → u ≤ n → (gt P u ≠ 0 ↔ H u = true)
  kl : K.length = n + 1
  nl : n ≤ 1048576
  fin : Fin K
  sl : st ≤ infR
  d1 : 4602678819172646912 ≤ dec
  d2 : dec ≤ 4607182418800017408
def HtS (B b : Nat) (v : Hv) (n dec st : Nat) (K : List Nat) (H : Nat → Bool) (w w' : World) : Prop := ∃ v', Ht B w' b v' n dec st K H ∧ Mf w (v.own b) w' (v'.own b)
section
variable {B b n dec st : Nat} {v : Hv} {K : List Nat} {H : Nat → Bool} {W W' : World}
theorem Ht.lt (h : Ht B W b v n dec st K H) : ∀ k, v.own b k → B ≤ k ∧ k < W.heap.size := by
  obtain ⟨P, R, hz, _⟩ := h.z
  exact hz.lt
theorem Ht.kept (h : Ht B W b v n dec st K H) (hk : ∀ k, v.own b k → W'.heap[k]? = W.heap[k]?) : Ht B W' b v n dec st K H := by
  obtain ⟨P, R, hz, h1⟩ := h.z
  exact ⟨⟨P, R, hz.kept hk, h1⟩, h.kl, h.nl, h.fin, h.sl, h.d1, h.d2⟩
theorem Ht.below (h : Ht B W b v n dec st K H) (hb : Below W.heap.size W W') : Ht B W' b v n dec st K H := h.kept fun k hk => hb.block k (h.lt k hk).2
theorem Ht.other {Q Q' : Nat → Prop} (h : Ht B W b v n dec st K H) (hm : Mf W Q W' Q') (hd : ∀ k, v.own b k → ¬ Q k) : Ht B W' b v n dec st K H := h.kept fun k hk => hm.block k (h.lt k hk).2 (hd k hk)
theorem Ht.cell (h : Ht B W b v n dec st K H) : W.cell? ⟨b, 0, none⟩ = some (.float .f64 dec) ∧ W.cell? ⟨b, 1, none⟩ = some (.float .f64 st) ∧ W.frozen? ⟨b, 1, none⟩ = false := by
  obtain ⟨P, R, hz, _⟩ := h.z
  have hb := hz.box
  exact ⟨by simp [World.cell?, hb, Hv.hs], by simp [World.cell?, hb, Hv.hs], by simp [World.frozen?, hb, Hv.hs]⟩
theorem fin_set {x k : Nat} (h : Fin K) (hx : x ≤ infR) : Fin (K.set k x) := fun j => by
  by_cases hk : k < K.length
  · rw [gt_set hk]; split
    · exact hx
    · exact h j
  · rw [List.set_eq_of_length_le (by omega)]; exact h j

/-- raise -/
theorem raise_any (v0 x : Nat) (w : World) (hh : Ht B w b v n dec st K H) (hv : 1 ≤ v0) (hv' : v0 ≤ n) (hx : gt K v0 ≤ x) (hx' : x ≤ infR) :
    Calls Try.prog 40 #[.pointer (some ⟨b, 2, none⟩), .int .i64 (v0 : Int), .float .f64 x] w fun e w' => e = .returned (.tuple #[]) ∧ Ht B w' b v n dec st (K.set v0 x) H ∧ Mf w (v.own b) w' (v.own b) := by
  obtain ⟨P, R, hz, hb, hp, hheld⟩ := hh.z
  have hvK : v0 < K.length := by rw [hh.kl]; omega
  have hnl := hh.nl
  have hvP : v0 < P.length := by rw [hb.pl]; omega
  obtain ⟨gK, cK, eK, k1, k2, k3⟩ := row_some hz.k (by omega)
  have b0 := hz.c0
  have rK := hz.k
  rw [eK] at b0 rK
  have zK := row_fz rK v0
  have xK := row_cell rK (f64s_at hvK)
  have eK' : (v.hs dec st).K = .slice (some ⟨gK, 0, none⟩) K.length cK := eK
  obtain ⟨q1, m1⟩ := hz.setK eK' hvK x
  have hf' := fin_set (k := v0) hh.fin hx'
  have hkk : ∀ u, u ≠ v0 → gt (K.set v0 x) u = gt K u := fun u hu => by rw [gt_set hvK, if_neg hu]
  have hkv : gt (K.set v0 x) v0 = x := by rw [gt_set hvK, if_pos rfl]
  have hkl : (K.set v0 x).length = n + 1 := by rw [List.length_set]; exact hh.kl
  have hRl := hb.few
  have hwv := wr32m (z := v0) (by omega)
  have HH := holds_any v0 _ q1 hvP
  have b0' : w.cell? ⟨b, 2, none⟩ = some (.slice (some ⟨gK, 0, none⟩) K.length cK) := b0
  by_cases h0 : gt P v0 = 0
  · have HF : Hid (Ht B (w.setCell ⟨gK, v0, none⟩ (.float .f64 x)) b v n dec st (K.set v0 x) H ∧ Mf w (v.own b) (w.setCell ⟨gK, v0, none⟩ (.float .f64 x)) (v.own b)) := ⟨⟨⟨P, R, q1, hb, raise_out hb hp hkk h0, hheld⟩, hkl, hh.nl, hf', hh.sl, hh.d1, hh.d2⟩, m1⟩
    have HH2 : Hid (Calls Try.prog 36 #[.pointer (some ⟨b, 2, none⟩), .int .i64 (v0 : Int)] (w.setCell ⟨gK, v0, none⟩ (.float .f64 x)) fun e w' => e = .returned (.bool false) ∧ w' = w.setCell ⟨gK, v0, none⟩ (.float .f64 x)) := by
      have e : decide (gt P v0 ≠ 0) = false := by simp [h0]
      rw [e] at HH; exact HH
    clear HH q1 m1 hf' hkk hkv hkl hh hheld hz rK b0 eK eK' hb hp hx
    generalize K.length = NK at *
    generalize gt K v0 = y at *
    go_enter Try.func40, Try.ntmps40
    go_wp2_with (go_at_call 36; refine HH2.out.mono ?_; rintro e w' ⟨rfl, rfl⟩)
    go_end0
    exact ⟨rfl, HF.out⟩
  · have HF : Hid (Calls Try.prog 51 #[.pointer (some ⟨b, 2, none⟩), .int .i32 (v0 : Int)] (w.setCell ⟨gK, v0, none⟩ (.float .f64 x)) fun e w' => e = .returned (.tuple #[]) ∧ Ht B w' b v n dec st (K.set v0 x) H ∧ Mf w (v.own b) w' (v.own b)) := by
      refine (rise_any v0 _ q1 hf' hb hkl hh.nl (by omega) hv hv' h0 (raise_up hb hp hv hv' hkk (by rw [hkv]; exact hx) h0)).mono fun e w' h => ⟨h.1, ?_⟩
      obtain ⟨P', R', hzs, hb', hp', _, hl'⟩ := h.2
      exact ⟨⟨⟨P', R', hzs.1, hb', hp', fun u h1 h2 => (hl' u h1 h2).trans (hheld u h1 h2)⟩, hkl, hh.nl, hf', hh.sl, hh.d1, hh.d2⟩, m1.trans hzs.2⟩
    have HH2 : Hid (Calls Try.prog 36 #[.pointer (some ⟨b, 2, none⟩), .int .i64 (v0 : Int)] (w.setCell ⟨gK, v0, none⟩ (.float .f64 x)) fun e w' => e = .returned (.bool true) ∧ w' = w.setCell ⟨gK, v0, none⟩ (.float .f64 x)) := by
      have e : decide (gt P v0 ≠ 0) = true := by simp [h0]
      rw [e] at HH; exact HH
    clear HH q1 m1 hf' hkk hkv hkl hh hheld hz rK b0 eK eK' hb hp hx
    generalize K.length = NK at *
    generalize gt K v0 = y at *
    go_enter Try.func40, Try.ntmps40
    go_wp2_with (first | (go_at_call 36; refine HH2.out.mono ?_; rintro e w' ⟨rfl, rfl⟩) | (go_at_call 51; refine HF.out.mono ?_; rintro e w' ⟨rfl, hl⟩))
    go_end0
    exact ⟨rfl, hl⟩
end
end Go.Proofs.Ytbfjhgiifmhccaa
