/-
  heat: put and take of the heap.
  KEEP: set on app at below new trans refl start kept mono lt add none own nil put len pos other cell ty blt fz box k p r pr a0 a1 a2 c0 c1 c2 hb setK setP setR unique grown step fin bij up q1 q2 pl held mk v1 v2 t1 t2 hs few cut root z kl nl sl d1 d2 row
-/
import Derived.Test.YtbfjhgiifmhccaaHtB
set_option linter.unusedSimpArgs false
set_option linter.unusedVariables false
namespace Go.Proofs.Ytbfjhgiifmhccaa
open Go Go.RowKit

section
variable {B b n dec st : Nat} {v : Hv} {K P R : List Nat} {H : Nat → Bool} {W W1 : World}
/-- another row -/
theorem Hz.row {u : Value} {R' : List Nat} (h : Hz B W b (v.hs dec st) K P R) (hg : W.grownBy W1 v.R.ownBlock) (hn : u.ownBlock = v.R.ownBlock ∨ ∀ g, u.ownBlock = some g → W.heap.size ≤ g) (ho : W1.ownsRow B 21 1 u R'.length (i32n R')) :
    Hz B (W1.setCell ⟨b, 4, none⟩ u) b (({ v with R := u } : Hv).hs dec st) K P R' ∧ Mf W (v.own b) (W1.setCell ⟨b, 4, none⟩ u) (({ v with R := u } : Hv).own b) := by
  have ht : ∀ x, v.R.ownBlock = some x → Tf W x 21 := fun x e => row_tf h.r e.symm
  have hb := box_oth h.box hg ht h.t2
  have hp := row_ofs h.p hg (fun q hq e1 => h.pr q hq e1)
  refine ⟨⟨set_heap hb 4 u, h.hb, rfl, rfl, rfl, set_oth hb (row_oth h.k hg ht (by decide)) (Ne.symm h.t1), set_oth hb hp (Ne.symm h.t2), set_oth hb ho (Ne.symm h.t2), ?_, h.t1, h.t2⟩, ?_⟩
  · intro g hgp hgr
    rcases hn with hn | hn
    · exact h.pr g hgp (by rw [hgr]; exact hn)
    · have h1 := hn g hgr.symm
      have h2 := (h.p.lt g hgp.symm).2
      omega
  · have hs := grown_set W1 ⟨b, 4, none⟩ u
    refine ⟨hs.os.trans hg.os, hs.tape.trans hg.tape, hs.output.trans hg.output, Nat.le_trans hg.size hs.size, fun i hi h1 => ?_, ?_⟩
    · refine (hs.block i (Nat.lt_of_lt_of_le hi hg.size) fun e => h1 (.inl ?_)).trans (hg.block i hi fun e => h1 (.inr (.inr (.inr e))))
      simpa using e
    · rintro i (rfl | hi | hi | hi)
      · exact .inl (.inl rfl)
      · exact .inl (.inr (.inl hi))
      · exact .inl (.inr (.inr (.inl hi)))
      · rcases hn with hn | hn
        · exact .inl (.inr (.inr (.inr (hi.trans hn))))
        · exact .inr (hn i hi.symm)
theorem i32n_app (R : List Nat) (x : Nat) : i32n (R ++ [x]) = i32n R ++ [.int .i32 (x : Int)] := by simp [i32n]
theorem i32n_take (R : List Nat) (m : Nat) : i32n (R.take m) = (i32n R).take m := by unfold i32n; rw [List.map_take]
set_option maxHeartbeats 1000000 in
theorem hput_any (v0 : Nat) (w : World) (hh : Ht B w b v n dec st K H) (hv : 1 ≤ v0) (hv' : v0 ≤ n) (h0 : H v0 = false) :
    Calls Try.prog 39 #[.pointer (some ⟨b, 2, none⟩), .int .i64 (v0 : Int)] w fun e w' => e = .returned (.tuple #[]) ∧ HtS B b v n dec st K (fun u => if u = v0 then true else H u) w w' := by
  obtain ⟨P, R, hz, hb, hp, hheld⟩ := hh.z
  have hnl := hh.nl
  have hP0 : gt P v0 = 0 := by
    refine Classical.byContradiction fun hn => ?_
    have := (hheld v0 hv hv').1 hn
    rw [h0] at this; cases this
  obtain ⟨p1, p2, p3⟩ := put_up hb hp hv hv' hP0
  have hRl : R.length ≤ n := by have := p1.few; simp at this; omega
  have hpos := hb.pos
  obtain ⟨i0, hi0, hz0, hz1, hz2⟩ := info_parts Try.info21
  have HI : Hid (Try.prog.info? 21 = some i0 ∧ i0.zero = some (.int .i32 0) ∧ i0.size = 1 ∧ i0.bytes = 4) := ⟨hi0, hz0, hz1, hz2⟩
  obtain ⟨aR, cR, eR⟩ := row_form' hz.r
  have b2 : w.cell? ⟨b, 4, none⟩ = some v.R := hz.c2
  have eR' : v.R = .slice aR R.length cR := eR
  rw [eR'] at b2
  have hwv := wr32m (z := v0) (by omega)
  have HRow : Hid ((w.alloc (.cells #[.int .i32 0] 21)).ownsRow B 21 1 (.slice aR R.length cR) R.length (i32n R)) := by
    have := World.ownsRow.alloc hz.r (.cells #[.int .i32 0] 21)
    rw [eR] at this; exact this
  have HBs : Hid (B ≤ (w.alloc (.cells #[.int .i32 0] 21)).heap.size) := by
    show _ ≤ _
    have := hz.blt; have := hz.hb; simp; omega
  have HNew : Hid (∀ j u, [(Value.int .i32 0)][j]? = some u → (w.alloc (.cells #[.int .i32 0] 21)).cell? ((⟨w.heap.size, 0, none⟩ : Addr).add j) = some u) := cell_one_new _ _ _
  have HApp : Hid (∀ v8 w8, w8.ownsRow B 21 1 v8 (R.length + 1) (i32n R ++ [.int .i32 0]) → Ap (w.alloc (.cells #[.int .i32 0] 21)) (.slice aR R.length cR) w8 v8 →
      (∃ a8 c8, v8 = .slice a8 (R.length + 1) c8) ∧ w8.cell? ⟨b, 4, none⟩ = some (.slice aR R.length cR) ∧ w8.frozen? ⟨b, 4, none⟩ = false ∧ (w8.setCell ⟨b, 4, none⟩ v8).cell? ⟨b, 4, none⟩ = some v8 ∧ Hz B (w8.setCell ⟨b, 4, none⟩ v8) b (({ v with R := v8 } : Hv).hs dec st) K P (R ++ [0]) ∧ Mf w (v.own b) (w8.setCell ⟨b, 4, none⟩ v8) (({ v with R := v8 } : Hv).own b)) := fun v8 w8 own8 ap8 => by
    have hbel : Below w.heap.size w (w.alloc (.cells #[.int .i32 0] 21)) := (Below.refl _ _).alloc (Nat.le_refl _) _
    have hz' := hz.below hbel
    have hg8 := ap8.grown
    rw [← eR'] at hg8
    have hn8 := ap8.new
    rw [← eR'] at hn8
    obtain ⟨q, m⟩ := hz'.row (u := v8) (R' := R ++ [0]) hg8 hn8 (by rw [i32n_app]; simpa using own8)
    have hbx := box_oth hz'.box hg8 (fun x e => row_tf hz'.r e.symm) hz'.t2
    refine ⟨row_form' own8, ?_, ?_, q.c2, q, (Mf.below hbel).trans m⟩
    · rw [← eR']; simp [World.cell?, hbx, Hv.hs]
    · simp [World.frozen?, hbx, Hv.hs]
  -- lay and rise
  have HLay : Hid (∀ v8 W8, Hz B W8 b (({ v with R := v8 } : Hv).hs dec st) K P (R ++ [0]) → Calls Try.prog 43 #[.pointer (some ⟨b, 2, none⟩), .int .i32 (v0 : Int), .int .i32 (R.length : Int)] W8 fun e w' => e = .returned (.tuple #[]) ∧ HzS B b (({ v with R := v8 } : Hv).hs dec st) K (P.set v0 R.length) (R ++ [v0]) W8 w') := fun v8 W8 h8 => by
    refine (lay_any v0 R.length W8 h8 (by rw [hb.pl]; omega) (by simp) (by rw [hb.pl]; omega) (by simp; omega)).mono fun e w' h => ⟨h.1, ?_⟩
    have := h.2
    rw [List.set_append_right (h := by omega), Nat.sub_self] at this
    exact this
  have hPv : gt (P.set v0 R.length) v0 = R.length := by rw [p3, if_pos rfl]
  have HRise : Hid (∀ v8 W8, Hz B W8 b (({ v with R := v8 } : Hv).hs dec st) K (P.set v0 R.length) (R ++ [v0]) → Mf w (v.own b) W8 (({ v with R := v8 } : Hv).own b) → Calls Try.prog 51 #[.pointer (some ⟨b, 2, none⟩), .int .i32 (v0 : Int)] W8 fun e w' => e = .returned (.tuple #[]) ∧ HtS B b v n dec st K (fun u => if u = v0 then true else H u) w w') := fun v8 W8 h8 m8 => by
    refine (rise_any v0 W8 h8 hh.fin p1 hh.kl hh.nl (by simp; omega) hv hv' (by rw [hPv]; omega) (by rw [hPv]; exact p2)).mono fun e w' h => ⟨h.1, ?_⟩
    obtain ⟨P', R', hzs, hb', hp', _, hl'⟩ := h.2
    refine ⟨{ v with R := v8 }, ⟨⟨P', R', hzs.1, hb', hp', fun u h1 h2 => (hl' u h1 h2).trans ?_⟩, hh.kl, hh.nl, hh.fin, hh.sl, hh.d1, hh.d2⟩, m8.trans hzs.2⟩
    show gt (P.set v0 R.length) u ≠ 0 ↔ _
    rw [p3]
    by_cases e : u = v0
    · rw [if_pos e, if_pos e]; exact ⟨fun _ => rfl, fun _ => by omega⟩
    · rw [if_neg e, if_neg e]; exact hheld u h1 h2
  have hl63 : R.length + 1 ≤ maxLen := by unfold maxLen; omega
  have hl48 : (R.length + 1) * 4 ≤ 140737488355328 := by omega
  have hwR := wr32m (z := R.length) (by omega)
  clear hz hb hp hheld hh p1 p2 p3 hPv eR eR' hP0 hi0 hz0 hz1 hz2
  generalize hXN : R ++ [v0] = RV at *
  generalize hX0 : R ++ [0] = RZ at *
  generalize hPX : P.set v0 R.length = PV at *
  generalize i32n R = xs at *
  generalize R.length = N at *
  clear hXN hX0 hPX
  go_enter Try.func39, Try.ntmps39
  go_wp2_with (first | (at_builtin; refine wpList_append_apk rfl _ _ 65 rfl B 21 i0 (.int .i32 0) 1 4 Try.underlying65 HI.out.1 HI.out.2.1 HI.out.2.2.1 HI.out.2.2.2 rfl (by decide) (.slice aR N cR) N xs rfl HRow.out ⟨w.heap.size, 0, none⟩ 1 1 [.int .i32 0] rfl rfl HNew.out (by simp [Value.oneCell']) hl63 hl48 HBs.out ?_; intro v8 w8 own8 ap8; obtain ⟨⟨a8, c8, hv8⟩, q1, q2, q3, q4, q5⟩ := HApp.out v8 w8 own8 ap8; subst hv8; have HQ4 : Hid _ := q4; have HQ5 : Hid _ := q5; clear own8 ap8 q4 q5) | (go_at_call 43; refine (HLay.out _ _ HQ4.out).mono ?_; rintro e w9 ⟨rfl, h9⟩; have HQ9 : Hid _ := h9; clear h9) | (go_at_call 51; refine (HRise.out _ _ HQ9.out.1 (HQ5.out.trans HQ9.out.2)).mono ?_; rintro e w' ⟨rfl, hl⟩))
  go_end0
  exact ⟨rfl, hl⟩
theorem Bij.empty {n : Nat} {R P : List Nat} (hb : Bij n R P) (h : ∀ u, 1 ≤ u → u ≤ n → gt P u = 0) : R.length = 1 := by
  have := hb.pos
  refine Classical.byContradiction fun hn => ?_
  have a := hb.inn 1 (by omega) (by omega)
  have := h _ a.1 a.2.1
  omega
theorem htake_no (w : World) (hh : Ht B w b v n dec st K H) (hn : ∀ u, 1 ≤ u → u ≤ n → H u = false) :
    Calls Try.prog 38 #[.pointer (some ⟨b, 2, none⟩)] w fun e w' => e = .returned (.tuple #[.int .i64 0, .bool false]) ∧ w' = w := by
  obtain ⟨P, R, hz, hb, hp, hheld⟩ := hh.z
  have hl : R.length = 1 := hb.empty fun u h1 h2 => by
    refine Classical.byContradiction fun h0 => ?_
    have := (hheld u h1 h2).1 h0
    rw [hn u h1 h2] at this; cases this
  obtain ⟨aR, cR, eR⟩ := row_form' hz.r
  have b2 : w.cell? ⟨b, 4, none⟩ = some v.R := hz.c2
  have eR' : v.R = .slice aR R.length cR := eR
  rw [eR', hl] at b2
  clear hz hb hp hheld hh eR eR' hn
  go_enter Try.func38, Try.ntmps38
  go_wp2
  go_returns
  exact ⟨rfl, rfl⟩
theorem first_is {n t : Nat} {κ : Nat → Nat} {R P : List Nat} {H : Nat → Bool} (hb : Bij n R P) (hp : HP κ R 1) (hheld : ∀ u, 1 ≤ u → u ≤ n → (gt P u ≠ 0 ↔ H u = true)) (h1 : 1 ≤ t) (h2 : t ≤ n) (ht : H t = true) (hm : ∀ u, 1 ≤ u → u ≤ n → H u = true → ahd κ u t = false) : 2 ≤ R.length ∧ gt R 1 = t := by
  have h0 := (hheld t h1 h2).2 ht
  have o := hb.out t h1 h2
  have hl : 2 ≤ R.length := by have := o.1; omega
  have a := hb.inn 1 (by omega) (by omega)
  refine ⟨hl, ahd_total (hm _ a.1 a.2.1 ((hheld _ a.1 a.2.1).1 (by rw [a.2.2]; omega))) ?_⟩
  have := hp.root (gt P t) (by omega) o.1
  rw [o.2 h0] at this
  exact this
set_option maxHeartbeats 1000000 in
theorem htake_yes (t : Nat) (w : World) (hh : Ht B w b v n dec st K H) (h1 : 1 ≤ t) (h2 : t ≤ n) (ht : H t = true) (hm : ∀ u, 1 ≤ u → u ≤ n → H u = true → ahd (gt K) u t = false) :
    Calls Try.prog 38 #[.pointer (some ⟨b, 2, none⟩)] w fun e w' => e = .returned (.tuple #[.int .i64 (t : Int), .bool true]) ∧ HtS B b v n dec st K (fun u => if u = t then false else H u) w w' := by
  obtain ⟨P, R, hz, hb, hp, hheld⟩ := hh.z
  have hnl := hh.nl
  obtain ⟨hl2, e1⟩ := first_is hb hp hheld h1 h2 ht hm
  have hfew := hb.few
  obtain ⟨m, hm1⟩ : ∃ m, R.length = m + 1 := ⟨R.length - 1, by omega⟩
  obtain ⟨gR, cR, eR, k1, k2, k3⟩ := row_some hz.r (by omega)
  obtain ⟨gP, cP, eP, j1, j2, j3⟩ := row_some hz.p (by rw [hb.pl]; omega)
  have b2 : w.cell? ⟨b, 4, none⟩ = some v.R := hz.c2
  have f2 : w.frozen? ⟨b, 4, none⟩ = false := hz.fz 4
  have eR' : v.R = .slice (some ⟨gR, 0, none⟩) R.length cR := eR
  have eP' : v.P = .slice (some ⟨gP, 0, none⟩) P.length cP := eP
  have rR := hz.r
  rw [eR] at rR
  rw [eR'] at b2
  have x1 := row_cell rR (i32n_at (show 1 < R.length by omega))
  have xm := row_cell rR (i32n_at (show m < R.length by omega))
  rw [e1] at x1
  -- the row cut
  have hcutR := own_cut rR (m := m) (by omega)
  rw [Nat.mul_one, ← i32n_take] at hcutR
  have htl : (R.take m).length = m := by simp; omega
  have hcut : ∀ W, Below w.heap.size w W → Hz B (W.setCell ⟨b, 4, none⟩ (.slice (some ⟨gR, 0, none⟩) m cR)) b (({ v with R := .slice (some ⟨gR, 0, none⟩) m cR } : Hv).hs dec st) K P (R.take m) ∧ Mf w (v.own b) (W.setCell ⟨b, 4, none⟩ (.slice (some ⟨gR, 0, none⟩) m cR)) (({ v with R := .slice (some ⟨gR, 0, none⟩) m cR } : Hv).own b) := fun W hW => by
    have hz' := hz.below hW
    have rR' := hz'.r
    rw [eR] at rR'
    have hc' := own_cut rR' (m := m) (by omega)
    rw [Nat.mul_one, ← i32n_take] at hc'
    obtain ⟨q, mq⟩ := hz'.row (W1 := W) (u := .slice (some ⟨gR, 0, none⟩) m cR) (R' := R.take m) ⟨rfl, rfl, rfl, Nat.le_refl _, fun _ _ _ => rfl⟩ (.inl (by rw [eR']; rfl)) (by rw [htl]; exact hc')
    exact ⟨q, (Mf.below hW).trans mq⟩
  have hP1 : (gt P t) < R.length := (hb.out t h1 h2).1
  have htP : t < P.length := by rw [hb.pl]; omega
  have hclr : ∀ W, Below w.heap.size w W → (W.setCell ⟨b, 4, none⟩ (.slice (some ⟨gR, 0, none⟩) m cR)).cell? ⟨b, 3, none⟩ = some (.slice (some ⟨gP, 0, none⟩) P.length cP) ∧ (W.setCell ⟨b, 4, none⟩ (.slice (some ⟨gR, 0, none⟩) m cR)).frozen? ⟨gP, t, none⟩ = false ∧ (W.setCell ⟨b, 4, none⟩ (.slice (some ⟨gR, 0, none⟩) m cR)).cell? ⟨gP, t, none⟩ = some (.int .i32 (gt P t : Nat)) ∧ HzS B b (({ v with R := .slice (some ⟨gR, 0, none⟩) m cR } : Hv).hs dec st) K (P.set t 0) (R.take m) (W.setCell ⟨b, 4, none⟩ (.slice (some ⟨gR, 0, none⟩) m cR)) ((W.setCell ⟨b, 4, none⟩ (.slice (some ⟨gR, 0, none⟩) m cR)).setCell ⟨gP, t, none⟩ (.int .i32 0)) := fun W hW => by
    obtain ⟨q, mq⟩ := hcut W hW
    have c1 : (W.setCell ⟨b, 4, none⟩ (.slice (some ⟨gR, 0, none⟩) m cR)).cell? ⟨b, 3, none⟩ = some v.P := q.c1
    rw [eP'] at c1
    have rP := q.p
    have eP2 : (({ v with R := .slice (some ⟨gR, 0, none⟩) m cR } : Hv).hs dec st).P = .slice (some ⟨gP, 0, none⟩) P.length cP := eP'
    have st := q.setP eP2 htP 0
    rw [eP2] at rP
    exact ⟨c1, row_fz rP t, row_cell rP (i32n_at htP), st⟩
  have HC : Hid (∀ W, Below w.heap.size w W → (W.setCell ⟨b, 4, none⟩ (.slice (some ⟨gR, 0, none⟩) m cR)).cell? ⟨b, 3, none⟩ = some (.slice (some ⟨gP, 0, none⟩) P.length cP) ∧ (W.setCell ⟨b, 4, none⟩ (.slice (some ⟨gR, 0, none⟩) m cR)).frozen? ⟨gP, t, none⟩ = false ∧ (W.setCell ⟨b, 4, none⟩ (.slice (some ⟨gR, 0, none⟩) m cR)).cell? ⟨gP, t, none⟩ = some (.int .i32 (gt P t : Nat))) := fun W hW => ⟨(hclr W hW).1, (hclr W hW).2.1, (hclr W hW).2.2.1⟩
  have HM : Hid (∀ W, Below w.heap.size w W → Hz B ((W.setCell ⟨b, 4, none⟩ (.slice (some ⟨gR, 0, none⟩) m cR)).setCell ⟨gP, t, none⟩ (.int .i32 0)) b (({ v with R := .slice (some ⟨gR, 0, none⟩) m cR } : Hv).hs dec st) K (P.set t 0) (R.take m) ∧ Mf w (v.own b) ((W.setCell ⟨b, 4, none⟩ (.slice (some ⟨gR, 0, none⟩) m cR)).setCell ⟨gP, t, none⟩ (.int .i32 0)) (({ v with R := .slice (some ⟨gR, 0, none⟩) m cR } : Hv).own b)) := fun W hW => ⟨(hclr W hW).2.2.2.1, (hcut W hW).2.trans (hclr W hW).2.2.2.2⟩
  have hwt := wr32 (z := t) (by omega)
  have hwm := wr32 (z := m) (by omega)
  clear hcut hclr hcutR
  by_cases hm2 : 2 ≤ m
  · obtain ⟨p1, p2, p3, p4⟩ := take_dn hb hp hm1 hm2
    rw [e1] at p1 p3 p4
    have bl := hb.inn m (by omega) (by omega)
    have HL : Hid (∀ W, Hz B W b (({ v with R := .slice (some ⟨gR, 0, none⟩) m cR } : Hv).hs dec st) K (P.set t 0) (R.take m) → Calls Try.prog 43 #[.pointer (some ⟨b, 2, none⟩), .int .i32 (gt R m : Nat), .int .i32 1] W fun e w' => e = .returned (.tuple #[]) ∧ HzS B b (({ v with R := .slice (some ⟨gR, 0, none⟩) m cR } : Hv).hs dec st) K ((P.set t 0).set (gt R m) 1) ((R.take m).set 1 (gt R m)) W w') := fun W hW => by
      exact lay_any (gt R m) 1 W hW (by rw [List.length_set, hb.pl]; omega) (by omega) (by rw [List.length_set, hb.pl]; omega) (by omega)
    have hq1 : gt ((P.set t 0).set (gt R m) 1) (gt R m) = 1 := by rw [p4, if_pos rfl]
    have HS : Hid (∀ W, Hz B W b (({ v with R := .slice (some ⟨gR, 0, none⟩) m cR } : Hv).hs dec st) K ((P.set t 0).set (gt R m) 1) ((R.take m).set 1 (gt R m)) → Mf w (v.own b) W (({ v with R := .slice (some ⟨gR, 0, none⟩) m cR } : Hv).own b) → Calls Try.prog 50 #[.pointer (some ⟨b, 2, none⟩), .int .i32 (gt R m : Nat)] W fun e w' => e = .returned (.tuple #[]) ∧ HtS B b v n dec st K (fun u => if u = t then false else H u) w w') := fun W hW mW => by
      refine (sink_any (gt R m) 1 W hW hh.fin p1 hh.kl hh.nl (by rw [List.length_set]; omega) bl.1 bl.2.1 (by rw [hq1]; omega) (by rw [hq1]; exact p2)).mono fun e w' h => ⟨h.1, ?_⟩
      obtain ⟨P', R', hzs, hb', hp', _, hl'⟩ := h.2
      refine ⟨_, ⟨⟨P', R', hzs.1, hb', hp', fun u h1 h2 => (hl' u h1 h2).trans ?_⟩, hh.kl, hh.nl, hh.fin, hh.sl, hh.d1, hh.d2⟩, mW.trans hzs.2⟩
      show gt ((P.set t 0).set (gt R m) 1) u ≠ 0 ↔ _
      rw [p4]
      by_cases ea : u = gt R m
      · rw [if_pos ea, if_neg (fun e => p3 (by rw [← ea, e]))]
        exact ⟨fun _ => (hheld u h1 h2).1 (by rw [ea, bl.2.2]; omega), fun _ => by omega⟩
      · rw [if_neg ea]
        by_cases eb : u = t
        · rw [if_pos eb, if_pos eb]; simp
        · rw [if_neg eb, if_neg eb]; exact hheld u h1 h2
    have hne : ((gt R m : Nat) : Int) ≠ (t : Int) := by omega
    have hneB : (((gt R m : Nat) : Int) == (t : Int)) = false := by simpa using hne
    have hwl := wr32 (z := gt R m) (by omega)
    clear hz hb hp hheld hh eR eR' eP eP' p1 p2 p3 p4 hq1 rR e1 hm
    generalize hxx : (R.take m).set 1 (gt R m) = RX at *
    generalize hyy : (P.set t 0).set (gt R m) 1 = PX at *
    generalize hzz : P.set t 0 = PZ at *
    generalize hrr : R.take m = RT at *
    clear hxx hyy hzz hrr
    generalize gt R m = l at *
    rw [hm1] at *
    generalize gt P t = pt at *
    generalize P.length = NP at *
    clear hm1 hl2 htl
    go_enter Try.func38, Try.ntmps38
    go_upto_region 4 with fail
    go_quiet (fail)
    have hWd : Below w.heap.size w (w.drewN nq) := below_drewN _ _
    have b2' : (w.drewN nq).cell? ⟨b, 4, none⟩ = some (.slice (some ⟨gR, 0, none⟩) (m + 1) cR) := b2
    have f2' : (w.drewN nq).frozen? ⟨b, 4, none⟩ = false := f2
    clear b2 f2 x1 xm
    generalize w.drewN nq = w2 at *
    obtain ⟨c1, c2, c3⟩ := HC.out w2 hWd
    go_wp2_with (first | (go_at_call 43; refine (HL.out _ (HM.out _ hWd).1).mono ?_; rintro e w9 ⟨rfl, h9⟩; have HQ9 : Hid _ := h9; clear h9) | (go_at_call 50; refine (HS.out _ HQ9.out.1 ((HM.out _ hWd).2.trans HQ9.out.2)).mono ?_; rintro e w' ⟨rfl, hl⟩))
    go_returns
    exact ⟨rfl, hl⟩
  · have hme : m = 1 := by omega
    subst hme
    obtain ⟨p1, p2, p3⟩ := take_one (κ := gt K) hb (by omega)
    rw [e1] at p1 p3
    have HF : Hid (∀ W, Below w.heap.size w W → HtS B b v n dec st K (fun u => if u = t then false else H u) w ((W.setCell ⟨b, 4, none⟩ (.slice (some ⟨gR, 0, none⟩) 1 cR)).setCell ⟨gP, t, none⟩ (.int .i32 0))) := fun W hW => by
      refine ⟨_, ⟨⟨_, _, (HM.out W hW).1, p1, p2, fun u h1 h2 => ?_⟩, hh.kl, hh.nl, hh.fin, hh.sl, hh.d1, hh.d2⟩, (HM.out W hW).2⟩
      rw [p3]
      by_cases eb : u = t
      · rw [if_pos eb, if_pos eb]; simp
      · rw [if_neg eb, if_neg eb]; exact hheld u h1 h2
    clear hz hb hp hheld hh eR eR' eP eP' p1 p2 p3 rR e1 hm HM xm
    have hlen2 : R.length = 2 := by omega
    rw [hlen2] at b2 k1
    clear hlen2
    generalize gt P t = pt at *
    generalize P.length = NP at *
    clear hm1 hl2 htl hP1 hfew hm2
    go_enter Try.func38, Try.ntmps38
    go_upto_region 4 with fail
    go_quiet (fail)
    have hWd : Below w.heap.size w (w.drewN nq) := below_drewN _ _
    have b2' : (w.drewN nq).cell? ⟨b, 4, none⟩ = some (.slice (some ⟨gR, 0, none⟩) 2 cR) := b2
    have f2' : (w.drewN nq).frozen? ⟨b, 4, none⟩ = false := f2
    clear b2 f2 x1
    generalize w.drewN nq = w2 at *
    obtain ⟨c1, c2, c3⟩ := HC.out w2 hWd
    go_wp2
    go_returns
    exact ⟨rfl, HF.out _ hWd⟩
end
end Go.Proofs.Ytbfjhgiifmhccaa
