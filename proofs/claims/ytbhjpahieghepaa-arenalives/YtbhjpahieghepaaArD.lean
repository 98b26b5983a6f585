/-
  arena: Drop and Put, walked.
  KEEP: set on app at below new trans refl start ap kept rd rds mono
-/
import Derived.Test.YtbhjpahieghepaaArW
set_option linter.unusedSimpArgs false
set_option linter.unusedVariables false
namespace Go.Proofs.Ytbhjpahieghepaa
open Go Go.RowKit

theorem own_wr {base : Nat} {w : World} {g cap n m : Nat} {Y : List Int} {z : Int} (h : Own base w (.slice (some ⟨g, 0, none⟩) n cap) Y) (hl : Y.length = n) :
    Own base (w.setCell ⟨g, m, none⟩ (.int .i64 z)) (.slice (some ⟨g, 0, none⟩) n cap) (Y.set m z) := by
  subst hl
  have := (World.ownsRow.stored h m (.int .i64 z)).1
  unfold Own
  rw [List.length_set, List.map_set]
  exact this
theorem own_free {base : Nat} {w : World} {g cap n m : Nat} {Y : List Int} (h : Own base w (.slice (some ⟨g, 0, none⟩) n cap) Y) : w.frozen? ⟨g, m, none⟩ = false := by
  rcases h.2 with ⟨e, _⟩ | ⟨g', cap', cur, e, _, hg, _⟩
  · cases e
  · injection e with e1 e2 e3
    injection e1 with e1
    injection e1 with e1
    subst e1
    simp [World.frozen?, hg]
theorem own_type {base : Nat} {w : World} {g cap n : Nat} {Y : List Int} (h : Own base w (.slice (some ⟨g, 0, none⟩) n cap) Y) : ∃ cur, w.heap[g]? = some (.cells cur 3 (0, 0)) := by
  rcases h.2 with ⟨e, _⟩ | ⟨g', cap', cur, e, _, hg, _⟩
  · cases e
  · injection e with e1 e2 e3
    injection e1 with e1
    injection e1 with e1
    subst e1
    exact ⟨cur, hg⟩
theorem bx_ne {base : Nat} {w : World} {g cap n b : Nat} {t : TypeId} {x y : Value} {Y : List Int} (h : Own base w (.slice (some ⟨g, 0, none⟩) n cap) Y) (hb : Bx2 w b t x y) (ht : t ≠ 3) : b ≠ g := by
  rintro rfl
  obtain ⟨cur, hc⟩ := own_type h
  rw [show w.heap[b]? = _ from hb] at hc
  injection hc with hc
  injection hc with _ e
  exact ht e
theorem Bx2.set_other {W : World} {D g o : Nat} {t : TypeId} {x y : Value} (h : Bx2 W D t x y) (hne : D ≠ g) (u : Value) : Bx2 (W.setCell ⟨g, o, none⟩ u) D t x y := h.kept (grown_set W ⟨g, o, none⟩ u) (by simpa using hne)
theorem own_set_other {base : Nat} {w : World} {v : Value} {zs : List Int} {b o : Nat} {t : TypeId} {x y : Value} (h : Own base w v zs) (hb : Bx2 w b t x y) (ht : t ≠ 3) (u : Value) : Own base (w.setCell ⟨b, o, none⟩ u) v zs :=
  World.ownsRow.kept h (grown_set w ⟨b, o, none⟩ u) (.inr (by
    intro e
    rcases h.2 with ⟨rfl, _⟩ | ⟨g', cap', cur, rfl, _⟩
    · cases e
    · cases e
      exact bx_ne h hb ht rfl))
theorem drop_count {S : List Seg} {k : Int} {s : Seg} (hf : find S k = some s) : (lv 0 (dropAt S k)).length + 1 = (lv 0 S).length := by
  rw [drop_lv hf]
  have hm : (0 + k, s.lits, s.learnt) ∈ lv 0 S := find_lv hf
  have hr := lv_rises S 0
  generalize lv 0 S = L at *
  induction L with
  | nil => cases hm
  | cons x r ih =>
    rw [List.pairwise_cons] at hr
    rcases List.mem_cons.1 hm with e | hm
    · subst e
      rw [List.filter_cons_of_neg (by simp), List.filter_eq_self.2 (fun y hy => by have := hr.1 y hy; simp at this ⊢; omega)]
      rfl
    · have h1 := hr.1 _ hm
      rw [List.filter_cons_of_pos (by simp at h1 ⊢; omega), List.length_cons, List.length_cons, ← ih hm hr.2]

set_option maxHeartbeats 1600000 in
theorem arDrop_some (b : Nat) (v : Value) (S : List Seg) (r : Int) (s : Seg) (w : World) (h : Ar w b v S) (hl : (flat S).length * 8 ≤ 140737488351232) (hf : find S r = some s) :
    Calls Try.prog 18 #[.pointer (some ⟨b, 0, none⟩), .int .i64 r] w fun e w' => e = .returned (.int .i64 0) ∧ Ar w' b v (dropAt S r) ∧ Mv w b v w' v := by
  have hr := h.rd hl
  have hh := has_find (k := r) h.ok
  rw [hf] at hh
  obtain ⟨a1, a2, a3, a4, a5, a6⟩ := find_get hf
  obtain ⟨k, rfl⟩ : ∃ k : Nat, r = k := ⟨r.toNat, by omega⟩
  have HRd : Hid (Rd w v (flat S)) := hr
  have hw := h.own
  obtain ⟨b2, off, c, rfl, hpos, hc, hm, hb, hcell⟩ := hr.cases.resolve_left (by rintro ⟨e, _⟩; rw [e] at a5; simp at a5; omega)
  obtain rfl : off = 0 := by
    rcases hw.2 with ⟨e, _⟩ | ⟨g, cap, cur, e, _⟩
    · cases e
    · injection e with e1 e2 e3
      injection e1 with e1
      injection e1
  have hk := hcell k (by omega)
  simp only [Int.toNat_natCast] at a3
  rw [a3, Nat.zero_add] at hk
  have hkl : k < (flat S).length := by omega
  have hs1 := hd0_pos s.lits.length s.learnt
  have hs2 := hd0_le s.lits.length s.learnt
  have hz : hdOf s = hd0 s.lits.length s.learnt := by unfold hdOf; rw [a2]; rfl
  have hz1 : 0 ≤ hdOf s := by omega
  have hz2 : hdOf s ≤ 4611686018427387904 := by omega
  have HA : Hid (Ar w b (.slice (some ⟨b2, 0, none⟩) (flat S).length c) S) := h
  have HBx : Hid (Bx2 w b 75 (.slice (some ⟨b2, 0, none⟩) (flat S).length c) (.int .i64 (lv 0 S).length)) := h.box
  have c0 := h.box.c0
  have c1 := h.box.c1
  have f1 := h.box.f1
  have fz := own_free (m := k) hw
  have hne := bx_ne hw h.box (by decide)
  have hcnt := drop_count hf
  have hcn : (1 : Int) ≤ (lv 0 S).length ∧ ((lv 0 S).length : Int) ≤ 4611686018427387904 := by
    have : ∀ (S : List Seg) (p : Int), (lv p S).length ≤ (flat S).length := by
      intro S
      induction S with
      | nil => intro p; simp [lv, flat]
      | cons x r ih =>
        intro p
        have := ih (p + 1 + x.lits.length)
        rw [lv_cons, flat_len, List.length_append]
        split <;> simp <;> omega
    have := this S 0
    omega
  have HFin : Hid (∀ w0 : World, Below w.heap.size w w0 → Ar ((w0.setCell ⟨b2, k, none⟩ (.int .i64 (-(hdOf s)))).setCell ⟨b, 1, none⟩ (.int .i64 ((lv 0 S).length - 1))) b (.slice (some ⟨b2, 0, none⟩) (flat S).length c) (dropAt S k) ∧
      Mv w b (.slice (some ⟨b2, 0, none⟩) (flat S).length c) ((w0.setCell ⟨b2, k, none⟩ (.int .i64 (-(hdOf s)))).setCell ⟨b, 1, none⟩ (.int .i64 ((lv 0 S).length - 1))) (.slice (some ⟨b2, 0, none⟩) (flat S).length c)) := fun w0 hb0 => by
    have q1 := h.below hb0
    have q2 := q1.box.set_other (o := k) hne (.int .i64 (-(hdOf s)))
    have q3 : Own 0 (w0.setCell ⟨b2, k, none⟩ (.int .i64 (-(hdOf s)))) (.slice (some ⟨b2, 0, none⟩) (flat S).length c) ((flat S).set k (-(hdOf s))) := own_wr q1.own rfl
    have e1 : (((lv 0 S).length : Int) - 1) = ((lv 0 (dropAt S k)).length : Int) := by omega
    refine ⟨⟨?_, ?_, drop_ok h.ok⟩, ?_⟩
    · rw [e1]; exact q2.set1 _
    · have := own_set_other (o := 1) q3 q2 (by decide) (.int .i64 ((lv 0 S).length - 1))
      rw [drop_flat hf, Int.toNat_natCast]
      exact this
    · have g1 := grown_set w0 ⟨b2, k, none⟩ (.int .i64 (-(hdOf s)))
      exact (Mv.below hb0).trans (Mv.trans ⟨g1.os, g1.tape, g1.output, g1.size, fun i hi _ h2 => g1.block i hi h2, .inl rfl⟩ (Mv.set 1 _))
  clear hcell a3 a4 a5 a6 hf hw h hr hs1 hs2 hz hcnt
  generalize hdOf s = z at *
  generalize dropAt S k = DS at *
  generalize hMM : (flat S).length = M at *
  generalize ((lv 0 S).length : Int) = n at *
  have hD : Hid (∀ w0 : World, Below w.heap.size w w0 → (w0.setCell ⟨b2, k, none⟩ (.int .i64 (-z))).cell? ⟨b, 1, none⟩ = some (.int .i64 n) ∧ (w0.setCell ⟨b2, k, none⟩ (.int .i64 (-z))).frozen? ⟨b, 1, none⟩ = false) := fun w0 hb0 => by
    have := (HBx.out.below hb0).set_other (o := k) hne (.int .i64 (-z))
    exact ⟨this.c1, this.f1⟩
  have d1 := (hD.out w (Below.refl _ _)).1
  have d2 := (hD.out w (Below.refl _ _)).2
  go_enter Try.func18, Try.ntmps18
  go_wp2_with fail
  refine (has_any b _ n k _ w HBx.out HRd.out).mono ?_
  rw [hh]
  rintro e w1 ⟨rfl, rfl⟩
  go_wp2_with fail
  go_region
  all_goals
    go_wp2
    go_ret
    first
      | exact ⟨rfl, HFin.out _ (Below.refl _ _)⟩
      | exact ⟨rfl, HFin.out _ (Below.refl _ _).drew⟩

/-- an arena's box and row, whatever the words are -/
structure Ar0 (W : World) (b : Nat) (v : Value) (ws : List Int) (n : Int) : Prop where
  box : Bx2 W b 75 v (.int .i64 n)
  own : Own 0 W v ws
theorem Ar0.below {W W' : World} {b : Nat} {v : Value} {ws : List Int} {n : Int} (h : Ar0 W b v ws n) (hb : Below W.heap.size W W') : Ar0 W' b v ws n := ⟨h.box.below hb, h.own.below hb⟩
theorem own_ne {base : Nat} {w : World} {v : Value} {zs : List Int} {b : Nat} {t : TypeId} {x y : Value} (h : Own base w v zs) (hb : Bx2 w b t x y) (ht : t ≠ 3) : some b ≠ v.ownBlock := by
  intro e
  rcases h.2 with ⟨rfl, _⟩ | ⟨g', cap', cur, rfl, _⟩
  · cases e
  · cases e
    exact bx_ne h hb ht rfl
theorem Ar0.app {w w' : World} {b : Nat} {v v' : Value} {ws ws' : List Int} {n : Int} (h : Ar0 w b v ws n) (ap : Ap w v w' v') (own' : Own 0 w' v' ws') :
    Bx2 w' b 75 v (.int .i64 n) ∧ Ar0 (w'.setCell ⟨b, 0, none⟩ v') b v' ws' n ∧ Mv w b v (w'.setCell ⟨b, 0, none⟩ v') v' ∧ Wo w v ws.length (w'.setCell ⟨b, 0, none⟩ v') v' := by
  have q1 := h.box.kept ap.grown (own_ne h.own h.box (by decide))
  refine ⟨q1, ⟨q1.set0 v', own_set_other own' q1 (by decide) v'⟩, (Mv.ap ap).trans (Mv.set 0 v'), ap.old.imp id fun k g hg => ?_⟩
  have hgl : g < w.heap.size := (World.ownsRow.lt h.own g hg).2
  have hgb : g ≠ b := fun e => own_ne h.own h.box (by decide) (by rw [← e]; exact hg.symm)
  have hk := ((Mv.set (w := w') (b := b) (v := .slice none 0 0) 0 v').block g (Nat.lt_of_lt_of_le hgl ap.grown.size) hgb (by simp [Value.ownBlock])).trans (k g hgl)
  obtain ⟨c, f, hc⟩ := own_block h.own hg
  exact ⟨⟨c, f, hk.trans hc⟩, fun i hi => World.cell?_of_block hk⟩
theorem Rd.mv {w w' : World} {b : Nat} {v v' u : Value} {zs : List Int} (hu : Rd w u zs) (m : Mv w b v w' v') (hs : ∀ g, u.ownBlock = some g → g ≠ b ∧ some g ≠ v.ownBlock) : Rd w' u zs := by
  obtain ⟨h1, a, c, rfl, h2, h3, h4, h5⟩ := hu
  refine ⟨h1, a, c, rfl, h2, h3, h4, fun hz => ?_⟩
  obtain ⟨g, off, rfl, hg, hc⟩ := h5 hz
  have hh := hs g rfl
  exact ⟨g, off, rfl, Nat.lt_of_lt_of_le hg m.size, fun j hj => by rw [World.cell?_of_block (m.block g hg hh.1 hh.2)]; exact hc j hj⟩
theorem Own.mv {B : Nat} {w w' : World} {b : Nat} {v v' u : Value} {zs : List Int} (hu : Own B w u zs) (m : Mv w b v w' v') (hs : ∀ g, u.ownBlock = some g → g ≠ b ∧ some g ≠ v.ownBlock) : Own B w' u zs := by
  refine ⟨hu.1, ?_⟩
  rcases hu.2 with hn | ⟨g, cap, cur, rfl, hb', hh, r⟩
  · exact .inl hn
  · have h2 := hs g rfl
    exact .inr ⟨g, cap, cur, rfl, hb', by rw [m.block g (Array.getElem?_eq_some_iff.1 hh).1 h2.1 h2.2]; exact hh, r⟩
/-- what Put answers and leaves -/
def PutS (w : World) (b : Nat) (v : Value) (S : List Seg) (s : Seg) (e : Ending) (w' : World) : Prop :=
  e = .returned (.tuple #[.int .i64 (flat S).length, .int .i64 0]) ∧ ∃ v', Ar w' b v' (S ++ [s]) ∧ Mv w b v w' v'
/-- and what it leaves of the words' old block -/
def PutT (w : World) (b : Nat) (v : Value) (S : List Seg) (s : Seg) (e : Ending) (w' : World) : Prop :=
  e = .returned (.tuple #[.int .i64 (flat S).length, .int .i64 0]) ∧ ∃ v', Ar w' b v' (S ++ [s]) ∧ Mv w b v w' v' ∧ Wo w v (flat S).length w' v'
theorem flat_one (S : List Seg) (s : Seg) : flat (S ++ [s]) = flat S ++ [hdOf s] ++ s.lits := by rw [flat_append]; simp [flat]

set_option maxHeartbeats 3200000 in
theorem arPut2_any (b : Nat) (v u : Value) (S : List Seg) (zs : List Int) (l : Bool) (w : World) (h : Ar w b v S) (hu : Rd w u zs) (hsep : ∀ g, u.ownBlock = some g → g ≠ b ∧ some g ≠ v.ownBlock) (hf : zs.all fmd = true) (hl : ((flat S).length + 1 + zs.length) * 8 ≤ 140737488351232) :
    Calls Try.prog 11 #[.pointer (some ⟨b, 0, none⟩), u, .bool l] w fun e w' => PutT w b v S ⟨zs, l, true⟩ e w' := by
  have c0 := h.box.c0
  obtain ⟨va, vc, rfl⟩ := own_form h.own
  obtain ⟨ua, uc, rfl, _⟩ := hu.form
  have HU : Hid (Rd w (.slice ua zs.length uc) zs) := hu
  have H0 : Hid (Ar0 w b (.slice va (flat S).length vc) (flat S) (lv 0 S).length) := ⟨h.box, h.own⟩
  have HOk : Hid (okS S) := h.ok
  have HSe : Hid (∀ g, (Value.slice ua zs.length uc).ownBlock = some g → g ≠ b ∧ some g ≠ (Value.slice va (flat S).length vc).ownBlock) := hsep
  have HSnd : Hid (Calls Try.prog 30 #[.slice ua zs.length uc] w fun e w' => e = .returned (.bool true) ∧ w' = w) := by rw [← hf]; exact sound_any _ zs w hu
  have HFl : Hid (flat (S ++ [⟨zs, l, true⟩]) = flat S ++ [hd0 zs.length l] ++ zs) := by show _ = _; rw [flat_one]; simp [hdOf]
  have HLv : Hid ((lv 0 (S ++ [⟨zs, l, true⟩])).length = (lv 0 S).length + 1) := by show _ = _; rw [lv_append]; simp [lv]
  have HOk2 : Hid (okS (S ++ [⟨zs, l, true⟩])) := fun x hx => by
    rcases List.mem_append.1 hx with hx | hx
    · exact HOk.out x hx
    · obtain rfl := List.mem_singleton.1 hx
      exact hf
  have HHd : Hid (∀ W : World, Calls Try.prog 31 #[.int .i64 zs.length, .bool l] W fun e w' => e = .returned (.int .i64 (hd0 zs.length l)) ∧ w' = W) := fun W => head_any zs.length l W (by omega)
  have HFin : Hid (∀ (w' : World) (v' : Value), Ar0 w' b v' (flat S ++ [hd0 zs.length l] ++ zs) ((lv 0 S).length + 1) → Mv w b (.slice va (flat S).length vc) w' v' ∧ Wo w (.slice va (flat S).length vc) (flat S).length w' v' → PutT w b (.slice va (flat S).length vc) S ⟨zs, l, true⟩ (.returned (.tuple #[.int .i64 (flat S).length, .int .i64 0])) w') := fun w' v' q1 q2 =>
    ⟨rfl, v', ⟨by rw [HLv.out]; exact q1.box, by rw [HFl.out]; exact q1.own, HOk2.out⟩, q2⟩
  generalize hPS : PutT w b (.slice va (flat S).length vc) S ⟨zs, l, true⟩ = PS at *
  clear h hu hsep HOk HOk2 HFl HLv hf hPS
  generalize hFS : flat S = fs at *
  generalize hd0 zs.length l = hd at *
  have hnn : ((lv 0 S).length : Int) ≤ 4611686018427387904 := by
    have : ∀ (S : List Seg) (p : Int), (lv p S).length ≤ (flat S).length := by
      intro S
      induction S with
      | nil => intro p; simp [lv, flat]
      | cons x r ih =>
        intro p
        have := ih (p + 1 + x.lits.length)
        rw [lv_cons, flat_len, List.length_append]
        split <;> simp <;> omega
    have := this S 0
    rw [hFS] at this
    omega
  have hnn0 : (0 : Int) ≤ ((lv 0 S).length : Int) := by omega
  clear hFS
  generalize ((lv 0 S).length : Int) = n at *
  have HR1 : Hid (∀ W : World, Rd (W.alloc (.cells #[.int .i64 hd] 3)) (.slice (some ⟨W.heap.size, 0, none⟩) 1 1) [hd]) := fun W => rd_one W hd
  have c0a := (H0.out.below (below_box w (.cells #[.int .i64 hd] 3))).box.c0
  go_enter Try.func11, Try.ntmps11
  go_wp2_with fail
  refine HSnd.out.mono ?_
  rintro e w1 ⟨rfl, rfl⟩
  go_wp2_with fail
  go_region_law (first
    | (go_simp; go_at_call 31; refine (HHd.out _).mono ?_; intro e w9 hh; rw [hh.1, hh.2]; clear hh e w9; dsimp only)
    | (refine step_app_rd rfl (.tmp 21) (.tmp 26) rfl 0 (.slice va fs.length vc) (.slice (some ⟨w1.heap.size, 0, none⟩) 1 1) fs [hd] (by simp [Act.eval, Act.put]) (by simp [Act.eval, Act.put]) (H0.out.below (Below.step (Below.refl _ _).drew (below_box _ _))).own (HR1.out w1.drew) (by simp; omega) (Nat.zero_le _) ?_; intro v7 w7 own7 ap7; obtain ⟨a7, c7, hv7⟩ := own_form own7; simp only [List.length_append, List.length_cons, List.length_nil, Nat.zero_add] at hv7; subst hv7; have A7 := (H0.out.below (Below.step (Below.refl _ _).drew (below_box _ _))).app ap7 own7; have q0 := A7.1.c0; have q1 := A7.1.f0; have F7 : Hid (Ar0 (w7.setCell ⟨b, 0, none⟩ (.slice a7 (fs.length + 1) c7)) b (.slice a7 (fs.length + 1) c7) (fs ++ [hd]) n ∧ Mv w1 b (.slice va fs.length vc) (w7.setCell ⟨b, 0, none⟩ (.slice a7 (fs.length + 1) c7)) (.slice a7 (fs.length + 1) c7) ∧ Wo w1 (.slice va fs.length vc) fs.length (w7.setCell ⟨b, 0, none⟩ (.slice a7 (fs.length + 1) c7)) (.slice a7 (fs.length + 1) c7)) := ⟨A7.2.1, (Mv.below (Below.step (Below.refl _ _).drew (below_box _ _))).trans A7.2.2.1, A7.2.2.2.imp id fun k g hg => ⟨(k g hg).1, fun i hi => ((k g hg).2 i hi).trans (World.cell?_of_block ((Below.step (Below.refl _ _).drew (below_box _ _)).block g (World.ownsRow.lt H0.out.own g hg).2))⟩⟩; clear A7 own7 ap7))
  all_goals
    have d0 := F7.out.1.box.c0
    have HU7 : Hid (Rd (w7.setCell ⟨b, 0, none⟩ (.slice a7 (fs.length + 1) c7)) (.slice ua zs.length uc) zs) := HU.out.mv F7.out.2.1 HSe.out
    generalize w7.setCell ⟨b, 0, none⟩ (.slice a7 (fs.length + 1) c7) = W7 at *
    clear q0 q1 c0 c0a
    go_wp2_with (at_builtin; refine wpList_app_rd rfl _ _ rfl 0 (.slice a7 (fs.length + 1) c7) (.slice ua zs.length uc) (fs ++ [hd]) zs rfl rfl F7.out.1.own HU7.out (by simp; omega) (Nat.zero_le _) ?_; intro v8 w8 own8 ap8; obtain ⟨a8, c8, hv8⟩ := own_form own8; simp only [List.length_append, List.length_cons, List.length_nil, Nat.zero_add] at hv8; subst hv8; have A8 := F7.out.1.app ap8 own8; have p0 := A8.1.c0; have p1 := A8.1.f0; have p2 := A8.2.1.box.c1; have p3 := A8.2.1.box.f1; have F8 : Hid (Ar0 (w8.setCell ⟨b, 0, none⟩ (.slice a8 (fs.length + 1 + zs.length) c8)) b (.slice a8 (fs.length + 1 + zs.length) c8) (fs ++ [hd] ++ zs) n ∧ Mv w1 b (.slice va fs.length vc) (w8.setCell ⟨b, 0, none⟩ (.slice a8 (fs.length + 1 + zs.length) c8)) (.slice a8 (fs.length + 1 + zs.length) c8) ∧ Wo w1 (.slice va fs.length vc) fs.length (w8.setCell ⟨b, 0, none⟩ (.slice a8 (fs.length + 1 + zs.length) c8)) (.slice a8 (fs.length + 1 + zs.length) c8)) := ⟨A8.2.1, F7.out.2.1.trans A8.2.2.1, Wo.trans (zs := [hd]) F7.out.2.2 F7.out.2.1 A8.2.2.2 A8.2.2.1 H0.out.own F7.out.1.own (by simp) (own_ne H0.out.own H0.out.box (by decide))⟩; clear A8 own8 ap8)
    exact HFin.out _ _ ⟨F8.out.1.box.set1 _, own_set_other F8.out.1.own F8.out.1.box (by decide) _⟩ ⟨F8.out.2.1.trans (Mv.set 1 _), F8.out.2.2.imp id fun k g hg => (have hk := (Mv.set (b := b) (v := .slice none 0 0) 1 _).block g (Nat.lt_of_lt_of_le (World.ownsRow.lt H0.out.own g hg).2 F8.out.2.1.size) (fun e => own_ne H0.out.own H0.out.box (by decide) (by rw [← e]; exact hg.symm)) (by simp [Value.ownBlock]); ⟨(k g hg).1.elim fun c hc => hc.elim fun f hf => ⟨c, f, hk.trans hf⟩, fun i hi => (World.cell?_of_block hk).trans ((k g hg).2 i hi)⟩)⟩

theorem arPut_any (b : Nat) (v u : Value) (S : List Seg) (zs : List Int) (l : Bool) (w : World) (h : Ar w b v S) (hu : Rd w u zs) (hsep : ∀ g, u.ownBlock = some g → g ≠ b ∧ some g ≠ v.ownBlock) (hf : zs.all fmd = true) (hl : ((flat S).length + 1 + zs.length) * 8 ≤ 140737488351232) :
    Calls Try.prog 11 #[.pointer (some ⟨b, 0, none⟩), u, .bool l] w fun e w' => PutS w b v S ⟨zs, l, true⟩ e w' :=
  (arPut2_any b v u S zs l w h hu hsep hf hl).mono fun e w' ⟨h1, v', a, m, _⟩ => ⟨h1, v', a, m⟩

end Go.Proofs.Ytbhjpahieghepaa
