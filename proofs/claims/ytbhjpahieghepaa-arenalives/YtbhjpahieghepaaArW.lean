/-
  arena: head, size, marked, cut, Learnt, Drop, Count, Words, Put, walked.
  KEEP: set on app at below new trans refl start ap kept rd rds mono
-/
import Derived.Test.YtbhjpahieghepaaArP
import Derived.Test.YtbhjpahieghepaaApp2
import Derived.Test.YtbhjpahieghepaaConcat
import Derived.Deep.RegionLaw
import Derived.Deep.CutRange
set_option linter.unusedSimpArgs false
set_option linter.unusedVariables false
namespace Go.Proofs.Ytbhjpahieghepaa
open Go Go.RowKit

theorem head_any (n : Nat) (l : Bool) (w : World) (hn : n * 8 ≤ 140737488351232) :
    Calls Try.prog 31 #[.int .i64 n, .bool l] w fun e w' => e = .returned (.int .i64 (hd0 n l)) ∧ w' = w := by
  cases l
  · have HE : Hid (hd0 n false = 1048577 + 2 * (n : Int)) := by show _ = _; simp [hd0]
    go_enter Try.func31, Try.ntmps31
    go_wp2
    go_ret
    exact ⟨by rw [HE.out]; rfl, rfl⟩
  · have HE : Hid (hd0 n true = 1048577 + 2 * (n : Int) + 1) := by show _ = _; simp [hd0]
    go_enter Try.func31, Try.ntmps31
    go_wp2
    go_ret
    exact ⟨by rw [HE.out]; rfl, rfl⟩

theorem hd0_le (n : Nat) (l : Bool) : hd0 n l ≤ 1048578 + 2 * n := by unfold hd0; split <;> omega
theorem size_any (s : Seg) (w : World) (hn : s.lits.length * 8 ≤ 140737488351232) :
    Calls Try.prog 39 #[.int .i64 (hdOf s)] w fun e w' => e = .returned (.int .i64 s.lits.length) ∧ w' = w := by
  have h1 := hd0_pos s.lits.length s.learnt
  have h2 := hd0_le s.lits.length s.learnt
  have HE : Hid ((hd0 s.lits.length s.learnt - 1048577) / 2 = (s.lits.length : Int)) := by
    show _ = _
    unfold hd0; split <;> omega
  unfold hdOf
  generalize hd0 s.lits.length s.learnt = h at *
  generalize hL : s.lits.length = L at *
  cases s.live
  · rw [if_neg (by simp)]
    have hm : max (-h) (- -h) = h := by omega
    go_enter Try.func39, Try.ntmps39
    go_wp2
    go_ret
    refine ⟨?_, rfl⟩
    rw [← HE.out]; rfl
  · rw [if_pos rfl]
    have hm : max h (-h) = h := by omega
    go_enter Try.func39, Try.ntmps39
    go_wp2
    go_ret
    refine ⟨?_, rfl⟩
    rw [← HE.out]; rfl
theorem marked_any (s : Seg) (w : World) (hn : s.lits.length * 8 ≤ 140737488351232) (hl : s.live = true) :
    Calls Try.prog 36 #[.int .i64 (hdOf s)] w fun e w' => e = .returned (.bool s.learnt) ∧ w' = w := by
  have h1 := hd0_pos s.lits.length s.learnt
  have h2 := hd0_le s.lits.length s.learnt
  have HE : Hid (((hd0 s.lits.length s.learnt - 1048577) % 2 == 1) = s.learnt) := by
    show _ = _
    unfold hd0; cases s.learnt <;> simp <;> omega
  unfold hdOf
  rw [hl, if_pos rfl]
  generalize hd0 s.lits.length s.learnt = h at *
  generalize hL : s.lits.length = L at *
  go_enter Try.func36, Try.ntmps36
  go_wp2
  go_ret
  refine ⟨?_, rfl⟩
  rw [← HE.out]; rfl

/-- an arena: its box, its row of words -/
structure Ar (W : World) (b : Nat) (v : Value) (S : List Seg) : Prop where
  box : Bx2 W b 75 v (.int .i64 (lv 0 S).length)
  own : Own 0 W v (flat S)
  ok : okS S
/-- what an arena's call leaves as it was, and where its row lies -/
structure Mv (w : World) (b : Nat) (v : Value) (w' : World) (v' : Value) : Prop where
  os : w'.os = w.os
  tape : w'.tape = w.tape
  output : w'.output = w.output
  size : w.heap.size ≤ w'.heap.size
  block : ∀ k, k < w.heap.size → k ≠ b → some k ≠ v.ownBlock → w'.heap[k]? = w.heap[k]?
  new : v'.ownBlock = v.ownBlock ∨ ∀ g, v'.ownBlock = some g → w.heap.size ≤ g
theorem Mv.refl (w : World) (b : Nat) (v : Value) : Mv w b v w v := ⟨rfl, rfl, rfl, Nat.le_refl _, fun _ _ _ _ => rfl, .inl rfl⟩
theorem Mv.trans {w w1 w2 : World} {b : Nat} {v v1 v2 : Value} (h : Mv w b v w1 v1) (k : Mv w1 b v1 w2 v2) : Mv w b v w2 v2 :=
  ⟨k.os.trans h.os, k.tape.trans h.tape, k.output.trans h.output, Nat.le_trans h.size k.size,
    fun i hi h1 h2 => (k.block i (Nat.lt_of_lt_of_le hi h.size) h1 (by
      rcases h.new with e | e
      · rw [e]; exact h2
      · intro e2
        have := e i e2.symm
        omega)).trans (h.block i hi h1 h2),
    by
      rcases k.new with e | e
      · rw [e]; exact h.new
      · exact .inr fun g hg => Nat.le_trans h.size (e g hg)⟩
theorem own_cellsOf {B : Nat} {w : World} {v : Value} {zs : List Int} (h : Own B w v zs) {g i : Nat} (hg : v.ownBlock = some g) (hi : i < zs.length) : w.cell? ⟨g, i, none⟩ = some (.int .i64 (zs.getD i 0)) := by
  rcases h.2 with ⟨e, _⟩ | ⟨g', cap, cur, e, _⟩
  · rw [e] at hg; cases hg
  · rw [e] at hg
    simp [Value.ownBlock] at hg
    subst hg
    rw [e] at h
    have := World.ownsRow.cells h (g := g') rfl i (.int .i64 (zs.getD i 0)) (by rw [List.getElem?_map, List.getElem?_eq_getElem hi]; simp [List.getD_eq_getElem?_getD, List.getElem?_eq_getElem hi])
    rw [Addr.add_lit, Nat.zero_add] at this
    exact this
theorem own_block {B : Nat} {w : World} {v : Value} {zs : List Int} (h : Own B w v zs) {g : Nat} (hg : v.ownBlock = some g) : ∃ c f, w.heap[g]? = some (.cells c 3 f) := by
  rcases h.2 with ⟨e, _⟩ | ⟨g', cap, cur, e, _, hh, _⟩
  · rw [e] at hg; cases hg
  · rw [e] at hg
    simp [Value.ownBlock] at hg
    subst hg
    exact ⟨_, _, hh⟩
/-- where a row's block is left, its places up to n stay as they were -/
def Wo (w : World) (v : Value) (n : Nat) (w' : World) (v' : Value) : Prop := v'.ownBlock = v.ownBlock ∨ ∀ g, v.ownBlock = some g → (∃ c f, w'.heap[g]? = some (.cells c 3 f)) ∧ ∀ i, i < n → w'.cell? ⟨g, i, none⟩ = w.cell? ⟨g, i, none⟩
theorem Wo.trans {w w1 w2 : World} {b : Nat} {v v1 v2 : Value} {ws zs : List Int} {n : Nat} (h : Wo w v ws.length w1 v1) (hm : Mv w b v w1 v1) (k : Wo w1 v1 n w2 v2) (km : Mv w1 b v1 w2 v2) (o : Own 0 w v ws) (o1 : Own 0 w1 v1 (ws ++ zs)) (hn : ws.length ≤ n) (hb : some b ≠ v.ownBlock) : Wo w v ws.length w2 v2 := by
  have same : v1.ownBlock = v.ownBlock → ∀ g, v.ownBlock = some g → ∀ i, i < ws.length → w1.cell? ⟨g, i, none⟩ = w.cell? ⟨g, i, none⟩ := fun e g hg i hi => by
    have a1 := own_cellsOf o hg hi
    have a2 := own_cellsOf (zs := ws ++ zs) o1 (e.trans hg) (i := i) (by rw [List.length_append]; omega)
    rw [a1, a2]
    congr 2
    rw [List.getD_eq_getElem?_getD, List.getD_eq_getElem?_getD, List.getElem?_append_left hi]
  by_cases e1 : v1.ownBlock = v.ownBlock
  · rcases k with e2 | e2
    · exact .inl (e2.trans e1)
    · exact .inr fun g hg => ⟨(e2 g (e1.trans hg)).1, fun i hi => ((e2 g (e1.trans hg)).2 i (by omega)).trans (same e1 g hg i hi)⟩
  · have nw : ∀ g, v1.ownBlock = some g → w.heap.size ≤ g := hm.new.resolve_left e1
    refine .inr fun g hg => ?_
    have hgl : g < w.heap.size := (World.ownsRow.lt o g hg).2
    have hk := km.block g (Nat.lt_of_lt_of_le hgl hm.size) (fun e => hb (by rw [← e]; exact hg.symm)) (fun e => by have := nw g e.symm; omega)
    obtain ⟨⟨c, f, hc⟩, h0⟩ := (h.resolve_left e1) g hg
    exact ⟨⟨c, f, hk.trans hc⟩, fun i hi => (World.cell?_of_block hk).trans (h0 i hi)⟩
theorem Mv.below {w w' : World} {b : Nat} {v : Value} (h : Below w.heap.size w w') : Mv w b v w' v := ⟨h.os, h.tape, h.output, h.size, fun k hk _ _ => h.block k hk, .inl rfl⟩
theorem Mv.ap {w w' : World} {b : Nat} {v v' : Value} (h : Ap w v w' v') : Mv w b v w' v' := ⟨h.grown.os, h.grown.tape, h.grown.output, h.grown.size, fun k hk _ h2 => h.grown.block k hk h2, h.new⟩
theorem Mv.set {w : World} {b : Nat} {v : Value} (o : Nat) (x : Value) : Mv w b v (w.setCell ⟨b, o, none⟩ x) v :=
  have g := grown_set w ⟨b, o, none⟩ x
  ⟨g.os, g.tape, g.output, g.size, fun k hk h1 _ => g.block k hk (by simpa using h1), .inl rfl⟩
theorem Ar.rd {W : World} {b : Nat} {v : Value} {S : List Seg} (h : Ar W b v S) (hl : (flat S).length * 8 ≤ 140737488351232) : Rd W v (flat S) := h.own.rd hl
theorem Ar.below {W W' : World} {b : Nat} {v : Value} {S : List Seg} (h : Ar W b v S) (hb : Below W.heap.size W W') : Ar W' b v S := ⟨h.box.below hb, h.own.below hb, h.ok⟩

theorem arWords_any (b : Nat) (v : Value) (S : List Seg) (w : World) (h : Ar w b v S) (hl : (flat S).length * 8 ≤ 140737488351232) :
    Calls Try.prog 21 #[.pointer (some ⟨b, 0, none⟩)] w fun e w' => e = .returned (.int .i64 (flat S).length) ∧ w' = w := by
  have c0 := h.box.c0
  obtain ⟨a, c, rfl⟩ := own_form h.own
  go_enter Try.func21, Try.ntmps21
  go_wp2
  go_ret
  exact ⟨rfl, rfl⟩
theorem arCount_any (b : Nat) (v : Value) (S : List Seg) (w : World) (h : Ar w b v S) :
    Calls Try.prog 20 #[.pointer (some ⟨b, 0, none⟩)] w fun e w' => e = .returned (.int .i64 (lv 0 S).length) ∧ w' = w := by
  have c1 := h.box.c1
  go_enter Try.func20, Try.ntmps20
  go_wp2
  go_ret
  exact ⟨rfl, rfl⟩
theorem arLearnt_any (b : Nat) (v : Value) (S : List Seg) (r : Int) (w : World) (h : Ar w b v S) (hl : (flat S).length * 8 ≤ 140737488351232) :
    Calls Try.prog 16 #[.pointer (some ⟨b, 0, none⟩), .int .i64 r] w fun e w' => e = .returned (.bool (match find S r with | some s => s.learnt | none => false)) ∧ w' = w := by
  have hr := h.rd hl
  have hh := has_find (k := r) h.ok
  have c0 := h.box.c0
  have HB : Hid (Bx2 w b 75 v (.int .i64 (lv 0 S).length)) := h.box
  cases hf : find S r with
  | none =>
    rw [hf] at hh
    clear h c0
    go_enter Try.func16, Try.ntmps16
    go_wp2_with fail
    refine (has_any b v _ r _ w HB.out hr).mono ?_
    rw [hh]
    rintro e w1 ⟨rfl, rfl⟩
    go_wp2
    go_ret
    exact ⟨rfl, rfl⟩
  | some s =>
    rw [hf] at hh
    obtain ⟨a1, a2, a3, a4, a5, a6⟩ := find_get hf
    obtain ⟨k, rfl⟩ : ∃ k : Nat, r = k := ⟨r.toNat, by omega⟩
    have HRd : Hid (Rd w v (flat S)) := hr
    obtain ⟨b2, off, c, rfl, hpos, hc, hm, hb, hcell⟩ := hr.cases.resolve_left (by rintro ⟨e, _⟩; rw [e] at a5; simp at a5; omega)
    have hk := hcell k (by omega)
    simp only [Int.toNat_natCast] at a3
    rw [a3] at hk
    have hkl : k < (flat S).length := by omega
    have hs : s.lits.length * 8 ≤ 140737488351232 := by omega
    have HM : Hid (Calls Try.prog 36 #[.int .i64 (hdOf s)] w fun e w' => e = .returned (.bool s.learnt) ∧ w' = w) := marked_any s w hs a2
    generalize hdOf s = z at *
    generalize hlv : ((lv 0 S).length : Int) = nn at *
    clear h hcell a3 a4 a5 a6 hf
    go_enter Try.func16, Try.ntmps16
    go_wp2_with fail
    refine (has_any b _ _ k _ w HB.out HRd.out).mono ?_
    rw [hh]
    rintro e w1 ⟨rfl, rfl⟩
    go_wp2_with fail
    refine HM.out.mono ?_
    rintro e w1 ⟨rfl, rfl⟩
    go_wp2
    go_ret
    exact ⟨rfl, rfl⟩

/-- where a clause's literals lie -/
def cutV (g k n : Nat) : Value := .slice (some ⟨g, if n = 0 then 0 else k + 1, none⟩) n n
theorem cut_rd {w : World} {g c n : Nat} {S : List Seg} {k : Nat} {s : Seg} (hr : Rd w (.slice (some ⟨g, 0, none⟩) n c) (flat S)) (hf : find S k = some s) : Rd w (cutV g k s.lits.length) s.lits := by
  unfold cutV
  by_cases hz : s.lits = []
  · rw [hz]
    exact ⟨by simp, some ⟨g, 0, none⟩, 0, rfl, Nat.le_refl _, by simp, by simp, fun h => absurd rfl h⟩
  have hz2 : s.lits.length ≠ 0 := fun e => hz (List.eq_nil_of_length_eq_zero e)
  rw [if_neg hz2]
  obtain ⟨a1, a2, a3, a4, a5, a6⟩ := find_get hf
  have hl := hr.len
  obtain ⟨b2, off, c2, e, hpos, hc, hm, hb, hcell⟩ := hr.cases.resolve_left (by rintro ⟨e, _⟩; rw [e] at a5; simp at a5; omega)
  injection e with e1 e2 e3
  injection e1 with e1
  injection e1 with e1 e4
  subst e1; subst e4
  refine ⟨by omega, some ⟨g, k + 1, none⟩, s.lits.length, rfl, Nat.le_refl _, by omega, by simp, fun _ => ⟨g, k + 1, rfl, hb, fun j hj => ?_⟩⟩
  have := hcell (k + 1 + j) (by omega)
  rw [Nat.zero_add] at this
  rw [this]
  simp only [Int.toNat_natCast] at a4
  congr 2
  have e5 : s.lits[j]? = (flat S)[k + 1 + j]? := by
    conv => lhs; rw [← a4]
    rw [List.getElem?_take, if_pos hj, List.getElem?_drop]
  simp only [List.getD_eq_getElem?_getD]
  rw [e5]

def CutS (v : Value) (S : List Seg) (k : Nat) (s : Seg) (e : Ending) : Prop := ∃ g c, v = .slice (some ⟨g, 0, none⟩) (flat S).length c ∧ e = .returned (cutV g k s.lits.length)
theorem cut_any (b : Nat) (v : Value) (S : List Seg) (k : Nat) (s : Seg) (w : World) (h : Ar w b v S) (hl : (flat S).length * 8 ≤ 140737488351232) (hf : find S k = some s) :
    Calls Try.prog 34 #[.pointer (some ⟨b, 0, none⟩), .int .i64 k] w fun e w' => CutS v S k s e ∧ w' = w := by
  have hr := h.rd hl
  have c0 := h.box.c0
  obtain ⟨a1, a2, a3, a4, a5, a6⟩ := find_get hf
  have hw := h.own
  obtain ⟨b2, off, c, rfl, hpos, hc, hm, hb, hcell⟩ := hr.cases.resolve_left (by rintro ⟨e, _⟩; rw [e] at a5; simp at a5; omega)
  obtain rfl : off = 0 := by
    rcases hw.2 with ⟨e, _⟩ | ⟨g, cap, cur, e, _⟩
    · cases e
    · injection e with e1 e2 e3
      injection e1 with e1
      injection e1
  have hk := hcell k (by omega)
  simp only [Int.toNat_natCast] at a3
  rw [a3, Nat.zero_add] at hk
  have hkl : k < (flat S).length := by omega
  have hk2 : k + 1 + s.lits.length ≤ (flat S).length := by omega
  have hs : s.lits.length * 8 ≤ 140737488351232 := by omega
  have HM : Hid (Calls Try.prog 39 #[.int .i64 (hdOf s)] w fun e w' => e = .returned (.int .i64 s.lits.length) ∧ w' = w) := size_any s w hs
  generalize hdOf s = z at *
  clear h hcell a3 a4 a5 a6 hf hw hr
  have HC : Hid ((∀ e, s.lits.length ≠ 0 → e = Ending.returned (.slice (some ⟨b2, k + 1, none⟩) s.lits.length s.lits.length) → CutS (.slice (some ⟨b2, 0, none⟩) (flat S).length c) S k s e) ∧ (∀ e, s.lits.length = 0 → e = Ending.returned (.slice (some ⟨b2, 0, none⟩) 0 0) → CutS (.slice (some ⟨b2, 0, none⟩) (flat S).length c) S k s e)) :=
    ⟨fun e hz he => ⟨b2, c, rfl, by unfold cutV; rw [if_neg hz]; exact he⟩, fun e hz he => ⟨b2, c, rfl, by unfold cutV; rw [if_pos hz, hz]; exact he⟩⟩
  generalize CutS (.slice (some ⟨b2, 0, none⟩) (flat S).length c) S k s = CC at *
  generalize (flat S).length = M at *
  generalize s.lits.length = N at *
  by_cases hN : N = 0
  · subst hN
    go_enter Try.func34, Try.ntmps34
    go_wp2_with fail
    refine HM.out.mono ?_
    rintro e w1 ⟨rfl, rfl⟩
    go_wp2
    go_ret
    exact ⟨HC.out.2 _ (by first | trivial | rfl) rfl, rfl⟩
  · have hN2 : 0 < N := by omega
    go_enter Try.func34, Try.ntmps34
    go_wp2_with fail
    refine HM.out.mono ?_
    rintro e w1 ⟨rfl, rfl⟩
    go_wp2
    go_ret
    exact ⟨HC.out.1 _ hN (by show Ending.returned (.slice _ (k + 1 + N - (k + 1)) (k + 1 + N - (k + 1))) = _; rw [Nat.add_sub_cancel_left]), rfl⟩

theorem arGet_some (b : Nat) (v : Value) (S : List Seg) (r : Int) (s : Seg) (w : World) (h : Ar w b v S) (hl : (flat S).length * 8 ≤ 140737488351232) (hf : find S r = some s) :
    Calls Try.prog 14 #[.pointer (some ⟨b, 0, none⟩), .int .i64 r] w fun e w' => ∃ u, e = .returned (.tuple #[u, .bool true]) ∧ Own w.heap.size w' u s.lits ∧ Below w.heap.size w w' := by
  have hr := h.rd hl
  have hh := has_find (k := r) h.ok
  rw [hf] at hh
  obtain ⟨a1, _⟩ := find_get hf
  obtain ⟨k, rfl⟩ : ∃ k : Nat, r = k := ⟨r.toNat, by omega⟩
  have HA : Hid (Ar w b v S) := h
  clear h
  go_enter Try.func14, Try.ntmps14
  go_wp2_with fail
  refine (has_any b v _ k _ w HA.out.box hr).mono ?_
  rw [hh]
  rintro e w1 ⟨rfl, rfl⟩
  go_wp2_with fail
  refine (cut_any b v S k s _ HA.out hl hf).mono ?_
  rintro e w1 ⟨⟨g, c, rfl, rfl⟩, rfl⟩
  have HRd : Hid (Rd w1 (cutV g k s.lits.length) s.lits) := cut_rd hr hf
  clear hr
  go_wp2_with fail
  refine (clone_any _ s.lits _ HRd.out).mono ?_
  rintro e w2 ⟨u, rfl, own2, bel2⟩
  have HO : Hid (Own w1.heap.size w2 u s.lits) := own2
  have HBe : Hid (Below w1.heap.size w1 w2) := bel2
  clear own2 bel2
  go_wp2
  go_returns
  exact ⟨u, rfl, HO.out, HBe.out⟩
theorem arGet_none (b : Nat) (v : Value) (S : List Seg) (r : Int) (w : World) (h : Ar w b v S) (hl : (flat S).length * 8 ≤ 140737488351232) (hf : find S r = none) :
    Calls Try.prog 14 #[.pointer (some ⟨b, 0, none⟩), .int .i64 r] w fun e w' => e = .returned (.tuple #[.slice none 0 0, .bool false]) ∧ w' = w := by
  have hr := h.rd hl
  have hh := has_find (k := r) h.ok
  rw [hf] at hh
  have HA : Hid (Ar w b v S) := h
  clear h
  go_enter Try.func14, Try.ntmps14
  go_wp2_with fail
  refine (has_any b v _ r _ w HA.out.box hr).mono ?_
  rw [hh]
  rintro e w1 ⟨rfl, rfl⟩
  go_wp2
  go_returns
  exact ⟨rfl, rfl⟩
theorem arDrop_none (b : Nat) (v : Value) (S : List Seg) (r : Int) (w : World) (h : Ar w b v S) (hl : (flat S).length * 8 ≤ 140737488351232) (hf : find S r = none) :
    Calls Try.prog 18 #[.pointer (some ⟨b, 0, none⟩), .int .i64 r] w fun e w' => e = .returned (.int .i64 2) ∧ w' = w :=
  drop_bad b v _ r _ w h.box (h.rd hl) (by rw [has_find h.ok, hf]; rfl)

end Go.Proofs.Ytbhjpahieghepaa
