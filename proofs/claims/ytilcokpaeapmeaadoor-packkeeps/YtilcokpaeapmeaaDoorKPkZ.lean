/-
  Families of rows of steps and of bytes that lie apart, put in at any place; what PackKeeps says of memory, in plain words.
  KEEP: set on app at below new trans refl start ap kept rd rds mono own row cells lt box from cell of nil len ans add none keep rdz form ob q keepB ltB cellsB snoc k alloc other apart slice
-/
import Derived.Test.YtilcokpaeapmeaaDoorKDkZ
import Derived.Test.YtilcokpaeapmeaaDoorKKitY
import Derived.Test.YtilcokpaeapmeaaDoorJPkN
import Derived.Test.YtilcokpaeapmeaaDoorJPkE
import Derived.Test.YtilcokpaeapmeaaDoorKPkO
import Derived.Test.YtilcokpaeapmeaaDoorJDrR
set_option linter.unusedSimpArgs false
set_option linter.unusedVariables false
namespace Go.Proofs.YtilcokpaeapmeaaDoor
open Go Go.RowKit Go.Shelf

/-- what is read is no longer than the bytes -/
theorem dec_lenZ (all : List UInt8) : (decB all).1.length ≤ all.length ∧ ∀ x ∈ (decB all).1, x.2.length ≤ all.length := by
  have hx : ∀ l : List Stp, ∀ x ∈ l, (litsB x.2).length ≤ (encB l).length := fun l x hm => by
    induction l with
    | nil => cases hm
    | cons y r ih =>
      have e : encB (y :: r) = stpB y ++ encB r := rfl
      have e2 : (stpB y).length = (litsB y.2).length + 2 := by simp [stpB]
      rw [e, List.length_append]
      rcases List.mem_cons.1 hm with rfl | hm
      · omega
      · have := ih hm; omega
  rcases dec_say all with ⟨l, hs, h1, h2⟩ | h1 | ⟨q, h1, _⟩ | ⟨q, e, _, h1, _⟩
  · rw [h1]
    have h3 := encB_len l
    rw [← h2] at h3
    refine ⟨by show l.length ≤ _; omega, fun x hm => ?_⟩
    have h4 := hx l x hm
    rw [← h2] at h4
    have := litsB_len x.2
    omega
  all_goals (rw [h1]; exact ⟨Nat.zero_le _, fun x hm => by cases hm⟩)
theorem op_lenZ (T : List UInt8) : (opB T).1.length ≤ T.length ∧ ∀ x ∈ (opB T).1, x.2.length ≤ T.length := by
  unfold opB
  split
  · exact par_len T
  · exact dec_lenZ T
theorem pw_ins {α : Type} {R : α → α → Prop} {A M C : List α} (h : (A ++ C).Pairwise R) (hm : M.Pairwise R) (h1 : ∀ a ∈ A, ∀ m ∈ M, R a m) (h2 : ∀ m ∈ M, ∀ c ∈ C, R m c) : (A ++ (M ++ C)).Pairwise R := by
  rw [List.pairwise_append] at h ⊢
  obtain ⟨hA, hC, hAC⟩ := h
  refine ⟨hA, ?_, fun a ha x hx => ?_⟩
  · rw [List.pairwise_append]; exact ⟨hm, hC, h2⟩
  · rcases List.mem_append.1 hx with h | h
    · exact h1 a ha x h
    · exact hAC a ha x h
theorem ne_of_lt {x y : Option Nat} {n : Nat} (hx : ∀ b, x = some b → b < n) (hy : ∀ b, y = some b → n ≤ b) : (x = none ∨ x ≠ y) ∧ (y = none ∨ y ≠ x) := by
  cases ex : x with
  | none =>
    cases ey : y with
    | none => exact ⟨.inl rfl, .inl rfl⟩
    | some b => exact ⟨.inl rfl, .inr (by simp)⟩
  | some a =>
    cases ey : y with
    | none => exact ⟨.inr (by simp), .inl rfl⟩
    | some b =>
      have h1 := hx a ex
      have h2 := hy b ey
      have h3 : a ≠ b := by omega
      exact ⟨.inr (by simpa using h3), .inr (by simpa using h3.symm)⟩
/-- a row that is newer, put in at any place -/
theorem Fm.ins {B S : Nat} {W W' : World} {A C : List (Value × List SV)} {v : Value} {L : List SV} (h : Fm B W (A ++ C)) (hz : OwnZ S W' v L) (hb : Below W.heap.size W W') (hS : W.heap.size ≤ S) (hB : B ≤ S) : Fm B W' (A ++ (v, L) :: C) := by
  have old : ∀ x ∈ A ++ C, ∀ k, OwB x.1 x.2 k → k < W.heap.size := fun x hx k hk => (h.lt hx hk).2
  have nw : ∀ k, OwB v L k → W.heap.size ≤ k := fun k hk => Nat.le_trans hS (hz.ltB hk).1
  have hr : ∀ x ∈ A ++ C, (x.1.ownBlock = none ∨ x.1.ownBlock ≠ v.ownBlock) ∧ (v.ownBlock = none ∨ v.ownBlock ≠ x.1.ownBlock) := fun x hx => ne_of_lt (n := W.heap.size) (fun b e => old x hx b (.inl e.symm)) (fun b e => nw b (.inl e.symm))
  have hl : ∀ x ∈ flZ (A ++ C), ∀ y ∈ L.map Prod.snd, (x.1.ownBlock = none ∨ x.1.ownBlock ≠ y.1.ownBlock) ∧ (y.1.ownBlock = none ∨ y.1.ownBlock ≠ x.1.ownBlock) := fun x hx y hy => by
    obtain ⟨p, hp, h6⟩ := List.mem_flatMap.1 hx
    obtain ⟨x2, hx2, rfl⟩ := List.mem_map.1 h6
    obtain ⟨y2, hy2, rfl⟩ := List.mem_map.1 hy
    exact ne_of_lt (n := W.heap.size) (fun b e => old p hp b (.inr ⟨x2, hx2, e.symm⟩)) (fun b e => nw b (.inr ⟨y2, hy2, e.symm⟩))
  refine ⟨fun x hx => ?_, ?_, ?_⟩
  · rcases List.mem_append.1 hx with hx | hx
    · exact (h.own x (List.mem_append_left _ hx)).below hb
    · rcases List.mem_cons.1 hx with e | hx
      · rw [e]; exact hz.mono hB
      · exact (h.own x (List.mem_append_right _ hx)).below hb
  · exact pw_ins (M := [(v, L)]) h.apR (List.pairwise_singleton _ _) (fun a ha m hm => by rw [List.mem_singleton.1 hm]; exact (hr a (List.mem_append_left _ ha)).1) (fun m hm c hc => by rw [List.mem_singleton.1 hm]; exact (hr c (List.mem_append_right _ hc)).2)
  · have e1 : flZ (A ++ (v, L) :: C) = flZ A ++ (L.map Prod.snd ++ flZ C) := by
      rw [flZ_app]
      show flZ A ++ flZ ([(v, L)] ++ C) = _
      rw [flZ_app]
      have e9 : flZ [(v, L)] = L.map Prod.snd := by simp [flZ]
      rw [e9]
    rw [e1]
    have h9 := h.apL
    rw [flZ_app] at h9 hl
    exact pw_ins h9 hz.ap (fun a ha m hm => (hl a (List.mem_append_left _ ha) m hm).1) (fun m hm c hc => (hl c (List.mem_append_right _ hc) m hm).2)
theorem Fm.keep {B : Nat} {W W' : World} {F : List (Value × List SV)} (h : Fm B W F) (hk : ∀ k, B ≤ k → k < W.heap.size → W'.heap[k]? = W.heap[k]?) : Fm B W' F :=
  ⟨fun x hx => (h.own x hx).keepB fun k e => hk k (h.lt hx e).1 (h.lt hx e).2, h.apR, h.apL⟩
/-- a list of bytes of the call's own, in a block of bytes -/
def Obz (B : Nat) (W : World) (v : Value) (T : List UInt8) : Prop := Oby B W v (nuY T) ∧ ∀ k, some k = v.ownBlock → ∃ c f, W.heap[k]? = some (.cells c 5 f) ∨ W.heap[k]? = some (.cells c 78 f)
/-- lists of bytes that lie apart -/
structure Gm (B : Nat) (W : World) (G : List (Value × List UInt8)) : Prop where
  own : ∀ x ∈ G, Obz B W x.1 x.2
  ap : G.Pairwise (fun x y => x.1.ownBlock = none ∨ x.1.ownBlock ≠ y.1.ownBlock)
theorem Gm.nil (B : Nat) (W : World) : Gm B W [] := ⟨fun x hx => (by cases hx), List.Pairwise.nil⟩
theorem Gm.lt {B : Nat} {W : World} {G : List (Value × List UInt8)} (h : Gm B W G) {x : Value × List UInt8} (hx : x ∈ G) {k : Nat} (hk : some k = x.1.ownBlock) : B ≤ k ∧ k < W.heap.size := Ory.lt (h.own x hx).1 k hk.symm
theorem Obz.keep {B : Nat} {W W' : World} {v : Value} {T : List UInt8} (h : Obz B W v T) (hk : ∀ k, some k = v.ownBlock → W'.heap[k]? = W.heap[k]?) : Obz B W' v T := by
  refine ⟨⟨h.1.1, ?_⟩, fun k e => ?_⟩
  · rcases h.1.2 with h0 | ⟨g, cap, cur, t, e, h2, h3, r⟩
    · exact .inl h0
    · exact .inr ⟨g, cap, cur, t, e, h2, (hk g (by rw [e]; rfl)).trans h3, r⟩
  · obtain ⟨c, f, h5⟩ := h.2 k e
    rw [← hk k e] at h5
    exact ⟨c, f, h5⟩
theorem Obz.mono {B B' : Nat} {W : World} {v : Value} {T : List UInt8} (h : Obz B W v T) (hb : B' ≤ B) : Obz B' W v T := ⟨Ory.mono h.1 hb, h.2⟩
theorem Gm.keepB {B : Nat} {W W' : World} {G : List (Value × List UInt8)} (h : Gm B W G) (hk : ∀ x ∈ G, ∀ k, some k = x.1.ownBlock → W'.heap[k]? = W.heap[k]?) : Gm B W' G := ⟨fun x hx => (h.own x hx).keep (hk x hx), h.ap⟩
theorem Gm.keep {B : Nat} {W W' : World} {G : List (Value × List UInt8)} (h : Gm B W G) (hk : ∀ k, B ≤ k → k < W.heap.size → W'.heap[k]? = W.heap[k]?) : Gm B W' G := h.keepB fun x hx k e => hk k (h.lt hx e).1 (h.lt hx e).2
theorem Gm.below {B : Nat} {W W' : World} {G : List (Value × List UInt8)} (h : Gm B W G) (hb : Below W.heap.size W W') : Gm B W' G := h.keep fun k _ hk => hb.block k hk
theorem Gm.ins {B S : Nat} {W W' : World} {A C : List (Value × List UInt8)} {v : Value} {Y : List UInt8} (h : Gm B W (A ++ C)) (hz : Obz S W' v Y) (hb : Below W.heap.size W W') (hS : W.heap.size ≤ S) (hB : B ≤ S) : Gm B W' (A ++ (v, Y) :: C) := by
  have hr : ∀ x ∈ A ++ C, (x.1.ownBlock = none ∨ x.1.ownBlock ≠ v.ownBlock) ∧ (v.ownBlock = none ∨ v.ownBlock ≠ x.1.ownBlock) := fun x hx => ne_of_lt (n := W.heap.size) (fun b e => (h.lt hx e.symm).2) (fun b e => Nat.le_trans hS (Ory.lt hz.1 b e).1)
  have h' := h.below hb
  refine ⟨fun x hx => ?_, ?_⟩
  · rcases List.mem_append.1 hx with hx | hx
    · exact h'.own x (List.mem_append_left _ hx)
    · rcases List.mem_cons.1 hx with e | hx
      · rw [e]; exact hz.mono hB
      · exact h'.own x (List.mem_append_right _ hx)
  · exact pw_ins (M := [(v, Y)]) h.ap (List.pairwise_singleton _ _) (fun a ha m hm => by rw [List.mem_singleton.1 hm]; exact (hr a (List.mem_append_left _ ha)).1) (fun m hm c hc => by rw [List.mem_singleton.1 hm]; exact (hr c (List.mem_append_right _ hc)).2)
/-- an older one behind them -/
theorem Gm.old {B B0 : Nat} {W : World} {G : List (Value × List UInt8)} {v : Value} {Y : List UInt8} (h : Gm B W G) (hz : Obz B0 W v Y) (hB : B0 ≤ B) (hlt : ∀ k, v.ownBlock = some k → k < B) : Gm B0 W (G ++ [(v, Y)]) := by
  refine ⟨fun x hx => ?_, ?_⟩
  · rcases List.mem_append.1 hx with hx | hx
    · exact (h.own x hx).mono hB
    · rw [List.mem_singleton.1 hx]; exact hz
  · rw [List.pairwise_append]
    refine ⟨h.ap, List.pairwise_singleton _ _, fun a ha m hm => ?_⟩
    rw [List.mem_singleton.1 hm]
    exact (ne_of_lt (n := B) (x := v.ownBlock) (y := a.1.ownBlock) (fun b e => hlt b e) (fun b e => (h.lt ha e.symm).1)).2
/-- rows of steps and lists of bytes lie in unlike blocks -/
theorem steps_bytes {B B' : Nat} {W : World} {F : List (Value × List SV)} {G : List (Value × List UInt8)} (h : Fm B W F) (g : Gm B' W G) {x : Value × List SV} (hx : x ∈ F) {y : Value × List UInt8} (hy : y ∈ G) {k : Nat} (hk : OwB x.1 x.2 k) : some k ≠ y.1.ownBlock := fun e => by
  have hz := h.own x hx
  obtain ⟨c, f, hc⟩ := (g.own y hy).2 k e
  have one : ∀ {s n : Nat} {t : TypeId} {v : Value} {xs : List Value}, W.ownsRow B t s v n xs → some k = v.ownBlock → t ≠ 5 → t ≠ 78 → False := fun {s n t v xs} hr e2 h1 h2 => by
    rcases hr.2 with ⟨e3, _⟩ | ⟨g', cap, cur, e3, _, hg, _⟩
    · rw [e3] at e2; cases e2
    · rw [e3] at e2
      have e4 : k = g' := by simpa [Value.ownBlock] using e2
      subst e4
      rcases hc with hc | hc <;> rw [hg] at hc <;> injection hc with hc <;> injection hc with _ hc _
      · exact h1 hc
      · exact h2 hc
  rcases hk with e2 | ⟨z, hz2, e2⟩
  · exact one hz.row e2 (by decide) (by decide)
  · exact one (hz.own z hz2) e2 (by decide) (by decide)
theorem byte_cells (T : List UInt8) : Lib.byteCells T = (nuY T).map (Value.int .u8) := by unfold Lib.byteCells nuY; rw [List.map_map]; rfl
theorem OwnT.oby {B : Nat} {w : World} {v : Value} {T : List UInt8} (h : OwnT B w v T) : Oby B w v (nuY T) := by
  unfold Oby
  rw [nuY_len, ← byte_cells]
  exact Ory.of h (by decide)
theorem OwnT.obz {B : Nat} {w : World} {v : Value} {T : List UInt8} (h : OwnT B w v T) : Obz B w v T := by
  refine ⟨h.oby, fun k e => ?_⟩
  rcases h.2 with ⟨e3, _⟩ | ⟨g', cap, cur, e3, _, hg, _⟩
  · rw [e3] at e; cases e
  · rw [e3] at e
    have e4 : k = g' := by simpa [Value.ownBlock] using e
    subst e4
    exact ⟨_, _, .inl hg⟩
theorem oby_rdy {B : Nat} {w : World} {v : Value} {T : List UInt8} (h : Oby B w v (nuY T)) (hl : T.length ≤ 140737488355328) : RdY w v T := by
  unfold Oby at h
  rw [nuY_len] at h
  rcases h.2 with ⟨rfl, hn⟩ | ⟨g, cap, cur, t, rfl, h2, h3, h4, h5, h6, h7, h8⟩
  · have : T = [] := List.length_eq_zero_iff.1 hn
    subst this; exact RdY.nil w
  · refine ⟨hl, _, cap, rfl, h5, h6, fun e => (by cases e), fun _ => ⟨g, 0, rfl, (Array.getElem?_eq_some_iff.1 h3).1, fun j hj => ?_⟩⟩
    rw [Nat.zero_add, (Ory.at h hj).1, List.getElem?_map]
    have e := nuY_at T hj
    rw [List.getD_eq_getElem?_getD] at e
    rw [List.getElem?_eq_getElem (by rw [nuY_len]; exact hj)] at e ⊢
    simp only [Option.getD_some] at e
    rw [e]; rfl
theorem num_oby {w : World} {g B : Nat} {T : List UInt8} (h : w.heap[g]? = some (.cells (padA T) 78 (0, 0))) (hB : B ≤ g) (h10 : T.length ≤ 10) : Oby B w (.slice (some ⟨g, 0, none⟩) T.length 10) (nuY T) := by
  unfold Oby
  rw [nuY_len]
  refine ⟨by rw [List.length_map, nuY_len], .inr ⟨g, 10, _, _, rfl, hB, h, by decide, h10, by unfold maxLen; decide, padA_size h10, ?_⟩⟩
  unfold padA
  rw [← byte_cells]
  show (Lib.byteCells T ++ _).take T.length = _
  rw [List.take_left' (by simp [Lib.byteCells])]
theorem num_obz {w : World} {g B : Nat} {T : List UInt8} (h : w.heap[g]? = some (.cells (padA T) 78 (0, 0))) (hB : B ≤ g) (h10 : T.length ≤ 10) : Obz B w (.slice (some ⟨g, 0, none⟩) T.length 10) T :=
  ⟨num_oby h hB h10, fun k e => by
    have e4 : k = g := by simpa [Value.ownBlock] using e
    subst e4
    exact ⟨_, _, .inr h⟩⟩
theorem onb_obz {B : Nat} {w : World} {v : Value} {T : List UInt8} (h : Onb B w v (nuY T)) : Obz B w v T := OwnT.obz (by unfold OwnT; unfold Onb at h; rw [nuY_len] at h; rw [byte_cells]; exact h)
theorem ov_eq {Z : List Int} {N : Nat} (hN : Z.length = N) (hz : ∀ t, t < N → Z.getD t 0 = (7 * (t : Int)) % 256) : Z = nuY (ovY N) := by
  apply List.ext_getElem
  · rw [hN, nuY_len, ovY_len]
  · intro i h1 h2
    have h3 := hz i (by omega)
    have h4 := nuY_at (ovY N) (j := i) (by rw [ovY_len]; omega)
    rw [ovY_at (by omega), oy8_nat] at h4
    rw [List.getD_eq_getElem?_getD, List.getElem?_eq_getElem h1] at h3
    rw [List.getD_eq_getElem?_getD, List.getElem?_eq_getElem h2] at h4
    simp only [Option.getD_some] at h3 h4
    rw [h3, h4]
/-- bytes that are lent read as they are -/
theorem lent_rdy {B : Nat} {w : World} {g c : Nat} {T : List UInt8} (h : Onb B w (.slice (some ⟨g, 0, none⟩) (T.length + 64) c) (nuY T ++ y64)) (hb : T.length ≤ 1048576) : RdY w (.slice (some ⟨g, 0, none⟩) T.length c) T := by
  have h' := h
  unfold Onb at h'
  have hlen : (nuY T ++ y64).length = T.length + 64 := by rw [List.length_append, nuY_len, y64_len]
  rw [hlen] at h'
  obtain ⟨h1, h2⟩ : T.length + 64 ≤ c ∧ c ≤ maxLen := by
    rcases h'.2 with ⟨e1, _⟩ | ⟨g', cap', cur, hv, hb', hg', r1, r2, r3, r4⟩
    · simp at e1
    · injection hv with _ _ e3; subst e3; exact ⟨r1, r2⟩
  refine ⟨by omega, _, c, rfl, by omega, h2, fun e => (by cases e), fun _ => ⟨g, 0, rfl, (h'.lt g rfl).2, fun j hj => ?_⟩⟩
  have h9 : Ory w B (.slice (some ⟨g, 0, none⟩) (T.length + 64) c) (T.length + 64) ((nuY T ++ y64).map (Value.int .u8)) := by
    have h7 := h.obw
    unfold Oby at h7
    rw [hlen] at h7
    exact h7
  rw [Nat.zero_add, (Ory.at h9 (show j < T.length + 64 by omega)).1, List.getElem?_map, List.getElem?_append_left (by rw [nuY_len]; exact hj)]
  have e := nuY_at T hj
  rw [List.getD_eq_getElem?_getD] at e
  rw [List.getElem?_eq_getElem (by rw [nuY_len]; exact hj)] at e ⊢
  simp only [Option.getD_some] at e
  rw [e]; rfl
theorem ez_st {l : List Stp} (h : l.length + (l.map (fun x => x.2.length)).sum ≤ 1048576) : ez l ≤ 16777216 := by unfold ez; omega
theorem ez_ov (n : Nat) (h : n ≤ 1048576) : ez (ovS n) ≤ 33554432 := by
  have h1 : ((ovS n).map (fun x => x.2.length)).sum = 2 * n := by
    clear h
    induction n with
    | zero => rfl
    | succ k ih =>
      unfold ovS at ih ⊢
      rw [List.range_succ, List.map_append, List.map_append, List.sum_append, ih]
      show 2 * k + 2 = _
      omega
  unfold ez
  rw [h1, ovS_len]
  omega
theorem enc_len (l : List Stp) : (if sndS l then encB l else []).length ≤ ez l := by
  split
  · rename_i h; exact encB_le l h
  · exact Nat.zero_le _
/-- ApartBytes of such lists -/
theorem bytes_of {B : Nat} {w : World} {G : List (Value × List UInt8)} (rv : Value) (h : Gm B w G) (hB : B ≤ w.heap.size) (hrow : w.ownsRow B 44 1 rv G.length (G.map Prod.fst)) (hG : G.length ≤ 65536) (hl : ∀ x ∈ G, x.2.length ≤ 1099511627776) :
    Calls Tryd.prog 28 #[rv] w fun e w' => e = .returned (.bool true) ∧ Below B w w' := by
  have hgd : ∀ j (hj : j < G.length), G.getD j (.slice none 0 0, []) = G[j] := fun j hj => by rw [List.getD_eq_getElem?_getD, List.getElem?_eq_getElem hj]; rfl
  refine (apart_y (fun _ => False) B rv G.length (fun j => (G.getD j (.slice none 0 0, [])).1) (fun j => (G.getD j (.slice none 0 0, [])).2.length) w hB ?_ (fun j hj => ?_) (fun i j hi hj hne => ?_) (by omega) (fun j hj => ?_) (fun j hj b e hq => hq.elim) (fun k hk => hk.elim)).mono fun e w' ⟨h1, h2, _⟩ => ⟨h1, h2⟩
  · rw [range_getDz G (.slice none 0 0, []) Prod.fst]
    exact hrow
  · refine ⟨nuY (G[j]).2, ?_, by rw [hgd j hj, nuY_len]⟩
    rw [hgd j hj]
    exact (h.own _ (List.getElem_mem hj)).1
  · show (G.getD i _).1.ownBlock = none ∨ (G.getD i _).1.ownBlock ≠ (G.getD j _).1.ownBlock
    rw [hgd i hi, hgd j hj]
    exact apart_symz (f := fun x : Value × List UInt8 => x.1.ownBlock) h.ap i j hi hj hne
  · show (G.getD j _).2.length * 8 ≤ _
    rw [hgd j hj]
    have := hl _ (List.getElem_mem hj)
    omega
end Go.Proofs.YtilcokpaeapmeaaDoor
