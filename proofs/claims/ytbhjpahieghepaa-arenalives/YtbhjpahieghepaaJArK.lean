/-
  joined: ArK AmM AmQ AmR AmT AmU AmV AmW AmX AmY AmZ An1 An2 An3 An4 An5 An6 An7 An8 An9 Ao1 ArK2 ArK3 Ao2
-/
import Derived.Test.YtbhjpahieghepaaArSx
import Derived.Test.YtbhjpahieghepaaSames
import Derived.Deep.RegionHeld
import Derived.Test.YtbhjpahieghepaaAmP
import Derived.Maps.AppendAt
import Derived.Test.YtbhjpahieghepaaAppK
set_option linter.unusedSimpArgs false
set_option linter.unusedVariables false
namespace Go.Proofs.Ytbhjpahieghepaa
open Go Go.RowKit Go.Maps

theorem copied4_any (v : Value) (zs : List Int) (w : World) (hr : Rd w v zs) :
    Calls Try.prog 12 #[v] w fun e w' => ∃ v', e = .returned v' ∧ Own w.heap.size w' v' zs ∧ Below w.heap.size w w' := by
  have hl := hr.len
  obtain ⟨i0, hi, hz0, hz1, hz2⟩ := info_parts Try.info3
  rcases hr.cases with ⟨rfl, a, c, rfl, hm, hn⟩ | ⟨b, off, c, rfl, hpos, hc, hm, hb, hcell⟩
  · cases a with
    | none =>
      obtain rfl : c = 0 := hn rfl
      have hrun : ∀ ty w, (Builtin.append_ #[32, 32] ty #[.slice none 0 0, .slice none 0 0]).run Try.prog w = .ok (.slice none 0 0) w := fun ty w => run_append_owned_none (P := Try.prog) w 0 32 ty 3 i0 1 Try.underlying32 hi _ _ _ (World.ownsRow_nil w 0 3 1)
      go_enter Try.func12, Try.ntmps12
      go_wp2
      go_ret
      exact ⟨_, rfl, World.ownsRow_nil _ _ _ _, Below.refl _ _⟩
    | some ad =>
      go_enter Try.func12, Try.ntmps12
      go_wp2_with (at_builtin; refine wpList_append_own _ rfl _ _ 32 rfl w.heap.size 3 i0 (.int .i64 0) 1 8 Try.underlying32 hi hz0 hz1 hz2 rfl (by decide) (.slice none 0 0) 0 [] rfl (World.ownsRow_nil _ _ _ _) ad 0 c [] rfl rfl (by simp) (by simp) (by unfold maxLen; omega) (by omega) (by simp) ?_; intro v' w1 hown hgrow hnil)
      go_ret
      exact ⟨_, rfl, by simpa [Own] using hown, (Below.refl _ _).grown hgrow (Nat.le_refl _) (by simp [Value.ownBlock])⟩
  · have hnews : ∀ j u, (zs.map (Value.int .i64))[j]? = some u → w.cell? ((⟨b, off, none⟩ : Addr).add j) = some u := by
      intro j u hu
      have hj : j < zs.length := by
        have := (List.getElem?_eq_some_iff.1 hu).1
        simpa using this
      rw [Addr.add_lit]
      rw [hcell j hj]
      simp [hj] at hu
      simp [hj, hu]
    clear hcell
    go_enter Try.func12, Try.ntmps12
    go_wp2_with (at_builtin; refine wpList_append_own _ rfl _ _ 32 rfl w.heap.size 3 i0 (.int .i64 0) 1 8 Try.underlying32 hi hz0 hz1 hz2 rfl (by decide) (.slice none 0 0) 0 [] rfl (World.ownsRow_nil _ _ _ _) ⟨b, off, none⟩ zs.length c (zs.map (Value.int .i64)) rfl (by simp) hnews (ints_oneCell' zs) (by unfold maxLen; omega) (by omega) (by simp) ?_; intro v' w1 hown hgrow hnil)
    go_ret
    exact ⟨_, rfl, by simpa [Own] using hown, (Below.refl _ _).grown hgrow (Nat.le_refl _) (by simp [Value.ownBlock])⟩

/-- a clause of the book -/
structure Kp where
  pl : Int
  lits : List Int
  learnt : Bool
  live : Bool
abbrev Ent := Value × Kp
def rowsK (L : List Ent) : List Value := L.flatMap (fun x => [.int .i64 x.2.pl, x.1, .bool x.2.learnt, .bool x.2.live])
def bk : List Ent → LvL
  | [] => []
  | x :: r => (if x.2.live then [(x.2.pl, x.2.lits, x.2.learnt)] else []) ++ bk r
theorem bk_append : ∀ L M : List Ent, bk (L ++ M) = bk L ++ bk M
  | [], M => rfl
  | x :: r, M => by rw [List.cons_append, bk, bk, bk_append r M, List.append_assoc]
theorem bk_mem : ∀ {L : List Ent} {x : Ent}, x ∈ L → x.2.live = true → (x.2.pl, x.2.lits, x.2.learnt) ∈ bk L
  | y :: r, x, h, hl => by
    unfold bk
    rcases List.mem_cons.1 h with rfl | h
    · exact List.mem_append_left _ (by rw [if_pos hl]; exact List.mem_singleton.2 rfl)
    · exact List.mem_append_right _ (bk_mem h hl)
theorem bk_take_succ (L : List Ent) (i : Nat) (h : i < L.length) : bk (L.take (i + 1)) = bk (L.take i) ++ (if L[i].2.live then [(L[i].2.pl, L[i].2.lits, L[i].2.learnt)] else []) := by
  rw [List.take_succ_eq_append_getElem h, bk_append]
  simp [bk]
theorem rowsK_at {L : List Ent} {i : Nat} (hi : i < L.length) : (rowsK L)[i * 4]? = some (.int .i64 L[i].2.pl) ∧ (rowsK L)[i * 4 + 1]? = some L[i].1 ∧ (rowsK L)[i * 4 + 2]? = some (.bool L[i].2.learnt) ∧ (rowsK L)[i * 4 + 3]? = some (.bool L[i].2.live) := by
  induction L generalizing i with
  | nil => simp at hi
  | cons x r ih =>
    rw [show rowsK (x :: r) = .int .i64 x.2.pl :: x.1 :: .bool x.2.learnt :: .bool x.2.live :: rowsK r from rfl]
    cases i with
    | zero => simp
    | succ j =>
      have := ih (i := j) (by simpa using hi)
      rw [show (j + 1) * 4 = j * 4 + 1 + 1 + 1 + 1 by omega]
      simpa using this
theorem row_form4 {B K : Nat} {e : TypeId} {w : World} {x : Value} {xs : List Value} (h : w.ownsRow B e 4 x K xs) : ∃ a c, x = .slice a K c := by
  rcases h.2 with ⟨rfl, rfl⟩ | ⟨g, cap, cur, rfl, _⟩
  · exact ⟨none, 0, rfl⟩
  · exact ⟨_, _, rfl⟩
end Go.Proofs.Ytbhjpahieghepaa
set_option linter.unusedSimpArgs false
set_option linter.unusedVariables false
namespace Go.Proofs.Ytbhjpahieghepaa
open Go Go.RowKit

abbrev Mt := Value × Mc
def rowsM (L : List Mt) : List Value := L.flatMap (fun x => [.int .i64 x.2.pl, x.1, .bool x.2.learnt, .bool x.2.live])
theorem rowsM_at {L : List Mt} {i : Nat} (hi : i < L.length) : (rowsM L)[i * 4]? = some (.int .i64 L[i].2.pl) ∧ (rowsM L)[i * 4 + 1]? = some L[i].1 ∧ (rowsM L)[i * 4 + 2]? = some (.bool L[i].2.learnt) ∧ (rowsM L)[i * 4 + 3]? = some (.bool L[i].2.live) := by
  induction L generalizing i with
  | nil => simp at hi
  | cons x r ih =>
    rw [show rowsM (x :: r) = .int .i64 x.2.pl :: x.1 :: .bool x.2.learnt :: .bool x.2.live :: rowsM r from rfl]
    cases i with
    | zero => simp
    | succ j =>
      have := ih (i := j) (by simpa using hi)
      rw [show (j + 1) * 4 = j * 4 + 1 + 1 + 1 + 1 by omega]
      simpa using this
theorem rowsM_app (L M : List Mt) : rowsM (L ++ M) = rowsM L ++ rowsM M := by simp [rowsM]
/-- the document's list in memory -/
structure Mk4 (B : Nat) (W : World) (rv : Value) (L : List Mt) : Prop where
  row : W.ownsRow B 43 4 rv L.length (rowsM L)
  own : ∀ x ∈ L, Own B W x.1 x.2.lits
/-- the document's arena: its box, its list -/
structure Ma4 (B : Nat) (W : World) (m : Nat) (rv : Value) (L : List Mt) : Prop where
  box : W.heap[m]? = some (.cells #[rv] 48 (0, 0))
  ml : Mk4 B W rv L
  lo : B ≤ m
section
variable {B m : Nat} {W W' : World} {rv : Value} {L : List Mt}
theorem Mk4.below (h : Mk4 B W rv L) (hb : Below W.heap.size W W') : Mk4 B W' rv L :=
  ⟨World.ownsRow.kept h.row (grown_below hb) (one_or _), fun x hx => (h.own x hx).below hb⟩
theorem Ma4.lt (h : Ma4 B W m rv L) : m < W.heap.size := (Array.getElem?_eq_some_iff.1 h.box).1
theorem Ma4.below (h : Ma4 B W m rv L) (hb : Below W.heap.size W W') : Ma4 B W' m rv L := ⟨(hb.block m h.lt).trans h.box, h.ml.below hb, h.lo⟩
theorem Ma4.c0 (h : Ma4 B W m rv L) : W.cell? ⟨m, 0, none⟩ = some rv := by simp [World.cell?, h.box]
theorem Ma4.f0 (h : Ma4 B W m rv L) : W.frozen? ⟨m, 0, none⟩ = false := by simp [World.frozen?, h.box]
theorem Mk4.cells (h : Mk4 B W rv L) {i : Nat} (hi : i < L.length) : ∃ g cap, rv = .slice (some ⟨g, 0, none⟩) L.length cap ∧ L.length ≤ cap ∧ cap ≤ maxLen ∧ B ≤ g ∧ g < W.heap.size ∧
    W.cell? ⟨g, i * 4, none⟩ = some (.int .i64 L[i].2.pl) ∧ W.cell? ⟨g, i * 4 + 1, none⟩ = some L[i].1 ∧ W.cell? ⟨g, i * 4 + 2, none⟩ = some (.bool L[i].2.learnt) ∧ W.cell? ⟨g, i * 4 + 3, none⟩ = some (.bool L[i].2.live) ∧ ∀ j, W.frozen? ⟨g, j, none⟩ = false := by
  have hrow := h.row
  rcases hrow.2 with ⟨e, e2⟩ | ⟨g, cap, cur, rfl, hbg, hh, hnc, hcm, _⟩
  · omega
  · have hc := World.ownsRow.cells hrow (g := g) rfl
    obtain ⟨r0, r1, r2, r3⟩ := rowsM_at hi
    have a0 := hc _ _ r0
    have a1 := hc _ _ r1
    have a2 := hc _ _ r2
    have a3 := hc _ _ r3
    rw [Addr.add_lit, Nat.zero_add] at a0 a1 a2 a3
    exact ⟨g, cap, rfl, hnc, hcm, hbg, (Array.getElem?_eq_some_iff.1 hh).1, a0, a1, a2, a3, fun j => by simp [World.frozen?, hh]⟩
theorem Mk4.form (h : Mk4 B W rv L) : ∃ a c, rv = .slice a L.length c := row_form4 h.row
theorem Mk4.max (h : Mk4 B W rv L) : L.length ≤ maxLen := by
  rcases h.row.2 with ⟨_, e2⟩ | ⟨g, cap, cur, _, _, _, hnc, hcm, _⟩
  · omega
  · omega
theorem snd_at4 {L : List Mt} {i : Nat} (hi : i < L.length) : (L.map Prod.snd)[i]'(by simpa using hi) = L[i].2 := by simp
end
set_option maxHeartbeats 800000 in
theorem mWords_any (B m : Nat) (rv : Value) (L : List Mt) (w : World) (h : Ma4 B w m rv L) (hl : mwd (L.map Prod.snd) ≤ 4611686018427387904) :
    Calls Try.prog 23 #[.pointer (some ⟨m, 0, none⟩)] w fun e w' => e = .returned (.int .i64 (mwd (L.map Prod.snd))) ∧ w' = w := by
  have HM : Hid (Ma4 B w m rv L) := h
  have hmx := h.ml.max
  unfold maxLen at hmx
  obtain ⟨ra, rc, hrv⟩ := h.ml.form
  subst hrv
  have c0 := h.c0
  have HW : Hid (mwd (L.map Prod.snd) ≤ 4611686018427387904) := hl
  clear h hl
  go_enter Try.func23, Try.ntmps23
  go_wp2
  go_loopg [3, 4] L.length (fun q n' i' wr => ∃ k : Nat, k + q = L.length ∧ i' = .int .i64 k ∧ n' = .int .i64 (mwd ((L.map Prod.snd).take k)) ∧ wr = w)
  case atStart => exact ⟨0, by omega, rfl, rfl, rfl⟩
  case round =>
    obtain ⟨k, hk, rfl, rfl, ew⟩ := hrel
    have ew := ew.symm
    subst ew
    have HK : Hid (k + gk = L.length) := hk
    clear hk
    by_cases hlt : k < L.length
    · obtain ⟨g, cap, erv, hnc, hcm, hBg, hgl, d0, d1, d2, d3, df⟩ := HM.out.ml.cells hlt
      injection erv with e1 e2 e3
      subst e1; subst e3
      clear e2
      have ho := HM.out.ml.own _ (List.getElem_mem hlt)
      obtain ⟨la, lc, hls⟩ := own_form ho
      rw [hls] at d1
      have hmt := mwd_take (L.map Prod.snd) k (by simpa using hlt)
      rw [snd_at4 hlt] at hmt
      have hle := mwd_le (L.map Prod.snd) (k + 1)
      have hW := HW.out
      have HLT : Hid (k < L.length) := hlt
      have HMt : Hid (mwd ((L.map Prod.snd).take (k + 1)) = mwd ((L.map Prod.snd).take k) + 1 + L[k].2.lits.length) := hmt
      rw [hmt] at hle
      clear hls ho d0 d2 d3 df hmt
      generalize L[k].2.lits.length = zl at *
      generalize mwd ((L.map Prod.snd).take k) = M at *
      generalize mwd (L.map Prod.snd) = MM at *
      go_wp2
      go_roundg (gk - 1)
      case measure => have := HK.out; have := HLT.out; omega
      case rel => exact ⟨k + 1, by have := HK.out; have := HLT.out; omega, by go_num, by rw [HMt.out]; go_num, rfl⟩
    · obtain rfl : k = L.length := by have := HK.out; omega
      have HE : Hid (mwd ((L.map Prod.snd).take L.length) = mwd (L.map Prod.snd)) := by show _ = _; rw [List.take_of_length_le (by simp)]
      rw [HE.out]
      clear hlt
      go_wp2
      go_ret
      exact ⟨rfl, rfl⟩
set_option maxHeartbeats 800000 in
theorem mCount_any (B m : Nat) (rv : Value) (L : List Mt) (w : World) (h : Ma4 B w m rv L) :
    Calls Try.prog 22 #[.pointer (some ⟨m, 0, none⟩)] w fun e w' => e = .returned (.int .i64 (mct (L.map Prod.snd))) ∧ w' = w := by
  have HM : Hid (Ma4 B w m rv L) := h
  have hmx := h.ml.max
  unfold maxLen at hmx
  obtain ⟨ra, rc, hrv⟩ := h.ml.form
  subst hrv
  have c0 := h.c0
  clear h
  go_enter Try.func22, Try.ntmps22
  go_wp2
  go_loopg [3, 4] L.length (fun q n' i' wr => ∃ k : Nat, k + q = L.length ∧ i' = .int .i64 k ∧ n' = .int .i64 (mct ((L.map Prod.snd).take k)) ∧ wr = w)
  case atStart => exact ⟨0, by omega, rfl, rfl, rfl⟩
  case round =>
    obtain ⟨k, hk, rfl, rfl, ew⟩ := hrel
    have ew := ew.symm
    subst ew
    have HK : Hid (k + gk = L.length) := hk
    clear hk
    by_cases hlt : k < L.length
    · obtain ⟨g, cap, erv, hnc, hcm, hBg, hgl, d0, d1, d2, d3, df⟩ := HM.out.ml.cells hlt
      injection erv with e1 e2 e3
      subst e1; subst e3
      clear e2
      have hmt := mct_take (L.map Prod.snd) k (by simpa using hlt)
      rw [snd_at4 hlt] at hmt
      have hle := mct_le (L.map Prod.snd) k
      have HLT : Hid (k < L.length) := hlt
      obtain ⟨lb, hlb⟩ : ∃ lb, L[k].2.live = lb := ⟨_, rfl⟩
      have d3' := d3.trans (congrArg (fun b => some (Value.bool b)) hlb)
      have hmt' := hmt.trans (congrArg (fun b : Bool => mct ((L.map Prod.snd).take k) + if b = true then 1 else 0) hlb)
      clear hlb d3 hmt
      cases lb
      · have HMt : Hid (mct ((L.map Prod.snd).take (k + 1)) = mct ((L.map Prod.snd).take k)) := by show _ = _; rw [hmt']; simp
        clear d0 d1 d2 df hmt'
        generalize mct ((L.map Prod.snd).take k) = M at *
        go_wp2
        go_roundg (gk - 1)
        case measure => have := HK.out; have := HLT.out; omega
        case rel => exact ⟨k + 1, by have := HK.out; have := HLT.out; omega, by go_num, by rw [HMt.out], rfl⟩
      · have HMt : Hid (mct ((L.map Prod.snd).take (k + 1)) = mct ((L.map Prod.snd).take k) + 1) := by show _ = _; rw [hmt']; simp
        clear d0 d1 d2 df hmt'
        generalize mct ((L.map Prod.snd).take k) = M at *
        go_wp2
        go_roundg (gk - 1)
        case measure => have := HK.out; have := HLT.out; omega
        case rel => exact ⟨k + 1, by have := HK.out; have := HLT.out; omega, by go_num, by rw [HMt.out]; go_num, rfl⟩
    · obtain rfl : k = L.length := by have := HK.out; omega
      have HE : Hid (mct ((L.map Prod.snd).take L.length) = mct (L.map Prod.snd)) := by show _ = _; rw [List.take_of_length_le (by simp)]
      rw [HE.out]
      clear hlt
      go_wp2
      go_ret
      exact ⟨rfl, rfl⟩
/-- what find says -/
def Fi4 (L : List Mt) (r : Int) (e : Ending) : Prop :=
  (e = .returned (.int .i64 (-1)) ∧ ∀ x ∈ L, ¬ (x.2.live = true ∧ x.2.pl = r)) ∨ ∃ i, ∃ h : i < L.length, e = .returned (.int .i64 i) ∧ L[i].2.live = true ∧ L[i].2.pl = r ∧ ∀ k (hk : k < i), ¬ (L[k].2.live = true ∧ L[k].2.pl = r)
set_option maxHeartbeats 800000 in
theorem mFind_any (B m : Nat) (rv : Value) (L : List Mt) (r : Int) (w : World) (h : Ma4 B w m rv L) :
    Calls Try.prog 35 #[.pointer (some ⟨m, 0, none⟩), .int .i64 r] w fun e w' => Fi4 L r e ∧ w' = w := by
  have HM : Hid (Ma4 B w m rv L) := h
  have hmx := h.ml.max
  unfold maxLen at hmx
  obtain ⟨ra, rc, hrv⟩ := h.ml.form
  subst hrv
  have c0 := h.c0
  clear h
  go_enter Try.func35, Try.ntmps35
  go_wp2
  go_loopg [5] L.length (fun q i' wr => ∃ k : Nat, k + q = L.length ∧ i' = .int .i64 k ∧ wr = w ∧ ∀ i (hi : i < L.length), i < k → ¬ (L[i].2.live = true ∧ L[i].2.pl = r))
  case atStart => exact ⟨0, by omega, rfl, rfl, fun i _ hi => absurd hi (Nat.not_lt_zero _)⟩
  case round =>
    obtain ⟨k, hk, rfl, ew, hno⟩ := hrel
    have ew := ew.symm
    subst ew
    have HK : Hid (k + gk = L.length) := hk
    have HNo : Hid (∀ i (hi : i < L.length), i < k → ¬ (L[i].2.live = true ∧ L[i].2.pl = r)) := hno
    clear hk hno
    by_cases hlt : k < L.length
    · obtain ⟨g, cap, erv, hnc, hcm, hBg, hgl, d0, d1, d2, d3, df⟩ := HM.out.ml.cells hlt
      injection erv with e1 e2 e3
      subst e1; subst e3
      clear e2
      have HLT : Hid (k < L.length) := hlt
      obtain ⟨x, hx⟩ : ∃ x, L[k].2 = x := ⟨_, rfl⟩
      have d0' := d0.trans (congrArg (fun y : Mc => some (Value.int .i64 y.pl)) hx)
      have d3' := d3.trans (congrArg (fun y : Mc => some (Value.bool y.live)) hx)
      have hxe : (L[k].2.live = true ∧ L[k].2.pl = r) ↔ (x.live = true ∧ x.pl = r) := by subst hx; exact Iff.rfl
      have HN1 : Hid (¬ (x.live = true ∧ x.pl = r) → ∀ i (hi : i < L.length), i < k + 1 → ¬ (L[i].2.live = true ∧ L[i].2.pl = r)) := fun hx' i hi hik => by
        by_cases e : i = k
        · subst e; exact fun hh => hx' (hxe.1 hh)
        · exact HNo.out i hi (by omega)
      have HY : Hid ((x.live = true ∧ x.pl = r) → Fi4 L r (.returned (.int .i64 (k : Int)))) := fun hh => .inr ⟨k, hlt, rfl, (hxe.2 hh).1, (hxe.2 hh).2, fun i hi => HNo.out i (by omega) hi⟩
      clear d0 d1 d2 d3 df hx hxe
      obtain ⟨xp, xl, xr, xv⟩ := x
      cases xv
      · have HN2 : Hid (∀ i (hi : i < L.length), i < k + 1 → ¬ (L[i].2.live = true ∧ L[i].2.pl = r)) := HN1.out (by simp)
        go_wp2
        go_roundg (gk - 1)
        case measure => have := HK.out; have := HLT.out; omega
        case rel => exact ⟨k + 1, by have := HK.out; have := HLT.out; omega, by go_num, rfl, HN2.out⟩
      · by_cases hp : xp = r
        · have HF : Hid (Fi4 L r (.returned (.int .i64 (k : Int)))) := HY.out ⟨rfl, hp⟩
          subst hp
          go_wp2
          go_ret
          exact ⟨HF.out, rfl⟩
        · have HN2 : Hid (∀ i (hi : i < L.length), i < k + 1 → ¬ (L[i].2.live = true ∧ L[i].2.pl = r)) := HN1.out (fun ⟨_, b⟩ => hp b)
          have hpb : (xp == r) = false := beq_eq_false_iff_ne.2 hp
          clear hp
          go_wp2
          go_roundg (gk - 1)
          case measure => have := HK.out; have := HLT.out; omega
          case rel => exact ⟨k + 1, by have := HK.out; have := HLT.out; omega, by go_num, rfl, HN2.out⟩
    · obtain rfl : k = L.length := by have := HK.out; omega
      have HF : Hid (Fi4 L r (.returned (.int .i64 (-1)))) := .inl ⟨rfl, fun x hx => by
        obtain ⟨i, hi, e⟩ := List.getElem_of_mem hx
        rw [← e]
        exact HNo.out i hi hi⟩
      clear hlt
      go_wp2
      go_ret
      exact ⟨HF.out, rfl⟩
end Go.Proofs.Ytbhjpahieghepaa
set_option linter.unusedSimpArgs false
set_option linter.unusedVariables false
namespace Go.Proofs.Ytbhjpahieghepaa
open Go Go.RowKit

/-- the document's arena says what the words say -/
structure Mz4 (B : Nat) (W : World) (m : Nat) (rv : Value) (L : List Mt) (S : List Seg) : Prop where
  ma : Ma4 B W m rv L
  eq : L.map Prod.snd = plc 0 S
theorem Mz4.below {B m : Nat} {W W' : World} {rv : Value} {L : List Mt} {S : List Seg} (h : Mz4 B W m rv L S) (hb : Below W.heap.size W W') : Mz4 B W' m rv L S := ⟨h.ma.below hb, h.eq⟩
theorem mz_at {L : List Mt} {S : List Seg} (h : L.map Prod.snd = plc 0 S) {i : Nat} (hi : i < L.length) (hi2 : i < (plc 0 S).length) : L[i].2 = (plc 0 S)[i] := by
  have : (L.map Prod.snd)[i]'(by simpa using hi) = (plc 0 S)[i] := by simp only [h]
  rw [← this]; simp
theorem fi_none {L : List Mt} {S : List Seg} {r : Int} {e : Ending} (h : L.map Prod.snd = plc 0 S) (hf : find S r = none) (he : Fi4 L r e) : e = .returned (.int .i64 (-1)) := by
  rcases he with ⟨e1, _⟩ | ⟨i, hi, _, h2, h3, _⟩
  · exact e1
  · have hp := (plc_find S 0 r).1 (by rw [Int.sub_zero]; exact hf)
    exact absurd ⟨h2, h3⟩ (hp L[i].2 (by rw [← h]; exact List.mem_map.2 ⟨L[i], List.getElem_mem hi, rfl⟩))
theorem fi_some {L : List Mt} {S : List Seg} {r : Int} {e : Ending} {s : Seg} (h : L.map Prod.snd = plc 0 S) (hf : find S r = some s) (he : Fi4 L r e) : ∃ i, ∃ hi : i < L.length, e = .returned (.int .i64 i) ∧ L[i].2 = ⟨r, s.lits, s.learnt, true⟩ ∧ plc 0 (dropAt S r) = (L.map Prod.snd).set i ⟨r, s.lits, s.learnt, false⟩ := by
  obtain ⟨i0, hi0, h1, h2, h3⟩ := (plc_find S 0 r).2 s (by rw [Int.sub_zero]; exact hf)
  rw [Int.sub_zero] at h2
  have hl : L.length = (plc 0 S).length := by rw [← h]; simp
  have hi0' : i0 < L.length := by omega
  have e0 : L[i0].2 = ⟨r, s.lits, s.learnt, true⟩ := (mz_at h hi0' hi0).trans h1
  rcases he with ⟨_, hn⟩ | ⟨i, hi, e1, g1, g2, g3⟩
  · exact absurd ⟨by rw [e0], by rw [e0]⟩ (hn L[i0] (List.getElem_mem hi0'))
  · have hii : i = i0 := by
      rcases Nat.lt_trichotomy i i0 with q | q | q
      · have := h3 i q
        rw [← mz_at h hi (by omega)] at this
        exact absurd ⟨g1, g2⟩ this
      · exact q
      · exact absurd ⟨by rw [e0], by rw [e0]⟩ (g3 i0 q)
    subst hii
    exact ⟨i, hi, e1, e0, by rw [h2, h]⟩
set_option maxHeartbeats 800000 in
theorem mLearnt_any (B m : Nat) (rv : Value) (L : List Mt) (S : List Seg) (r : Int) (w : World) (h : Mz4 B w m rv L S) :
    Calls Try.prog 17 #[.pointer (some ⟨m, 0, none⟩), .int .i64 r] w fun e w' => e = .returned (.bool (match find S r with | some s => s.learnt | none => false)) ∧ w' = w := by
  have HM : Hid (Mz4 B w m rv L S) := h
  have hmx := h.ma.ml.max
  unfold maxLen at hmx
  have c0 := h.ma.c0
  cases hf : find S r with
  | none =>
    have HF : Hid (find S r = none) := hf
    clear h c0 hf
    go_enter Try.func17, Try.ntmps17
    go_wp2_with fail
    refine (mFind_any B m rv L r w HM.out.ma).mono ?_
    rintro e w1 ⟨he, ew⟩
    have ew := ew.symm
    subst ew
    have he := fi_none HM.out.eq HF.out he
    subst he
    go_wp2
    go_ret
    exact ⟨rfl, rfl⟩
  | some s =>
    have HF : Hid (find S r = some s) := hf
    obtain ⟨ra, rc, hrv⟩ := h.ma.ml.form
    subst hrv
    clear h hf
    go_enter Try.func17, Try.ntmps17
    go_wp2_with fail
    refine (mFind_any B m _ L r w HM.out.ma).mono ?_
    rintro e w1 ⟨he, ew⟩
    have ew := ew.symm
    subst ew
    obtain ⟨i, hi, e1, e2, -⟩ := fi_some HM.out.eq HF.out he
    subst e1
    obtain ⟨g, cap, erv, hnc, hcm, hBg, hgl, d0, d1, d2, d3, df⟩ := HM.out.ma.ml.cells hi
    injection erv with q1 q2 q3
    subst q1; subst q3
    have d2' := d2.trans (congrArg (fun x : Mc => some (Value.bool x.learnt)) e2)
    clear q2 d0 d1 d2 d3 df e2 he
    go_wp2
    go_ret
    exact ⟨rfl, rfl⟩
theorem get4_below {w w8 v8 : _} (h : Ap w (.slice none 0 0) w8 v8) : Below w.heap.size w w8 := (Below.refl _ _).grown h.grown (Nat.le_refl _) (by simp [Value.ownBlock])
/-- what Get says -/
def Gt4 (w : World) (S : List Seg) (r : Int) (e : Ending) (w' : World) : Prop :=
  (find S r = none ∧ e = .returned (.tuple #[.slice none 0 0, .bool false]) ∧ w' = w) ∨ ∃ s, find S r = some s ∧ ∃ u, e = .returned (.tuple #[u, .bool true]) ∧ Own w.heap.size w' u s.lits ∧ Below w.heap.size w w'
set_option maxHeartbeats 1600000 in
theorem mGet_any (B m : Nat) (rv : Value) (L : List Mt) (S : List Seg) (r : Int) (w : World) (h : Mz4 B w m rv L S) (h8 : ∀ x ∈ L, x.2.lits.length * 8 ≤ 140737488351232) :
    Calls Try.prog 15 #[.pointer (some ⟨m, 0, none⟩), .int .i64 r] w fun e w' => Gt4 w S r e w' := by
  have HM : Hid (Mz4 B w m rv L S) := h
  have hmx := h.ma.ml.max
  unfold maxLen at hmx
  have c0 := h.ma.c0
  obtain ⟨i0, hi0, hz0, hz1, hz2⟩ := info_parts Try.info3
  cases hf : find S r with
  | none =>
    have HF : Hid (find S r = none) := hf
    clear h c0 hf
    go_enter Try.func15, Try.ntmps15
    go_wp2_with fail
    refine (mFind_any B m rv L r w HM.out.ma).mono ?_
    rintro e w1 ⟨he, ew⟩
    have ew := ew.symm
    subst ew
    have he := fi_none HM.out.eq HF.out he
    subst he
    go_wp2
    go_returns
    exact .inl ⟨HF.out, rfl, rfl⟩
  | some s =>
    have HF : Hid (find S r = some s) := hf
    have H8 : Hid (∀ x ∈ L, x.2.lits.length * 8 ≤ 140737488351232) := h8
    obtain ⟨ra, rc, hrv⟩ := h.ma.ml.form
    subst hrv
    clear h hf h8
    go_enter Try.func15, Try.ntmps15
    go_wp2_with fail
    refine (mFind_any B m _ L r w HM.out.ma).mono ?_
    rintro e w1 ⟨he, ew⟩
    have ew := ew.symm
    subst ew
    obtain ⟨i, hi, e1, e2, -⟩ := fi_some HM.out.eq HF.out he
    subst e1
    obtain ⟨g, cap, erv, hnc, hcm, hBg, hgl, d0, d1, d2, d3, df⟩ := HM.out.ma.ml.cells hi
    injection erv with q1 q2 q3
    subst q1; subst q3
    have ho := HM.out.ma.ml.own _ (List.getElem_mem hi)
    have h8 := H8.out _ (List.getElem_mem hi)
    rw [show L[i].2.lits = s.lits from congrArg Mc.lits e2] at ho h8
    obtain ⟨la, lc, hls⟩ := own_form ho
    have d1' := d1.trans (congrArg some hls)
    rw [hls] at ho
    have HR : Hid (Rd w (.slice la s.lits.length lc) s.lits) := ho.rd h8
    have HFin : Hid (∀ u w', Own w.heap.size w' u s.lits → Below w.heap.size w w' → Gt4 w S r (.returned (.tuple #[u, .bool true])) w') := fun u w' h1 h2 => .inr ⟨s, HF.out, u, rfl, h1, h2⟩
    clear q2 d0 d1 d2 d3 df e2 he hls ho
    go_wp2_with (at_builtin; refine wpList_app_rd rfl _ _ rfl w.heap.size (.slice none 0 0) (.slice la s.lits.length lc) [] s.lits rfl rfl (World.ownsRow_nil _ _ _ _) HR.out (by simp; omega) (Nat.le_refl _) ?_; intro v8 w8 own8 ap8; have HO8 : Hid (Own w.heap.size w8 v8 s.lits ∧ Below w.heap.size w w8) := ⟨by simpa using own8, get4_below ap8⟩; clear own8 ap8)
    go_returns
    exact HFin.out _ _ HO8.out.1 HO8.out.2
end Go.Proofs.Ytbhjpahieghepaa
set_option linter.unusedSimpArgs false
set_option linter.unusedVariables false
namespace Go.Proofs.Ytbhjpahieghepaa
open Go Go.RowKit

theorem rowsM_kill : ∀ {L : List Mt} {i : Nat} (hi : i < L.length) (x' : Mc), x'.pl = L[i].2.pl → x'.learnt = L[i].2.learnt → x'.live = false → rowsM (L.set i (L[i].1, x')) = (rowsM L).set (i * 4 + 3) (.bool false)
  | x :: r, 0, hi, x', h1, h2, h3 => by
    show rowsM ((x.1, x') :: r) = (Value.int .i64 x.2.pl :: x.1 :: .bool x.2.learnt :: .bool x.2.live :: rowsM r).set 3 (.bool false)
    have e1 : x'.pl = x.2.pl := h1
    have e2 : x'.learnt = x.2.learnt := h2
    rw [show rowsM ((x.1, x') :: r) = .int .i64 x'.pl :: x.1 :: .bool x'.learnt :: .bool x'.live :: rowsM r from rfl, e1, e2, h3]
    rfl
  | x :: r, i + 1, hi, x', h1, h2, h3 => by
    have ih := rowsM_kill (L := r) (i := i) (by simpa using hi) x' (by simpa using h1) (by simpa using h2) h3
    rw [show (i + 1) * 4 + 3 = (i * 4 + 3) + 1 + 1 + 1 + 1 by omega]
    show rowsM (x :: r.set i ((r[i]'(by simpa using hi)).1, x')) = (Value.int .i64 x.2.pl :: x.1 :: .bool x.2.learnt :: .bool x.2.live :: rowsM r).set ((i * 4 + 3) + 1 + 1 + 1 + 1) (.bool false)
    rw [show rowsM (x :: r.set i ((r[i]'(by simpa using hi)).1, x')) = .int .i64 x.2.pl :: x.1 :: .bool x.2.learnt :: .bool x.2.live :: rowsM (r.set i ((r[i]'(by simpa using hi)).1, x')) from rfl, ih]
    rfl
/-- a clause of the list is taken out -/
theorem Ma4.kill {B m g cap : Nat} {W : World} {L : List Mt} {i : Nat} (h : Ma4 B W m (.slice (some ⟨g, 0, none⟩) L.length cap) L) (hi : i < L.length) (x' : Mc) (h1 : x'.pl = L[i].2.pl) (h2 : x'.learnt = L[i].2.learnt) (h3 : x'.live = false) (h4 : x'.lits = L[i].2.lits) :
    Ma4 B (W.setCell ⟨g, i * 4 + 3, none⟩ (.bool false)) m (.slice (some ⟨g, 0, none⟩) L.length cap) (L.set i (L[i].1, x')) := by
  have hg := grown_set W ⟨g, i * 4 + 3, none⟩ (.bool false)
  have hmg : m ≠ g := by
    rintro rfl
    rcases h.ml.row.2 with ⟨e, _⟩ | ⟨g', cap', cur, e, _, hh, _⟩
    · cases e
    · injection e with e1 _ _
      injection e1 with e1
      injection e1 with e1
      subst e1
      rw [h.box] at hh
      injection hh with hh
      injection hh with _ hh
      exact absurd hh (by decide)
  refine ⟨(hg.block m h.lt (by simpa using hmg)).trans h.box, ⟨?_, fun x hx => ?_⟩, h.lo⟩
  · have := (World.ownsRow.stored h.ml.row (i * 4 + 3) (.bool false)).1
    rw [rowsM_kill hi x' h1 h2 h3, List.length_set]
    exact this
  · have key : ∀ y : Mt, y ∈ L → Own B (W.setCell ⟨g, i * 4 + 3, none⟩ (.bool false)) y.1 y.2.lits := fun y hy =>
      row_apart (by decide) (h.ml.own y hy) h.ml.row (World.ownsRow.stored h.ml.row (i * 4 + 3) (.bool false)).2
    rcases List.mem_or_eq_of_mem_set hx with e | e
    · exact key x e
    · rw [e]
      have := key L[i] (List.getElem_mem hi)
      show Own B _ L[i].1 x'.lits
      rw [h4]; exact this
theorem set_snd4 {L : List Mt} {i : Nat} {v : Value} {x : Mc} : (L.set i (v, x)).map Prod.snd = (L.map Prod.snd).set i x := by rw [List.map_set]
/-- the lists' values: as they were, or new -/
def Vs4 (w : World) (L L' : List Mt) : Prop := ∀ x ∈ L', (∃ y ∈ L, y.1 = x.1) ∨ ∀ g, x.1.ownBlock = some g → w.heap.size ≤ g
theorem vs_set {w : World} {L : List Mt} {i : Nat} (hi : i < L.length) (c : Mc) : Vs4 w L (L.set i (L[i].1, c)) := fun x hx => by
  rcases List.mem_or_eq_of_mem_set hx with e | e
  · exact .inl ⟨x, e, rfl⟩
  · exact .inl ⟨L[i], List.getElem_mem hi, by rw [e]⟩
/-- what Drop says -/
def Dp4 (B : Nat) (w : World) (m : Nat) (rv : Value) (L : List Mt) (S : List Seg) (r : Int) (e : Ending) (w' : World) : Prop :=
  (find S r = none ∧ e = .returned (.int .i64 2) ∧ w' = w) ∨ ∃ s, find S r = some s ∧ ∃ L', e = .returned (.int .i64 0) ∧ Mz4 B w' m rv L' (dropAt S r) ∧ Mv w m rv w' rv ∧ Vs4 w L L' ∧ L'.length = L.length
set_option maxHeartbeats 1600000 in
theorem mDrop_any (B m : Nat) (rv : Value) (L : List Mt) (S : List Seg) (r : Int) (w : World) (h : Mz4 B w m rv L S) :
    Calls Try.prog 19 #[.pointer (some ⟨m, 0, none⟩), .int .i64 r] w fun e w' => Dp4 B w m rv L S r e w' := by
  have HM : Hid (Mz4 B w m rv L S) := h
  have hmx := h.ma.ml.max
  unfold maxLen at hmx
  have c0 := h.ma.c0
  cases hf : find S r with
  | none =>
    have HF : Hid (find S r = none) := hf
    clear h c0 hf
    go_enter Try.func19, Try.ntmps19
    go_wp2_with fail
    refine (mFind_any B m rv L r w HM.out.ma).mono ?_
    rintro e w1 ⟨he, ew⟩
    have ew := ew.symm
    subst ew
    have he := fi_none HM.out.eq HF.out he
    subst he
    go_wp2
    go_ret
    exact .inl ⟨HF.out, rfl, rfl⟩
  | some s =>
    have HF : Hid (find S r = some s) := hf
    obtain ⟨ra, rc, hrv⟩ := h.ma.ml.form
    subst hrv
    clear h hf
    go_enter Try.func19, Try.ntmps19
    go_wp2_with fail
    refine (mFind_any B m _ L r w HM.out.ma).mono ?_
    rintro e w1 ⟨he, ew⟩
    have ew := ew.symm
    subst ew
    obtain ⟨i, hi, e1, e2, e3⟩ := fi_some HM.out.eq HF.out he
    subst e1
    obtain ⟨g, cap, erv, hnc, hcm, hBg, hgl, d0, d1, d2, d3, df⟩ := HM.out.ma.ml.cells hi
    injection erv with q1 q2 q3
    subst q1; subst q3
    have d3' := d3.trans (congrArg (fun x : Mc => some (Value.bool x.live)) e2)
    have HFin : Hid (∀ X, X = w.setCell ⟨g, i * 4 + 3, none⟩ (.bool false) → Dp4 B w m (.slice (some ⟨g, 0, none⟩) L.length rc) L S r (.returned (.int .i64 0)) X) := fun X eX => by
      subst eX
      have hk := HM.out.ma.kill hi ⟨r, s.lits, s.learnt, false⟩ (congrArg Mc.pl e2).symm (congrArg Mc.learnt e2).symm rfl (congrArg Mc.lits e2).symm
      have hg := grown_set w ⟨g, i * 4 + 3, none⟩ (.bool false)
      exact .inr ⟨s, HF.out, _, rfl, ⟨hk, by rw [set_snd4]; exact e3.symm⟩, ⟨hg.os, hg.tape, hg.output, hg.size, fun k hk _ h2 => hg.block k hk h2, .inl rfl⟩, vs_set hi _, List.length_set⟩
    have hfz := df (i * 4 + 3)
    clear q2 d0 d1 d2 d3 df e2 e3 he
    go_wp2
    go_ret
    exact HFin.out _ rfl
end Go.Proofs.Ytbhjpahieghepaa
set_option linter.unusedSimpArgs false
set_option linter.unusedVariables false
namespace Go.Proofs.Ytbhjpahieghepaa
open Go Go.RowKit

theorem infoM4 : (Try.prog.info? 43).map (fun i => (i.zero, i.size, i.bytes)) = some (some (.agg #[.int .i64 0, .slice none 0 0, .bool false, .bool false]), 4, 40) := by kernel_rfl
theorem cell_four_new4 (w : World) (x0 x1 x2 x3 : Value) (t : TypeId) : ∀ j u, [x0, x1, x2, x3][j]? = some u → (w.alloc (.cells #[x0, x1, x2, x3] t)).cell? ((⟨w.heap.size, 0, none⟩ : Addr).add j) = some u := by
  intro j u hj
  have hh := World.alloc_heap_new w (.cells #[x0, x1, x2, x3] t)
  rw [Addr.add_lit]
  show (match (w.alloc (.cells #[x0, x1, x2, x3] t)).heap[w.heap.size]? with | some (Obj.cells c elem frozen) => c[0 + j]? | x => none) = _
  rw [hh, Nat.zero_add]
  match j, hj with
  | 0, hj => simpa using hj
  | 1, hj => simpa using hj
  | 2, hj => simpa using hj
  | 3, hj => simpa using hj
theorem set_heap4 {w : World} {g : Nat} {c : Array Value} {e : TypeId} {f : Nat × Nat} (h : w.heap[g]? = some (.cells c e f)) (k : Nat) (v : Value) : (w.setCell ⟨g, k, none⟩ v).heap[g]? = some (.cells (c.setIfInBounds k v) e f) := by
  obtain ⟨hlt, hk⟩ := Array.getElem?_eq_some_iff.1 h
  show (w.heap.modify g _)[g]? = _
  rw [Array.getElem?_eq_getElem (by rw [Array.size_modify]; exact hlt), Array.getElem_modify_self, hk]
  rfl
/-- what Put says -/
def Pt4 (B : Nat) (w : World) (m : Nat) (rv : Value) (L : List Mt) (S : List Seg) (c : List Int) (l : Bool) (e : Ending) (w' : World) : Prop :=
  e = .returned (.tuple #[.int .i64 (flat S).length, .int .i64 0]) ∧ ∃ rv' u, Mz4 B w' m rv' (L ++ [(u, ⟨(flat S).length, c, l, true⟩)]) (S ++ [⟨c, l, true⟩]) ∧ Mv w m rv w' rv' ∧ ∀ g, u.ownBlock = some g → w.heap.size ≤ g
theorem put4_fin {B m : Nat} {w w2 w3 w4 : World} {rv rv' u : Value} {L : List Mt} {S : List Seg} {c : List Int} {l : Bool} (h : Mz4 B w2 m rv L S) (hb : Below w.heap.size w w2) (ho : Own B w2 u c) (e3 : w3 = w2.alloc (.cells #[.int .i64 (flat S).length, u, .bool l, .bool true] 43))
    (own4 : w4.ownsRow B 43 4 rv' (L.length + 1) (rowsM L ++ [.int .i64 (flat S).length, u, .bool l, .bool true])) (gr4 : w3.grownBy w4 rv.ownBlock) (hat : rv'.ownBlock = rv.ownBlock ∨ rv'.ownBlock = some w3.heap.size) :
    Mz4 B (w4.setCell ⟨m, 0, none⟩ rv') m rv' (L ++ [(u, ⟨(flat S).length, c, l, true⟩)]) (S ++ [⟨c, l, true⟩]) ∧ Mv w m rv (w4.setCell ⟨m, 0, none⟩ rv') rv' ∧ w4.cell? ⟨m, 0, none⟩ = some rv ∧ w4.frozen? ⟨m, 0, none⟩ = false := by
  have hb3 : Below w2.heap.size w2 w3 := by rw [e3]; exact below_box _ _
  have h3 := h.below hb3
  have hne : some m ≠ rv.ownBlock := by
    intro q
    rcases h3.ma.ml.row.2 with ⟨e, _⟩ | ⟨g', cap', cur, e, _, hh, _⟩
    · rw [e] at q; cases q
    · rw [e] at q
      injection q with q
      subst q
      rw [h3.ma.box] at hh
      injection hh with hh
      injection hh with _ hh
      exact absurd hh (by decide)
  have hbx : w4.heap[m]? = some (.cells #[rv] 48 (0, 0)) := (gr4.block m h3.ma.lt hne).trans h3.ma.box
  have hset : (w4.setCell ⟨m, 0, none⟩ rv').heap[m]? = some (.cells #[rv'] 48 (0, 0)) := set_heap4 hbx 0 rv'
  have hg := grown_set w4 ⟨m, 0, none⟩ rv'
  have keepI : ∀ {x : Value} {z : List Int}, Own B w2 x z → Own B (w4.setCell ⟨m, 0, none⟩ rv') x z := fun {x z} hx => by
    have a1 := hx.below hb3
    have a2 := row_apart (by decide) a1 h3.ma.ml.row gr4
    refine World.ownsRow.kept a2 hg (.inr ?_)
    intro q
    rcases a2.2 with ⟨e, _⟩ | ⟨g', cap', cur, e, _, hh, _⟩
    · rw [e] at q; cases q
    · rw [e] at q
      simp [Value.ownBlock] at q
      subst q
      rw [hbx] at hh
      injection hh with hh
      injection hh with _ hh
      exact absurd hh (by decide)
  have own5 : (w4.setCell ⟨m, 0, none⟩ rv').ownsRow B 43 4 rv' (L.length + 1) (rowsM L ++ [.int .i64 (flat S).length, u, .bool l, .bool true]) := by
    refine World.ownsRow.kept own4 hg (.inr ?_)
    intro q
    rcases own4.2 with ⟨e, _⟩ | ⟨g', cap', cur, e, _, hh, _⟩
    · rw [e] at q; cases q
    · rw [e] at q
      simp [Value.ownBlock] at q
      subst q
      rw [hbx] at hh
      injection hh with hh
      injection hh with _ hh
      exact absurd hh (by decide)
  refine ⟨⟨⟨hset, ⟨?_, fun x hx => ?_⟩, h.ma.lo⟩, ?_⟩, ?_, by simp [World.cell?, hbx], by simp [World.frozen?, hbx]⟩
  · rw [rowsM_app, List.length_append]
    exact own5
  · rcases List.mem_append.1 hx with e | e
    · exact keepI (h.ma.ml.own x e)
    · rw [List.mem_singleton.1 e]; exact keepI ho
  · rw [List.map_append, h.eq, plc_app]
    simp [plc]
  · refine (Mv.below (b := m) (v := rv) (Below.step hb hb3)).trans (Mv.trans (v1 := rv') ⟨gr4.os, gr4.tape, gr4.output, gr4.size, fun k hk _ h2 => gr4.block k hk h2, ?_⟩ (Mv.set 0 rv'))
    rcases hat with q | q
    · exact .inl q
    · exact .inr fun g hg' => by rw [q] at hg'; injection hg' with hg'; omega
set_option maxRecDepth 100000 in
set_option maxHeartbeats 1600000 in
theorem mPut_any (B m : Nat) (rv vc : Value) (L : List Mt) (S : List Seg) (c : List Int) (l : Bool) (w : World) (h : Mz4 B w m rv L S) (hc : Rd w vc c) (hs : c.all fmd = true) (hl : (flat S).length ≤ 1099511627776) (hL : L.length ≤ 1099511627776) (hB : B ≤ w.heap.size) :
    Calls Try.prog 13 #[.pointer (some ⟨m, 0, none⟩), vc, .bool l] w fun e w' => Pt4 B w m rv L S c l e w' := by
  obtain ⟨iK, hiK, hK0, hK1, hK2⟩ := info_parts infoM4
  have hcl := hc.len
  have HM : Hid (∀ W, Below w.heap.size w W → Mz4 B W m rv L S) := fun W hW => h.below hW
  have HSd : Hid (Calls Try.prog 32 #[vc] w fun e w' => e = .returned (.bool true) ∧ w' = w) := by
    have h5 := rSound_any vc c w hc
    rw [hs] at h5
    exact h5
  have hmw : mwd (L.map Prod.snd) = (flat S).length := by rw [h.eq, mwd_flat]
  have HWd : Hid (Calls Try.prog 23 #[.pointer (some ⟨m, 0, none⟩)] w fun e w' => e = .returned (.int .i64 (flat S).length) ∧ w' = w) := by
    have h5 := mWords_any B m rv L w h.ma (by rw [hmw]; omega)
    rw [hmw] at h5
    exact h5
  have HR : Hid (Rd w vc c) := hc
  have HB : Hid (B ≤ w.heap.size) := hB
  obtain ⟨ra, rc, hrv⟩ := h.ma.ml.form
  subst hrv
  obtain ⟨ca, ck, rfl, hck, -, -⟩ := hc.form
  have hP : Hid (∀ X rv' u, Mz4 B X m rv' (L ++ [(u, ⟨(flat S).length, c, l, true⟩)]) (S ++ [⟨c, l, true⟩]) ∧ Mv w m (.slice ra L.length rc) X rv' ∧ (∀ g, u.ownBlock = some g → w.heap.size ≤ g) → Pt4 B w m (.slice ra L.length rc) L S c l (.returned (.tuple #[.int .i64 (flat S).length, .int .i64 0])) X) := fun X rv' u hh => ⟨rfl, rv', u, hh⟩
  clear h hc hs hB hmw
  generalize hFS : (flat S).length = fs at *
  go_enter Try.func13, Try.ntmps13
  go_wp2_with fail
  refine HSd.out.mono ?_
  rintro e w0 ⟨rfl, ew⟩
  have ew := ew.symm
  subst ew
  go_wp2_with fail
  refine HWd.out.mono ?_
  rintro e w0 ⟨rfl, ew⟩
  have ew := ew.symm
  subst ew
  have c0 := (HM.out w (Below.refl _ _)).ma.c0
  go_upto_region 6 with (at_builtin; refine wpList_app_rd rfl _ _ rfl w.heap.size (.slice none 0 0) (.slice ca c.length ck) [] c rfl rfl (World.ownsRow_nil _ _ _ _) HR.out (by simp; omega) (Nat.le_refl _) ?_; intro v8 w8 own8 ap8; obtain ⟨ua, uc, hu⟩ := own_form own8; subst hu; have HO8 : Hid (Own w.heap.size w8 (.slice ua ([] ++ c).length uc) ([] ++ c) ∧ Below w.heap.size w w8) := ⟨own8, get4_below ap8⟩; clear own8 ap8)
  simp only [List.nil_append] at HO8 ⊢
  have hm8 := HM.out w8 HO8.out.2
  have HM8 : Hid (Mz4 B w8 m (.slice ra L.length rc) L S) := hm8
  have x0 := hm8.ma.c0
  have x1 := (hm8.ma.below (below_box w8 (.cells #[.int .i64 (fs : Int), .slice ua c.length uc, .bool l, .bool true] 43))).c0
  have hs8 : w.heap.size ≤ w8.heap.size := HO8.out.2.size
  clear hm8 c0
  go_wp2_with (at_builtin; refine wpList_append_own_at _ rfl _ _ 36 rfl B 43 iK (.agg #[.int .i64 0, .slice none 0 0, .bool false, .bool false]) 4 40 Try.underlying36 hiK hK0 hK1 hK2 rfl (by decide) (.slice ra L.length rc) L.length (rowsM L) rfl (World.ownsRow.alloc HM8.out.ma.ml.row _) ⟨w8.heap.size, 0, none⟩ 1 1 [.int .i64 (fs : Int), .slice ua c.length uc, .bool l, .bool true] rfl rfl (cell_four_new4 _ _ _ _ _ _) (by simp [Value.oneCell']) (by unfold maxLen; omega) (by omega) (by have := HB.out; simp; omega) ?_; intro rv9 w9 own9 gr9 hn9 hat9; obtain ⟨ra9, rc9, hrv9⟩ := row_form4 own9; subst hrv9; have hf9 := put4_fin (c := c) (l := l) HM8.out HO8.out.2 (HO8.out.1.mono HB.out) rfl (by rw [hFS]; exact own9) (by rw [hFS]; exact gr9) (by rw [hFS]; exact hat9); have HF9 : Hid (∀ X, X = w9.setCell ⟨m, 0, none⟩ (.slice ra9 (L.length + 1) rc9) → Pt4 B w m (.slice ra L.length rc) L S c l (.returned (.tuple #[.int .i64 (fs : Int), .int .i64 0])) X) := (fun X eX => by subst eX; exact hP.out _ _ _ ⟨by have h5 := hf9.1; rw [hFS] at h5; exact h5, hf9.2.1, fun g hg => (World.ownsRow.lt HO8.out.1 g hg).1⟩); have y0 := hf9.2.2.1; have y1 := hf9.2.2.2; clear own9 gr9 hn9 hat9 hf9)
  go_returns
  exact HF9.out _ rfl
end Go.Proofs.Ytbhjpahieghepaa
set_option linter.unusedSimpArgs false
set_option linter.unusedVariables false
namespace Go.Proofs.Ytbhjpahieghepaa
open Go Go.RowKit

def lvM (L : List Mt) : List Mt := L.filter (·.2.live)
theorem lvM_take (L : List Mt) (k : Nat) (h : k < L.length) : lvM (L.take (k + 1)) = lvM (L.take k) ++ (if L[k].2.live then [L[k]] else []) := by
  unfold lvM
  rw [List.take_succ_eq_append_getElem h, List.filter_append]
  cases hl : L[k].2.live <;> simp [hl]
theorem lvM_len (L : List Mt) (k : Nat) : (lvM (L.take k)).length ≤ k := by
  unfold lvM
  exact Nat.le_trans (List.length_filter_le _ _) (by rw [List.length_take]; omega)
theorem lvM_snd (L : List Mt) : (lvM L).map Prod.snd = live4 (L.map Prod.snd) := by
  unfold lvM live4
  rw [List.filter_map]; rfl
theorem lvM_mem {L : List Mt} {x : Mt} (h : x ∈ lvM L) : x ∈ L := (List.mem_filter.1 h).1
/-- what Live answers: the live clauses' row, new -/
def Lv4 (w : World) (L : List Mt) (e : Ending) (w' : World) : Prop := ∃ a c, e = .returned (.slice a (lvM L).length c) ∧ w'.ownsRow w.heap.size 43 4 (.slice a (lvM L).length c) (lvM L).length (rowsM (lvM L)) ∧ Below w.heap.size w w'
theorem lv4_more {w wr w5 : World} {M : List Mt} {x : Mt} {v5 lv : Value} {p : Int} {u : Value} {a b : Bool} (hx : x = (u, ⟨p, x.2.lits, a, b⟩)) (hb : Below w.heap.size w wr) (hr : wr.ownsRow w.heap.size 43 4 lv M.length (rowsM M))
    (own5 : w5.ownsRow w.heap.size 43 4 v5 (M.length + 1) (rowsM M ++ [.int .i64 p, u, .bool a, .bool b])) (gr5 : (wr.alloc (.cells #[.int .i64 p, u, .bool a, .bool b] 43)).grownBy w5 lv.ownBlock) : w5.ownsRow w.heap.size 43 4 v5 (M ++ [x]).length (rowsM (M ++ [x])) ∧ Below w.heap.size w w5 := by
  have hs := hb.size
  refine ⟨?_, (hb.alloc hs _).grown gr5 (by simp; omega) (fun j hj => (World.ownsRow.lt hr j hj).1)⟩
  rw [rowsM_app, List.length_append, hx]
  exact own5
set_option maxRecDepth 100000 in
set_option maxHeartbeats 1600000 in
theorem mLive_any (B m : Nat) (rv : Value) (L : List Mt) (w : World) (h : Ma4 B w m rv L) (hL : L.length ≤ 1099511627776) :
    Calls Try.prog 7 #[.pointer (some ⟨m, 0, none⟩)] w fun e w' => Lv4 w L e w' := by
  obtain ⟨iK, hiK, hK0, hK1, hK2⟩ := info_parts infoM4
  have HM : Hid (∀ W, Below w.heap.size w W → Ma4 B W m rv L) := fun W hW => h.below hW
  obtain ⟨ra, rc, hrv⟩ := h.ml.form
  subst hrv
  clear h
  go_enter Try.func7, Try.ntmps7
  go_wp2
  go_loopg [3, 4] L.length (fun q o' i' wr => ∃ (k : Nat) (a : Option Addr) (c : Nat), k + q = L.length ∧ i' = .int .i64 k ∧ o' = .slice a (lvM (L.take k)).length c ∧ Hid (wr.ownsRow w.heap.size 43 4 (.slice a (lvM (L.take k)).length c) (lvM (L.take k)).length (rowsM (lvM (L.take k))) ∧ Below w.heap.size w wr))
  case atStart => exact ⟨0, none, 0, by omega, rfl, rfl, World.ownsRow_nil _ _ _ _, Below.refl _ _⟩
  case round =>
    obtain ⟨k, a, c, hk, rfl, rfl, HO⟩ := hrel
    have HK : Hid (k + gk = L.length) := hk
    have hma := HM.out wr HO.out.2
    have c0 := hma.c0
    have hll := lvM_len L k
    clear hk
    by_cases hlt : k < L.length
    · obtain ⟨g, cap, erv, hnc, hcm, hBg, hgl, d0, d1, d2, d3, df⟩ := hma.ml.cells hlt
      injection erv with q1 q2 q3
      subst q1; subst q3
      obtain ⟨la, lc, hls⟩ := own_form (hma.ml.own _ (List.getElem_mem hlt))
      have hlt2 := lvM_take L k hlt
      have HLT : Hid (k < L.length) := hlt
      obtain ⟨x, hx⟩ : ∃ x, L[k] = x := ⟨_, rfl⟩
      have hls : x.1 = .slice la x.2.lits.length lc := by subst hx; exact hls
      have d0' := d0.trans (congrArg (fun y : Mt => some (Value.int .i64 y.2.pl)) hx)
      have d1' := (d1.trans (congrArg (fun y : Mt => some y.1) hx)).trans (congrArg some hls)
      have d2' := d2.trans (congrArg (fun y : Mt => some (Value.bool y.2.learnt)) hx)
      have d3' := d3.trans (congrArg (fun y : Mt => some (Value.bool y.2.live)) hx)
      have hlt3 : lvM (L.take (k + 1)) = lvM (L.take k) ++ (if x.2.live then [x] else []) := by subst hx; exact hlt2
      have hxe : x = (.slice la x.2.lits.length lc, ⟨x.2.pl, x.2.lits, x.2.learnt, x.2.live⟩) := Prod.ext hls rfl
      clear q2 d0 d1 d2 d3 df hlt2 hx hls hma
      cases hv : x.2.live
      · rw [hv] at d3'
        have HE : Hid (lvM (L.take (k + 1)) = lvM (L.take k)) := by show _ = _; rw [hlt3, hv]; simp
        clear hlt3 hv hxe d1' d2' d0'
        go_wp2
        go_roundg (gk - 1)
        case measure => have := HK.out; have := HLT.out; omega
        case rel => exact ⟨k + 1, a, c, by have := HK.out; have := HLT.out; omega, by go_num, by rw [HE.out], by show _ ∧ _; rw [HE.out]; exact HO.out⟩
      · rw [hv] at d3' hxe
        have HE : Hid (lvM (L.take (k + 1)) = lvM (L.take k) ++ [x]) := by show _ = _; rw [hlt3, hv]; simp
        have HXe : Hid (x = (.slice la x.2.lits.length lc, ⟨x.2.pl, x.2.lits, x.2.learnt, true⟩)) := hxe
        clear hlt3 hv hxe
        have hszr : w.heap.size ≤ wr.heap.size := HO.out.2.size
        generalize x.2.pl = xp at *
        generalize hzl : x.2.lits.length = zl at *
        generalize x.2.learnt = xr at *
        generalize hML : (lvM (L.take k)).length = ML at *
        have hb1 : ML + 1 ≤ maxLen := by unfold maxLen; omega
        have hb2 : (ML + 1) * 40 ≤ 140737488355328 := by omega
        have hb3 : w.heap.size ≤ (wr.alloc (.cells #[.int .i64 xp, .slice la zl lc, .bool xr, .bool true] 43)).heap.size := by rw [World.size_alloc]; omega
        have HB123 := (show Hid _ from And.intro hb1 (And.intro hb2 hb3))
        clear hb1 hb2 hb3
        go_wp2_with (at_builtin; refine wpList_append_own _ rfl _ _ 36 rfl w.heap.size 43 iK (.agg #[.int .i64 0, .slice none 0 0, .bool false, .bool false]) 4 40 Try.underlying36 hiK hK0 hK1 hK2 rfl (by decide) (.slice a ML c) ML (rowsM (lvM (L.take k))) rfl (World.ownsRow.alloc HO.out.1 _) ⟨wr.heap.size, 0, none⟩ 1 1 [.int .i64 xp, .slice la zl lc, .bool xr, .bool true] rfl rfl (cell_four_new4 _ _ _ _ _ _) (by simp [Value.oneCell']) HB123.out.1 HB123.out.2.1 HB123.out.2.2 ?_; intro v5 w5 own5 gr5 hn5; obtain ⟨a5, c5, hv5⟩ := row_form4 own5; subst hv5; have HO5 : Hid (w5.ownsRow w.heap.size 43 4 (.slice a5 (ML + 1) c5) (lvM (L.take k) ++ [x]).length (rowsM (lvM (L.take k) ++ [x])) ∧ Below w.heap.size w w5) := lv4_more (M := lvM (L.take k)) HXe.out HO.out.2 (by rw [hML]; exact HO.out.1) (by rw [hML]; exact own5) gr5; clear own5 gr5 hn5)
        go_roundg (gk - 1)
        case measure => have := HK.out; have := HLT.out; omega
        case rel => exact ⟨k + 1, a5, c5, by have := HK.out; have := HLT.out; omega, by go_num, by rw [HE.out, List.length_append, hML]; rfl, by show _ ∧ _; rw [HE.out]; have h5 := HO5.out; rw [show (lvM (L.take k) ++ [x]).length = ML + 1 by rw [List.length_append, hML]; rfl] at h5 ⊢; exact h5⟩
    · obtain rfl : k = L.length := by have := HK.out; omega
      have HF : Hid (Lv4 w L (.returned (.slice a (lvM (L.take L.length)).length c)) wr) := by
        have h5 := HO.out
        rw [List.take_length] at h5 ⊢
        exact ⟨a, c, rfl, h5.1, h5.2⟩
      clear hlt
      go_wp2
      go_ret
      exact HF.out
end Go.Proofs.Ytbhjpahieghepaa
set_option linter.unusedSimpArgs false
set_option linter.unusedVariables false
namespace Go.Proofs.Ytbhjpahieghepaa
open Go Go.RowKit

def rowsV (l : List (Int × Int)) : List Value := l.flatMap (fun x => [.int .i64 x.1, .int .i64 x.2])
theorem rowsV_at {l : List (Int × Int)} {i : Nat} (hi : i < l.length) : (rowsV l)[i * 2]? = some (.int .i64 l[i].1) ∧ (rowsV l)[i * 2 + 1]? = some (.int .i64 l[i].2) := by
  induction l generalizing i with
  | nil => simp at hi
  | cons x r ih =>
    rw [show rowsV (x :: r) = .int .i64 x.1 :: .int .i64 x.2 :: rowsV r from rfl]
    cases i with
    | zero => simp
    | succ j =>
      have := ih (i := j) (by simpa using hi)
      rw [show (j + 1) * 2 = j * 2 + 1 + 1 by omega]
      simpa using this
theorem rowsV_app (a b : List (Int × Int)) : rowsV (a ++ b) = rowsV a ++ rowsV b := by simp [rowsV]
theorem rowV_cells {B : Nat} {W : World} {v : Value} {l : List (Int × Int)} (h : W.ownsRow B 83 2 v l.length (rowsV l)) {i : Nat} (hi : i < l.length) : ∃ g cap, v = .slice (some ⟨g, 0, none⟩) l.length cap ∧ l.length ≤ cap ∧ W.cell? ⟨g, i * 2, none⟩ = some (.int .i64 l[i].1) ∧ W.cell? ⟨g, i * 2 + 1, none⟩ = some (.int .i64 l[i].2) := by
  rcases h.2 with ⟨e, e2⟩ | ⟨g, cap, cur, rfl, hbg, hh, hnc, hcm, _⟩
  · omega
  · have hc := World.ownsRow.cells h (g := g) rfl
    obtain ⟨r0, r1⟩ := rowsV_at hi
    have a0 := hc _ _ r0
    have a1 := hc _ _ r1
    rw [Addr.add_lit, Nat.zero_add] at a0 a1
    exact ⟨g, cap, rfl, hnc, a0, a1⟩
/-- what Lead says -/
def ldV (l : List (Int × Int)) (r : Int) : Value := match l.find? (fun m => m.1 == r) with | some m => .tuple #[.int .i64 m.2, .bool true] | none => .tuple #[.int .i64 0, .bool false]
theorem ldV_hit {l : List (Int × Int)} {r : Int} {k : Nat} (hk : k < l.length) (h : ∀ i (hi : i < l.length), i < k → l[i].1 ≠ r) (he : l[k].1 = r) : ldV l r = .tuple #[.int .i64 l[k].2, .bool true] := by
  have : l.find? (fun m => m.1 == r) = some l[k] := by
    rw [List.find?_eq_some_iff_getElem]
    refine ⟨by simp [he], k, hk, rfl, fun j hj => ?_⟩
    have := h j (by omega) hj
    simpa using this
  unfold ldV
  rw [this]
theorem ldV_no {l : List (Int × Int)} {r : Int} (h : ∀ i (hi : i < l.length), l[i].1 ≠ r) : ldV l r = .tuple #[.int .i64 0, .bool false] := by
  have : l.find? (fun m => m.1 == r) = none := by
    rw [List.find?_eq_none]
    intro x hx
    obtain ⟨i, hi, e⟩ := List.getElem_of_mem hx
    have := h i hi
    rw [e] at this
    simpa using this
  unfold ldV
  rw [this]
set_option maxHeartbeats 800000 in
theorem mLead_any (B : Nat) (v : Value) (l : List (Int × Int)) (r : Int) (w : World) (h : w.ownsRow B 83 2 v l.length (rowsV l)) (hl : l.length ≤ 1099511627776) :
    Calls Try.prog 38 #[v, .int .i64 r] w fun e w' => e = .returned (ldV l r) ∧ w' = w := by
  have HR : Hid (w.ownsRow B 83 2 v l.length (rowsV l)) := h
  obtain ⟨a, c, hv⟩ := row_form2 h
  subst hv
  clear h
  go_enter Try.func38, Try.ntmps38
  go_wp2
  go_loopg [6] l.length (fun q i' wr => ∃ k : Nat, k + q = l.length ∧ i' = .int .i64 k ∧ wr = w ∧ ∀ i (hi : i < l.length), i < k → l[i].1 ≠ r)
  case atStart => exact ⟨0, by omega, rfl, rfl, fun i _ hi => absurd hi (Nat.not_lt_zero _)⟩
  case round =>
    obtain ⟨k, hk, rfl, ew, hno⟩ := hrel
    have ew := ew.symm
    subst ew
    have HK : Hid (k + gk = l.length) := hk
    have HNo : Hid (∀ i (hi : i < l.length), i < k → l[i].1 ≠ r) := hno
    clear hk hno
    by_cases hlt : k < l.length
    · obtain ⟨g, cap, ev, hnc, d0, d1⟩ := rowV_cells HR.out hlt
      injection ev with q1 q2 q3
      subst q1; subst q3
      have HLT : Hid (k < l.length) := hlt
      by_cases hp : l[k].1 = r
      · have HF : Hid (ldV l r = .tuple #[.int .i64 l[k].2, .bool true]) := ldV_hit hlt HNo.out hp
        have d0' := d0.trans (congrArg (fun z => some (Value.int .i64 z)) hp)
        clear q2 d0 hp
        generalize l[k].2 = tz at *
        go_wp2
        go_returns
        exact ⟨by rw [HF.out]; rfl, rfl⟩
      · have HN2 : Hid (∀ i (hi : i < l.length), i < k + 1 → l[i].1 ≠ r) := fun i hi hik => by
          by_cases e : i = k
          · subst e; exact hp
          · exact HNo.out i hi (by omega)
        have hpb : (l[k].1 == r) = false := beq_eq_false_iff_ne.2 hp
        clear q2 d1 hp
        generalize l[k].1 = fr at *
        go_wp2
        go_roundg (gk - 1)
        case measure => have := HK.out; have := HLT.out; omega
        case rel => exact ⟨k + 1, by have := HK.out; have := HLT.out; omega, by go_num, rfl, HN2.out⟩
    · obtain rfl : k = l.length := by have := HK.out; omega
      have HF : Hid (ldV l r = .tuple #[.int .i64 0, .bool false]) := ldV_no fun i hi => HNo.out i hi hi
      clear hlt
      go_wp2
      go_returns
      exact ⟨by rw [HF.out]; rfl, rfl⟩
end Go.Proofs.Ytbhjpahieghepaa
set_option linter.unusedSimpArgs false
set_option linter.unusedVariables false
namespace Go.Proofs.Ytbhjpahieghepaa
open Go Go.RowKit

/-- where the k-th goes -/
def ofK (M : List Mt) (k : Nat) : Nat := mwd ((M.map Prod.snd).take k)
theorem ofK_more {M : List Mt} {k : Nat} (h : k < M.length) : ofK M (k + 1) = ofK M k + 1 + M[k].2.lits.length := by
  unfold ofK
  rw [mwd_take _ k (by simpa using h), snd_at4 h]
/-- the first k have gone -/
def rnK (M : List Mt) : Nat → List Mt
  | 0 => M
  | k + 1 => match M[k]? with | some x => (rnK M k).set k (x.1, ⟨ofK M k, x.2.lits, x.2.learnt, x.2.live⟩) | none => rnK M k
def mvK (M : List Mt) : Nat → List (Int × Int)
  | 0 => []
  | k + 1 => match M[k]? with | some x => mvK M k ++ [(x.2.pl, (ofK M k : Int))] | none => mvK M k
theorem rnK_len (M : List Mt) : ∀ k, (rnK M k).length = M.length
  | 0 => rfl
  | k + 1 => by unfold rnK; cases M[k]? <;> simp [rnK_len M k]
theorem rnK_more {M : List Mt} {k : Nat} {x : Mt} (h : M[k]? = some x) : rnK M (k + 1) = (rnK M k).set k (x.1, ⟨ofK M k, x.2.lits, x.2.learnt, x.2.live⟩) := by
  conv => lhs; unfold rnK
  rw [h]
theorem mvK_more {M : List Mt} {k : Nat} {x : Mt} (h : M[k]? = some x) : mvK M (k + 1) = mvK M k ++ [(x.2.pl, (ofK M k : Int))] := by
  conv => lhs; unfold mvK
  rw [h]
theorem mvK_len (M : List Mt) : ∀ k, k ≤ M.length → (mvK M k).length = k
  | 0, _ => rfl
  | k + 1, h => by rw [mvK_more (List.getElem?_eq_getElem (by omega)), List.length_append, mvK_len M k (by omega)]; rfl
theorem rnK_later (M : List Mt) : ∀ (k i : Nat), k ≤ i → (rnK M k)[i]? = M[i]?
  | 0, i, _ => rfl
  | k + 1, i, h => by
    have ih := rnK_later M k i (by omega)
    unfold rnK
    cases e : M[k]? with
    | none => exact ih
    | some x => rw [List.getElem?_set_ne (by omega)]; exact ih
theorem rnK_all : ∀ (M : List Mt) (k : Nat), k ≤ M.length → ((rnK M k).map Prod.snd).take k = ren4 0 ((M.map Prod.snd).take k)
  | M, 0, _ => rfl
  | M, k + 1, h => by
    have hk : k < M.length := by omega
    have ih := rnK_all M k (by omega)
    have hx := List.getElem?_eq_getElem hk
    rw [rnK_more hx, List.map_set]
    have hl : k < ((rnK M k).map Prod.snd).length := by rw [List.length_map, rnK_len]; exact hk
    rw [List.take_succ_eq_append_getElem (by simpa using hl), List.take_set_of_le (Nat.le_refl _), ih]
    have hl2 : k < (M.map Prod.snd).length := by simpa using hk
    rw [List.take_succ_eq_append_getElem hl2]
    have key : ∀ (a : List Mc) (q : Int) (y : Mc), ren4 q (a ++ [y]) = ren4 q a ++ [⟨q + mwd a, y.lits, y.learnt, y.live⟩] := by
      intro a
      induction a with
      | nil => intro q y; simp [ren4, mwd]
      | cons z r ih2 => intro q y; rw [List.cons_append, ren4, ih2, ren4, mwd, List.cons_append, show q + 1 + (z.lits.length : Int) + (mwd r : Int) = q + ((1 + z.lits.length + mwd r : Nat) : Int) by omega]
    rw [key]
    congr 1
    simp [ofK]
theorem mvK_all : ∀ (M : List Mt) (k : Nat), k ≤ M.length → mvK M k = mvd4 0 ((M.map Prod.snd).take k)
  | M, 0, _ => rfl
  | M, k + 1, h => by
    have hk : k < M.length := by omega
    have ih := mvK_all M k (by omega)
    rw [mvK_more (List.getElem?_eq_getElem hk), ih]
    have hl2 : k < (M.map Prod.snd).length := by simpa using hk
    rw [List.take_succ_eq_append_getElem hl2]
    have key : ∀ (a : List Mc) (q : Int) (y : Mc), mvd4 q (a ++ [y]) = mvd4 q a ++ [(y.pl, q + mwd a)] := by
      intro a
      induction a with
      | nil => intro q y; simp [mvd4, mwd]
      | cons z r ih2 => intro q y; rw [List.cons_append, mvd4, ih2, mvd4, mwd, List.cons_append, show q + 1 + (z.lits.length : Int) + (mwd r : Int) = q + ((1 + z.lits.length + mwd r : Nat) : Int) by omega]
    rw [key]
    congr 1
    simp [ofK]
theorem rowsM_go : ∀ {L : List Mt} {i : Nat} {x : Mt} (h : L[i]? = some x) (p : Int), rowsM (L.set i (x.1, ⟨p, x.2.lits, x.2.learnt, x.2.live⟩)) = (rowsM L).set (i * 4) (.int .i64 p)
  | [], i, x, h, p => by simp at h
  | y :: r, 0, x, h, p => by
    simp at h
    subst h
    rfl
  | y :: r, i + 1, x, h, p => by
    have ih := rowsM_go (L := r) (i := i) (x := x) (by simpa using h) p
    rw [show (i + 1) * 4 = (i * 4) + 1 + 1 + 1 + 1 by omega, List.set_cons_succ]
    rw [show rowsM (y :: r.set i (x.1, ⟨p, x.2.lits, x.2.learnt, x.2.live⟩)) = .int .i64 y.2.pl :: y.1 :: .bool y.2.learnt :: .bool y.2.live :: rowsM (r.set i (x.1, ⟨p, x.2.lits, x.2.learnt, x.2.live⟩)) from rfl, ih]
    rfl
theorem infoV4 : (Try.prog.info? 83).map (fun i => (i.zero, i.size, i.bytes)) = some (some (.agg #[.int .i64 0, .int .i64 0]), 2, 16) := by kernel_rfl
/-- as far as Sweep has come: the live row is new, the moved one too -/
structure Sk4 (B : Nat) (w W : World) (lv mv : Value) (M : List Mt) (k : Nat) : Prop where
  lr : W.ownsRow w.heap.size 43 4 lv M.length (rowsM (rnK M k))
  mr : W.ownsRow w.heap.size 83 2 mv (mvK M k).length (rowsV (mvK M k))
  bel : Below w.heap.size w W
theorem rn_at {M : List Mt} {k : Nat} (h : k < M.length) : (rnK M k)[k]? = some M[k] := (rnK_later M k k (Nat.le_refl _)).trans (List.getElem?_eq_getElem h)
theorem Sk4.cells {B : Nat} {w W : World} {lv mv : Value} {M : List Mt} {k : Nat} (h : Sk4 B w W lv mv M k) (hk : k < M.length) : ∃ g cap, lv = .slice (some ⟨g, 0, none⟩) M.length cap ∧ M.length ≤ cap ∧ w.heap.size ≤ g ∧ W.cell? ⟨g, k * 4, none⟩ = some (.int .i64 M[k].2.pl) ∧ W.cell? ⟨g, k * 4 + 1, none⟩ = some M[k].1 ∧ ∀ j, W.frozen? ⟨g, j, none⟩ = false := by
  rcases h.lr.2 with ⟨e, e2⟩ | ⟨g, cap, cur, e, hbg, hh, hnc, hcm, _⟩
  · omega
  · subst e
    have hc := World.ownsRow.cells h.lr (g := g) rfl
    have hlt : k < (rnK M k).length := by rw [rnK_len]; exact hk
    have hget : (rnK M k)[k] = M[k] := by
      have := rn_at hk
      rw [List.getElem?_eq_getElem hlt] at this
      injection this
    obtain ⟨r0, r1, -, -⟩ := rowsM_at hlt
    rw [hget] at r0 r1
    have a0 := hc _ _ r0
    have a1 := hc _ _ r1
    rw [Addr.add_lit, Nat.zero_add] at a0 a1
    exact ⟨g, cap, rfl, hnc, hbg, a0, a1, fun j => by simp [World.frozen?, hh]⟩
/-- the moved row grows, then the clause's place is written -/
theorem Sk4.more {B : Nat} {w W W2 : World} {g cap : Nat} {mv mv' : Value} {M : List Mt} {k : Nat} (h : Sk4 B w W (.slice (some ⟨g, 0, none⟩) M.length cap) mv M k) (hk : k < M.length)
    (own2 : W2.ownsRow w.heap.size 83 2 mv' ((mvK M k).length + 1) (rowsV (mvK M k) ++ [.int .i64 M[k].2.pl, .int .i64 (ofK M k : Int)])) (gr2 : (W.alloc (.cells #[.int .i64 M[k].2.pl, .int .i64 (ofK M k : Int)] 83)).grownBy W2 mv.ownBlock) :
    Sk4 B w (W2.setCell ⟨g, k * 4, none⟩ (.int .i64 (ofK M k : Int))) (.slice (some ⟨g, 0, none⟩) M.length cap) mv' M (k + 1) ∧ W2.ownsRow w.heap.size 43 4 (.slice (some ⟨g, 0, none⟩) M.length cap) M.length (rowsM (rnK M k)) ∧ Below w.heap.size w W2 := by
  have hs := h.bel.size
  have l1 := World.ownsRow.alloc h.lr (.cells #[.int .i64 M[k].2.pl, .int .i64 (ofK M k : Int)] 83)
  have m1 := World.ownsRow.alloc h.mr (.cells #[.int .i64 M[k].2.pl, .int .i64 (ofK M k : Int)] 83)
  have l2 := row_apart (by decide) l1 m1 gr2
  have b2 : Below w.heap.size w W2 := (h.bel.alloc hs _).grown gr2 (by simp; omega) (fun j hj => (World.ownsRow.lt h.mr j hj).1)
  have st := World.ownsRow.stored l2 (k * 4) (.int .i64 (ofK M k : Int))
  have hx := List.getElem?_eq_getElem hk
  refine ⟨⟨?_, ?_, ?_⟩, l2, b2⟩
  · have e := rowsM_go (rn_at hk) (ofK M k : Int)
    rw [rnK_more hx, e]
    exact st.1
  · rw [mvK_more hx, rowsV_app, List.length_append]
    exact row_apart (by decide) own2 l2 st.2
  · exact b2.setCell (p := ⟨g, k * 4, none⟩) (h.lr.lt g rfl).1 _
/-- what Sweep says -/
def Sw4 (B : Nat) (w : World) (m : Nat) (rv : Value) (L : List Mt) (S : List Seg) (e : Ending) (w' : World) : Prop :=
  ∃ mv lv L', e = .returned mv ∧ w'.ownsRow w.heap.size 83 2 mv (mvd4 0 (live4 (plc 0 S))).length (rowsV (mvd4 0 (live4 (plc 0 S)))) ∧ Mz4 B w' m lv L' (swp S) ∧ Mv w m rv w' lv ∧ (∀ g, lv.ownBlock = some g → w.heap.size ≤ g) ∧ Vs4 w L L' ∧ L'.length ≤ L.length
theorem sw4_fin {B m : Nat} {w W : World} {rv lv mv : Value} {L : List Mt} {S : List Seg} (h : Mz4 B w m rv L S) (hB : B ≤ w.heap.size) (hk : Sk4 B w W lv mv (lvM L) (lvM L).length) : Sw4 B w m rv L S (.returned mv) (W.setCell ⟨m, 0, none⟩ lv) := by
  have hbx : W.heap[m]? = some (.cells #[rv] 48 (0, 0)) := (hk.bel.block m h.ma.lt).trans h.ma.box
  have hset : (W.setCell ⟨m, 0, none⟩ lv).heap[m]? = some (.cells #[lv] 48 (0, 0)) := set_heap4 hbx 0 lv
  have hg := grown_set W ⟨m, 0, none⟩ lv
  have hml : m < w.heap.size := h.ma.lt
  have hM : mvK (lvM L) (lvM L).length = mvd4 0 (live4 (plc 0 S)) := by
    rw [mvK_all _ _ (Nat.le_refl _), List.take_of_length_le (by simp), lvM_snd, h.eq]
  have hR : (rnK (lvM L) (lvM L).length).map Prod.snd = plc 0 (swp S) := by
    have := rnK_all (lvM L) (lvM L).length (Nat.le_refl _)
    rw [List.take_of_length_le (by rw [List.length_map, rnK_len]; exact Nat.le_refl _), List.take_of_length_le (by simp), lvM_snd, h.eq] at this
    rw [this, swp_plc S 0 0]
  have keep : ∀ {e s n : Nat} {x : Value} {xs : List Value}, W.ownsRow w.heap.size e s x n xs → (W.setCell ⟨m, 0, none⟩ lv).ownsRow w.heap.size e s x n xs := fun {e s n x xs} hx => World.ownsRow.kept hx hg (.inr (fun q => by have := (hx.lt m q).1; omega))
  have hmem : ∀ k, ∀ x ∈ rnK (lvM L) k, ∃ y ∈ lvM L, x.1 = y.1 ∧ x.2.lits = y.2.lits := by
    intro k
    induction k with
    | zero => intro x hx; exact ⟨x, hx, rfl, rfl⟩
    | succ k ih =>
      intro x hx
      unfold rnK at hx
      cases e : (lvM L)[k]? with
      | none => rw [e] at hx; exact ih x hx
      | some y =>
        rw [e] at hx
        rcases List.mem_or_eq_of_mem_set hx with q | q
        · exact ih x q
        · exact ⟨y, List.mem_of_getElem? e, by rw [q], by rw [q]⟩
  refine ⟨mv, lv, rnK (lvM L) (lvM L).length, rfl, ?_, ⟨⟨hset, ⟨?_, fun x hx => ?_⟩, h.ma.lo⟩, hR⟩, ?_, fun g hg' => (hk.lr.lt g hg').1, fun x hx => ?_, ?_⟩
  · rw [← hM]; exact keep hk.mr
  · rw [rnK_len]; exact row_mono (keep hk.lr) hB
  · obtain ⟨y, hy, e1, e2⟩ := hmem _ x hx
    rw [e1, e2]
    have ho := (h.ma.ml.own y (lvM_mem hy)).below hk.bel
    refine World.ownsRow.kept ho hg (.inr ?_)
    intro q
    rcases ho.2 with ⟨e, _⟩ | ⟨g', cap', cur, e, _, hh, _⟩
    · rw [e] at q; cases q
    · rw [e] at q
      simp [Value.ownBlock] at q
      subst q
      rw [hbx] at hh
      injection hh with hh
      injection hh with _ hh
      exact absurd hh (by decide)
  · refine ⟨hg.os.trans hk.bel.os, hg.tape.trans hk.bel.tape, hg.output.trans hk.bel.output, Nat.le_trans hk.bel.size hg.size, fun k hk1 h1 h2 => ?_, .inr fun g hg' => (hk.lr.lt g hg').1⟩
    rw [hg.block k (Nat.lt_of_lt_of_le hk1 hk.bel.size) (by simpa using h1)]
    exact hk.bel.block k hk1
  · obtain ⟨y, hy, e1, _⟩ := hmem _ x hx
    exact .inl ⟨y, lvM_mem hy, e1.symm⟩
  · rw [rnK_len]; unfold lvM; exact List.length_filter_le _ _
end Go.Proofs.Ytbhjpahieghepaa
set_option linter.unusedSimpArgs false
set_option linter.unusedVariables false
namespace Go.Proofs.Ytbhjpahieghepaa
open Go Go.RowKit

theorem mwd_live : ∀ l : List Mc, mwd (live4 l) ≤ mwd l
  | [] => Nat.le_refl _
  | x :: r => by
    have ih := mwd_live r
    unfold live4 at ih ⊢
    rw [List.filter_cons]
    cases x.live
    · simp only [Bool.false_eq_true, if_false, mwd]; omega
    · simp only [if_true, mwd]; omega
theorem ofK_le {L : List Mt} {S : List Seg} (h : L.map Prod.snd = plc 0 S) (k : Nat) : ofK (lvM L) k ≤ (flat S).length := by
  unfold ofK
  have h1 := mwd_le ((lvM L).map Prod.snd) k
  rw [lvM_snd, h] at h1 ⊢
  have h2 := mwd_live (plc 0 S)
  rw [mwd_flat] at h2
  omega
theorem cell_two_new4 (w : World) (x y : Value) (t : TypeId) : ∀ j u, [x, y][j]? = some u → (w.alloc (.cells #[x, y] t)).cell? ((⟨w.heap.size, 0, none⟩ : Addr).add j) = some u := by
  intro j u hj
  have hh := World.alloc_heap_new w (.cells #[x, y] t)
  rw [Addr.add_lit]
  show (match (w.alloc (.cells #[x, y] t)).heap[w.heap.size]? with | some (Obj.cells c elem frozen) => c[0 + j]? | x => none) = _
  rw [hh, Nat.zero_add]
  match j, hj with
  | 0, hj => simpa using hj
  | 1, hj => simpa using hj
theorem row_ne4 {B e e' s s' n n' : Nat} {w : World} {v u : Value} {xs ys : List Value} {g : Nat} (hne : e ≠ e') (h : w.ownsRow B e s v n xs) (hu : w.ownsRow B e' s' u n' ys) (hv : v.ownBlock = some g) (hu2 : u.ownBlock = some g) : False := by
  rcases h.2 with ⟨rfl, _⟩ | ⟨g1, cap, cur, rfl, _, hh, _⟩
  · cases hv
  · rcases hu.2 with ⟨rfl, _⟩ | ⟨g2, cap2, cur2, rfl, _, hh2, _⟩
    · cases hu2
    · simp [Value.ownBlock] at hv hu2
      subst hv; subst hu2
      rw [hh] at hh2
      injection hh2 with hh2
      injection hh2 with _ hh2
      exact hne hh2
theorem mr_of4 {B : Nat} {w W : World} {lv : Value} {M : List Mt} {k MK mc : Nat} {ma : Option Addr} (h : Sk4 B w W lv (.slice ma MK mc) M k) (hm : (mvK M k).length = MK) : W.ownsRow w.heap.size 83 2 (.slice ma MK mc) MK (rowsV (mvK M k)) := by have := h.mr; rw [hm] at this; exact this
set_option maxRecDepth 100000 in
set_option maxHeartbeats 3200000 in
theorem mSweep_any (B m : Nat) (rv : Value) (L : List Mt) (S : List Seg) (w : World) (h : Mz4 B w m rv L S) (hL : L.length ≤ 1099511627776) (hf : (flat S).length ≤ 1099511627776) (hB : B ≤ w.heap.size) :
    Calls Try.prog 25 #[.pointer (some ⟨m, 0, none⟩)] w fun e w' => Sw4 B w m rv L S e w' := by
  obtain ⟨iV, hiV, hV0, hV1, hV2⟩ := info_parts infoV4
  have HM : Hid (Mz4 B w m rv L S ∧ B ≤ w.heap.size) := ⟨h, hB⟩
  have HOf : Hid (∀ k, ofK (lvM L) k ≤ 1099511627776) := fun k => Nat.le_trans (ofK_le h.eq k) hf
  have hml : (lvM L).length ≤ 1099511627776 := Nat.le_trans (by unfold lvM; exact List.length_filter_le _ _) hL
  have HLv : Hid (Calls Try.prog 7 #[.pointer (some ⟨m, 0, none⟩)] w fun e w' => Lv4 w L e w') := mLive_any B m rv L w h.ma hL
  have HOw : Hid (∀ W, Below w.heap.size w W → ∀ x ∈ lvM L, Own B W x.1 x.2.lits) := fun W hW x hx => (h.ma.ml.own x (lvM_mem hx)).below hW
  have HFin : Hid (∀ (W : World) (lv mv : Value), Sk4 B w W lv mv (lvM L) (lvM L).length → Sw4 B w m rv L S (.returned mv) (W.setCell ⟨m, 0, none⟩ lv)) := fun W lv mv hk => sw4_fin h hB hk
  have HBx : Hid (∀ W, Below w.heap.size w W → W.cell? ⟨m, 0, none⟩ = some rv ∧ W.frozen? ⟨m, 0, none⟩ = false) := fun W hW => ⟨(h.ma.below hW).c0, (h.ma.below hW).f0⟩
  clear h hf hB hL
  go_enter Try.func25, Try.ntmps25
  go_wp2_with fail
  refine HLv.out.mono ?_
  rintro e w1 ⟨a, c, rfl, lr1, b1⟩
  have HS0 : Hid (Sk4 B w w1 (.slice a (lvM L).length c) (.slice none 0 0) (lvM L) 0) := ⟨lr1, World.ownsRow_nil _ _ _ _, b1⟩
  clear lr1 b1 HLv
  generalize lvM L = M at *
  go_wp2
  go_loopg [4, 5, 6] M.length (fun q m' t' i' wr => ∃ (k : Nat) (ma : Option Addr) (mc : Nat), k + q = M.length ∧ i' = .int .i64 k ∧ t' = .int .i64 (ofK M k : Int) ∧ m' = .slice ma (mvK M k).length mc ∧ Hid (Sk4 B w wr (.slice a M.length c) (.slice ma (mvK M k).length mc) M k))
  case atStart => exact ⟨0, none, 0, by omega, rfl, rfl, rfl, HS0⟩
  case round =>
    obtain ⟨k, ma, mc, hk, rfl, rfl, rfl, HS⟩ := hrel
    have HK : Hid (k + gk = M.length) := hk
    clear hk
    by_cases hlt : k < M.length
    · obtain ⟨g, cap, ev, hnc, hgw, d0, d1, df⟩ := HS.out.cells hlt
      injection ev with q1 q2 q3
      subst q1; subst q3
      obtain ⟨la, lc, hls⟩ := own_form (HOw.out wr HS.out.bel _ (List.getElem_mem hlt))
      have d1' := d1.trans (congrArg some hls)
      have HLT : Hid (k < M.length) := hlt
      have HMl : Hid ((mvK M k).length = k ∧ (mvK M (k + 1)).length = k + 1) := ⟨mvK_len M k (by omega), mvK_len M (k + 1) (by omega)⟩
      have hom := ofK_more hlt
      have ho1 := HOf.out (k + 1)
      have HOm : Hid (ofK M (k + 1) = ofK M k + 1 + M[k].2.lits.length) := hom
      rw [hom] at ho1
      have hml2 : (mvK M k).length = k := HMl.out.1
      have HMore : Hid (∀ (W2 : World) (mv' : Value), W2.ownsRow w.heap.size 83 2 mv' ((mvK M k).length + 1) (rowsV (mvK M k) ++ [.int .i64 M[k].2.pl, .int .i64 (ofK M k : Int)]) → (wr.alloc (.cells #[.int .i64 M[k].2.pl, .int .i64 (ofK M k : Int)] 83)).grownBy W2 (Value.slice ma (mvK M k).length mc).ownBlock → Sk4 B w (W2.setCell ⟨g, k * 4, none⟩ (.int .i64 (ofK M k : Int))) (.slice (some ⟨g, 0, none⟩) M.length c) mv' M (k + 1) ∧ W2.cell? ⟨g, k * 4, none⟩ = some (.int .i64 M[k].2.pl) ∧ W2.cell? ⟨g, k * 4 + 1, none⟩ = some (.slice la M[k].2.lits.length lc) ∧ W2.frozen? ⟨g, k * 4, none⟩ = false ∧ (W2.setCell ⟨g, k * 4, none⟩ (.int .i64 (ofK M k : Int))).cell? ⟨g, k * 4 + 1, none⟩ = some (.slice la M[k].2.lits.length lc)) := fun W2 mv' o2 g2 => by
        have h5 := HS.out.more hlt o2 g2
        have hne : some g ≠ (Value.slice ma (mvK M k).length mc).ownBlock := fun q => by
          have hh := World.ownsRow.alloc HS.out.mr (.cells #[.int .i64 M[k].2.pl, .int .i64 (ofK M k : Int)] 83)
          exact row_ne4 (by decide) HS.out.lr HS.out.mr rfl q.symm
        have hlt9 : g < wr.heap.size := (HS.out.lr.lt g rfl).2
        have hblk : W2.heap[g]? = wr.heap[g]? := (g2.block g (by rw [World.size_alloc]; omega) hne).trans ((below_box wr _).block g hlt9)
        have e0 : ∀ j, W2.cell? ⟨g, j, none⟩ = wr.cell? ⟨g, j, none⟩ := fun j => by unfold World.cell?; rw [hblk]
        have ef : W2.frozen? ⟨g, k * 4, none⟩ = wr.frozen? ⟨g, k * 4, none⟩ := by unfold World.frozen?; rw [hblk]
        refine ⟨h5.1, (e0 _).trans d0, (e0 _).trans d1', ef.trans (df _), ?_⟩
        rw [World.cell?_setCell_other _ _ _ _ (by intro e; injection e with _ e; omega)]
        exact (e0 _).trans d1'
      have hb1 : (mvK M k).length + 1 ≤ maxLen := by unfold maxLen; omega
      have hb2 : ((mvK M k).length + 1) * 16 ≤ 140737488355328 := by omega
      have hb3 : w.heap.size ≤ (wr.alloc (.cells #[.int .i64 M[k].2.pl, .int .i64 (ofK M k : Int)] 83)).heap.size := by rw [World.size_alloc]; have := HS.out.bel.size; omega
      have HB : Hid ((mvK M k).length + 1 ≤ maxLen ∧ ((mvK M k).length + 1) * 16 ≤ 140737488355328 ∧ w.heap.size ≤ (wr.alloc (.cells #[.int .i64 M[k].2.pl, .int .i64 (ofK M k : Int)] 83)).heap.size) := ⟨hb1, hb2, hb3⟩
      clear q2 d1 df hls hom hb1 hb2 hb3 hml2
      generalize M[k].2.pl = pl at *
      generalize M[k].2.lits.length = zl at *
      generalize hMK : (mvK M k).length = MK at *
      generalize hOK : ofK M k = OK at *
      have HMK : Hid ((mvK M k).length = MK) := hMK
      clear hMK hOK
      go_wp2_with (at_builtin; refine wpList_append_own _ rfl _ _ 66 rfl w.heap.size 83 iV (.agg #[.int .i64 0, .int .i64 0]) 2 16 Try.underlying66 hiV hV0 hV1 hV2 rfl (by decide) (.slice ma MK mc) MK (rowsV (mvK M k)) rfl (World.ownsRow.alloc (mr_of4 HS.out HMK.out) _) ⟨wr.heap.size, 0, none⟩ 1 1 [.int .i64 pl, .int .i64 (OK : Int)] rfl rfl (cell_two_new4 _ _ _ _) (by simp [Value.oneCell']) HB.out.1 HB.out.2.1 HB.out.2.2 ?_; intro v5 w5 own5 gr5 hn5; obtain ⟨a5, c5, hv5⟩ := row_form2 own5; subst hv5; have h9 := HMore.out w5 _ own5 gr5; have H9 : Hid (Sk4 B w (w5.setCell ⟨g, k * 4, none⟩ (.int .i64 (OK : Int))) (.slice (some ⟨g, 0, none⟩) M.length c) (.slice a5 (MK + 1) c5) M (k + 1)) := h9.1; have y0 := h9.2.1; have y1 := h9.2.2.1; have y2 := h9.2.2.2.1; have y3 := h9.2.2.2.2; clear own5 gr5 hn5 h9)
      go_roundg (gk - 1)
      case measure => have := HK.out; have := HLT.out; omega
      case rel => exact ⟨k + 1, a5, c5, by have := HK.out; have := HLT.out; omega, by go_num, by rw [HOm.out]; go_num, by rw [HMl.out.2, HMl.out.1], by show Sk4 _ _ _ _ _ _ _; rw [HMl.out.2]; have h5 := H9.out; rw [HMl.out.1] at h5; exact h5⟩
    · obtain rfl : k = M.length := by have := HK.out; omega
      have x0 := (HBx.out wr HS.out.bel).1
      have x1 := (HBx.out wr HS.out.bel).2
      have HF := (show Hid _ from HFin.out wr _ _ HS.out)
      clear hlt
      go_wp2
      go_ret
      exact HF.out
end Go.Proofs.Ytbhjpahieghepaa
set_option linter.unusedSimpArgs false
set_option linter.unusedVariables false
namespace Go.Proofs.Ytbhjpahieghepaa
open Go Go.RowKit Go.Maps

/-- what a Sweep told: the function's box and map, the document's row, the words as they were -/
structure Te where
  m : Nat
  mb : Nat
  mv : Value
  So : List Seg
def fnT (t : Te) : Value := .func (.func 37) #[] #[.pointer (some ⟨t.m, 0, none⟩)]
def mdT (t : Te) : List (Int × Int) := mvd4 0 (live4 (plc 0 t.So))
theorem row_kept4 {w w' : World} {base e size n : Nat} {v : Value} {xs : List Value} (h : w.ownsRow base e size v n xs) (hk : ∀ k, v.ownBlock = some k → w'.heap[k]? = w.heap[k]?) : w'.ownsRow base e size v n xs := by
  refine ⟨h.1, ?_⟩
  rcases h.2 with e | ⟨g, cap, cur, e, hb, hh, r⟩
  · exact .inl e
  · exact .inr ⟨g, cap, cur, e, hb, (hk g (by rw [e]; rfl)).trans hh, r⟩
/-- a block's type -/
def tyB (W : World) (k : Nat) : Option TypeId := match W.heap[k]? with | some (.cells _ t _) => some t | _ => none
/-- a pair: its box, its arena, the document's, what was told; F: the blocks that it uses (the arena may be a step ahead, and what was told too) -/
structure Pq4 (F : Nat → Prop) (W : World) (D b : Nat) (v : Value) (S : List Seg) (m : Nat) (rv : Value) (L : List Mt) (Sm : List Seg) (tv : Value) (T : List Te) (mv : Value) (Tm : List Te) : Prop where
  bx : W.heap[D]? = some (.cells #[.pointer (some ⟨b, 0, none⟩), .pointer (some ⟨m, 0, none⟩), tv, mv] 28 (0, 0))
  ar : Ar W b v S
  mz : Mz4 0 W m rv L Sm
  tr : W.ownsRow 0 64 1 tv T.length (T.map fnT)
  mr : W.ownsRow 0 66 1 mv Tm.length (Tm.map Te.mv)
  te : ∀ t ∈ T, TellsAt W t.m t.mb (lv 0 t.So)
  tm : ∀ t ∈ Tm, W.ownsRow 0 83 2 t.mv (mdT t).length (rowsV (mdT t)) ∧ (mdT t).length ≤ 1099511627776
  fD : F D ∧ F b ∧ F m
  fv : (∀ g, v.ownBlock = some g → F g) ∧ (∀ g, rv.ownBlock = some g → F g) ∧ (∀ g, tv.ownBlock = some g → F g) ∧ (∀ g, mv.ownBlock = some g → F g)
  fL : ∀ x ∈ L, ∀ g, x.1.ownBlock = some g → F g
  fT : ∀ t ∈ T, F t.m ∧ F t.mb
  fM : ∀ t ∈ Tm, ∀ g, t.mv.ownBlock = some g → F g
  lt' : ∀ k, F k → k < W.heap.size
  sp : ∀ x ∈ L, ∀ g, x.1.ownBlock = some g → v.ownBlock ≠ some g
abbrev Pr4 (F : Nat → Prop) (W : World) (D b : Nat) (v : Value) (S : List Seg) (m : Nat) (rv : Value) (L : List Mt) (tv mv : Value) (T : List Te) : Prop := Pq4 F W D b v S m rv L S tv T mv T
section
variable {F : Nat → Prop} {W W' : World} {D b : Nat} {v : Value} {S Sm : List Seg} {m : Nat} {rv : Value} {L : List Mt} {tv mv : Value} {T Tm : List Te}
theorem tells_kept {m mb : Nat} {l : LvL} (h : TellsAt W m mb l) (k1 : W'.heap[m]? = W.heap[m]?) (k2 : W'.heap[mb]? = W.heap[mb]?) : TellsAt W' m mb l := by
  refine ⟨k1.trans h.box, ?_⟩
  obtain ⟨n, Dm, ⟨es, clock, e1, e2⟩, hT⟩ := h.map
  exact ⟨n, Dm, ⟨es, clock, k2.trans e1, e2⟩, hT⟩
/-- what becomes of other blocks is nothing to it -/
theorem Pq4.keep (h : Pq4 F W D b v S m rv L Sm tv T mv Tm) (hs : W.heap.size ≤ W'.heap.size) (hk : ∀ k, F k → W'.heap[k]? = W.heap[k]?) : Pq4 F W' D b v S m rv L Sm tv T mv Tm := by
  exact ⟨(hk D h.fD.1).trans h.bx, ⟨(hk b h.fD.2.1).trans h.ar.box, row_kept4 h.ar.own fun k e => hk k (h.fv.1 k e), h.ar.ok⟩, ⟨⟨(hk m h.fD.2.2).trans h.mz.ma.box, ⟨row_kept4 h.mz.ma.ml.row fun k e => hk k (h.fv.2.1 k e), fun x hx => row_kept4 (h.mz.ma.ml.own x hx) fun k e => hk k (h.fL x hx k e)⟩, h.mz.ma.lo⟩, h.mz.eq⟩, row_kept4 h.tr fun k e => hk k (h.fv.2.2.1 k e), row_kept4 h.mr fun k e => hk k (h.fv.2.2.2 k e), fun t ht => tells_kept (h.te t ht) (hk _ (h.fT t ht).1) (hk _ (h.fT t ht).2), fun t ht => ⟨row_kept4 (h.tm t ht).1 fun k e => hk k (h.fM t ht k e), (h.tm t ht).2⟩, h.fD, h.fv, h.fL, h.fT, h.fM, fun k e => Nat.lt_of_lt_of_le (h.lt' k e) hs, h.sp⟩
theorem Pq4.below (h : Pq4 F W D b v S m rv L Sm tv T mv Tm) (hb : Below W.heap.size W W') : Pq4 F W' D b v S m rv L Sm tv T mv Tm := h.keep hb.size fun k e => hb.block k (h.lt' k e)
theorem Pq4.cells (h : Pq4 F W D b v S m rv L Sm tv T mv Tm) : W.cell? ⟨D, 0, none⟩ = some (.pointer (some ⟨b, 0, none⟩)) ∧ W.cell? ⟨D, 1, none⟩ = some (.pointer (some ⟨m, 0, none⟩)) ∧ W.cell? ⟨D, 2, none⟩ = some tv ∧ W.cell? ⟨D, 3, none⟩ = some mv ∧ ∀ j, W.frozen? ⟨D, j, none⟩ = false :=
  ⟨by simp [World.cell?, h.bx], by simp [World.cell?, h.bx], by simp [World.cell?, h.bx], by simp [World.cell?, h.bx], fun j => by simp [World.frozen?, h.bx]⟩
theorem row1_cell {B e : Nat} {W : World} {v : Value} {n : Nat} {xs : List Value} (h : W.ownsRow B e 1 v n xs) {i : Nat} {x : Value} (hi : xs[i]? = some x) : ∃ g cap, v = .slice (some ⟨g, 0, none⟩) n cap ∧ n ≤ cap ∧ W.cell? ⟨g, i, none⟩ = some x := by
  rcases h.2 with ⟨e1, e2⟩ | ⟨g, cap, cur, rfl, _, hh, hnc, _⟩
  · have := h.1
    rw [e2] at this
    have h0 : xs = [] := List.eq_nil_of_length_eq_zero (by simpa using this)
    rw [h0] at hi
    simp at hi
  · have := World.ownsRow.cells h (g := g) rfl i x hi
    rw [Addr.add_lit, Nat.zero_add] at this
    exact ⟨g, cap, rfl, hnc, this⟩
theorem ld_went (t : Te) (r : Int) : ldV (mdT t) r = .tuple #[.int .i64 ((went 0 (lv 0 t.So) r).getD 0), .bool (went 0 (lv 0 t.So) r).isSome] := by
  have h := mvd4_went (live4 (plc 0 t.So)) 0 r
  rw [live_lv] at h
  unfold ldV
  show (match (mdT t).find? (fun m => m.1 == r) with | some m => _ | none => _) = _
  unfold mdT
  rw [← h]
  cases (mvd4 0 (live4 (plc 0 t.So))).find? (fun m => m.1 == r) <;> rfl
end
set_option maxHeartbeats 1600000 in
theorem asked4_any (F : Nat → Prop) (D b : Nat) (v : Value) (S : List Seg) (m : Nat) (rv : Value) (L : List Mt) (tv mv : Value) (T : List Te) (k : Nat) (r : Int) (w : World) (h : Pr4 F w D b v S m rv L tv mv T) (hk : k < T.length) (h1 : -9223372036854775808 ≤ r) (h2 : r ≤ 9223372036854775807) (hT : T.length ≤ 1099511627776) :
    Calls Try.prog 26 #[.pointer (some ⟨D, 0, none⟩), .int .i64 k, .int .i64 r] w fun e w' => e = .returned (.bool true) ∧ w' = w := by
  obtain ⟨c0, c1, c2, c3, -⟩ := h.cells
  have ht := (⟨h.te T[k] (List.getElem_mem hk), (h.tm T[k] (List.getElem_mem hk)).1, (h.tm T[k] (List.getElem_mem hk)).2⟩ : _ ∧ _ ∧ _)
  obtain ⟨g, cap, ev, hn1, d1⟩ := row1_cell h.tr (i := k) (x := fnT T[k]) (by rw [List.getElem?_map, List.getElem?_eq_getElem hk]; rfl)
  obtain ⟨g2, cap2, ev2, hn2, d2⟩ := row1_cell h.mr (i := k) (x := (T[k]).mv) (by rw [List.getElem?_map, List.getElem?_eq_getElem hk]; rfl)
  subst ev; subst ev2
  obtain ⟨ma, mc, hmv⟩ := row_form2 ht.2.1
  have HTl : Hid (Calls Try.prog 37 #[.int .i64 r, .pointer (some ⟨(T[k]).m, 0, none⟩)] w fun e w' => e = .returned (.tuple #[.int .i64 ((went 0 (lv 0 (T[k]).So) r).getD 0), .bool (went 0 (lv 0 (T[k]).So) r).isSome]) ∧ w' = w) := tells_any _ _ _ r w ht.1 h1 h2
  have HLd : Hid (Calls Try.prog 38 #[.slice ma (mdT T[k]).length mc, .int .i64 r] w fun e w' => e = .returned (.tuple #[.int .i64 ((went 0 (lv 0 (T[k]).So) r).getD 0), .bool (went 0 (lv 0 (T[k]).So) r).isSome]) ∧ w' = w) := by
    have h5 := mLead_any 0 (T[k]).mv (mdT T[k]) r w ht.2.1 ht.2.2
    rw [ld_went, hmv] at h5
    exact h5
  rw [hmv] at d2
  unfold fnT at d1
  clear h ht hmv
  generalize (mdT T[k]).length = ml at *
  generalize (T[k]).m = tm at *
  generalize (went 0 (lv 0 (T[k]).So) r).getD 0 = ga at *
  generalize (went 0 (lv 0 (T[k]).So) r).isSome = gb at *
  go_enter Try.func26, Try.ntmps26
  go_wp2_with fail
  refine HTl.out.mono ?_
  rintro e w1 ⟨rfl, ew⟩
  have ew := ew.symm
  subst ew
  go_wp2_with fail
  refine HLd.out.mono ?_
  rintro e w1 ⟨rfl, ew⟩
  have ew := ew.symm
  subst ew
  have hb1 : (ga == ga) = true := beq_self_eq_true _
  have hb2 : (gb == gb) = true := beq_self_eq_true _
  go_wp2
  go_ret
  exact ⟨rfl, rfl⟩
end Go.Proofs.Ytbhjpahieghepaa
set_option linter.unusedSimpArgs false
set_option linter.unusedVariables false
namespace Go.Proofs.Ytbhjpahieghepaa
open Go Go.RowKit Go.Maps

/-- what a step leaves: the pair, over blocks of its own and new ones; all else as it was -/
structure Ps4 (F F' : Nat → Prop) (w w' : World) : Prop where
  os : w'.os = w.os
  tape : w'.tape = w.tape
  output : w'.output = w.output
  size : w.heap.size ≤ w'.heap.size
  block : ∀ k, k < w.heap.size → ¬ F k → w'.heap[k]? = w.heap[k]?
  sub : ∀ k, F' k → F k ∨ w.heap.size ≤ k
theorem Ps4.of_below {F : Nat → Prop} {w w' : World} (h : Below w.heap.size w w') : Ps4 F F w w' := ⟨h.os, h.tape, h.output, h.size, fun k hk _ => h.block k hk, fun k hk => .inl hk⟩
/-- the same lists at the same places, and more behind -/
def Xt (S S' : List Seg) : Prop := ∃ A B, S' = A ++ B ∧ A.map Seg.lits = S.map Seg.lits
theorem Xt.refl (S : List Seg) : Xt S S := ⟨S, [], (List.append_nil _).symm, rfl⟩
theorem Xt.trans {S S1 S2 : List Seg} (h : Xt S S1) (k : Xt S1 S2) : Xt S S2 := by
  obtain ⟨A, B, rfl, e⟩ := h
  obtain ⟨A', B', rfl, e'⟩ := k
  rw [List.map_append] at e'
  refine ⟨A'.take A.length, A'.drop A.length ++ B', by rw [← List.append_assoc, List.take_append_drop], ?_⟩
  have := congrArg (List.take A.length) e'
  rw [List.take_left' (by rw [List.length_map])] at this
  rw [← e, ← this, List.map_take]
/-- what a step leaves of the rows of ints: those that are not the arena's, and the arena's words -/
structure Pw (w : World) (v : Value) (S : List Seg) (w' : World) (v' : Value) (S' : List Seg) : Prop where
  ki : ∀ k, k < w.heap.size → tyB w k = some 3 → v.ownBlock ≠ some k → w'.heap[k]? = w.heap[k]? ∧ v'.ownBlock ≠ some k
  wo : ∀ g, v.ownBlock = some g → (v'.ownBlock = some g ∧ Xt S S') ∨ (v'.ownBlock ≠ some g ∧ tyB w' g = some 3 ∧ ∀ i, i < (flat S).length → w'.cell? ⟨g, i, none⟩ = w.cell? ⟨g, i, none⟩)
theorem Pw.of_kept {w w' : World} {v : Value} {S : List Seg} (h : ∀ k, k < w.heap.size → tyB w k = some 3 → w'.heap[k]? = w.heap[k]?) : Pw w v S w' v S := ⟨fun k hk ht hn => ⟨h k hk ht, hn⟩, fun g hg => .inl ⟨hg, Xt.refl S⟩⟩
theorem Pw.of_below {w w' : World} {v : Value} {S : List Seg} (h : Below w.heap.size w w') : Pw w v S w' v S := Pw.of_kept fun k hk _ => h.block k hk
theorem Pw.trans {w w1 w2 : World} {v v1 v2 : Value} {S S1 S2 : List Seg} (h : Pw w v S w1 v1 S1) (k : Pw w1 v1 S1 w2 v2 S2) (hs : w.heap.size ≤ w1.heap.size) (o : Own 0 w v (flat S)) (o1 : Own 0 w1 v1 (flat S1)) (hx : Xt S S1 → (flat S).length ≤ (flat S1).length) (hl : ∀ g i, v.ownBlock = some g → v1.ownBlock = some g → Xt S S1 → i < (flat S).length → v2.ownBlock ≠ some g → w2.cell? ⟨g, i, none⟩ = w.cell? ⟨g, i, none⟩) : Pw w v S w2 v2 S2 := by
  refine ⟨fun i hi ht hn => ?_, fun g hg => ?_⟩
  · obtain ⟨h1, h2⟩ := h.ki i hi ht hn
    obtain ⟨k1, k2⟩ := k.ki i (by omega) (by unfold tyB at ht ⊢; rw [h1]; exact ht) h2
    exact ⟨k1.trans h1, k2⟩
  · have hgl : g < w.heap.size := (World.ownsRow.lt o g hg).2
    rcases h.wo g hg with ⟨e1, x1⟩ | ⟨e1, t1, c1⟩
    · rcases k.wo g e1 with ⟨e2, x2⟩ | ⟨e2, t2, c2⟩
      · exact .inl ⟨e2, x1.trans x2⟩
      · exact .inr ⟨e2, t2, fun i hi => hl g i hg e1 x1 hi e2⟩
    · obtain ⟨k1, k2⟩ := k.ki g (by omega) t1 e1
      refine .inr ⟨k2, by unfold tyB at t1 ⊢; rw [k1]; exact t1, fun i hi => ?_⟩
      rw [World.cell?_of_block k1]
      exact c1 i hi
/-- a step behind which the words stay where they are -/
theorem Pw.step {w w1 w2 : World} {v v1 : Value} {S S1 : List Seg} (h : Pw w v S w1 v1 S1) (k : ∀ k, k < w1.heap.size → tyB w1 k = some 3 → w2.heap[k]? = w1.heap[k]?) (hs : w.heap.size ≤ w1.heap.size) : Pw w v S w2 v1 S1 := by
  refine ⟨fun i hi ht hn => ?_, fun g hg => ?_⟩
  · obtain ⟨h1, h2⟩ := h.ki i hi ht hn
    exact ⟨(k i (by omega) (by unfold tyB at ht ⊢; rw [h1]; exact ht)).trans h1, h2⟩
  · rcases h.wo g hg with ⟨e1, x1⟩ | ⟨e1, t1, c1⟩
    · exact .inl ⟨e1, x1⟩
    · have hgl : g < w1.heap.size := by
        unfold tyB at t1
        cases hh : w1.heap[g]? with
        | none => rw [hh] at t1; cases t1
        | some o => exact (Array.getElem?_eq_some_iff.1 hh).1
      have k1 := k g hgl t1
      refine .inr ⟨e1, by unfold tyB at t1 ⊢; rw [k1]; exact t1, fun i hi => ?_⟩
      rw [World.cell?_of_block k1]
      exact c1 i hi
/-- ahead of a step nothing but new memory -/
theorem Pw.after {w w1 w2 : World} {v v2 : Value} {S S2 : List Seg} (hb : Below w.heap.size w w1) (k : Pw w1 v S w2 v2 S2) (hv : ∀ g, v.ownBlock = some g → g < w.heap.size) : Pw w v S w2 v2 S2 := by
  refine ⟨fun i hi ht hn => ?_, fun g hg => ?_⟩
  · have h1 := hb.block i hi
    obtain ⟨k1, k2⟩ := k.ki i (Nat.lt_of_lt_of_le hi hb.size) (by unfold tyB at ht ⊢; rw [h1]; exact ht) hn
    exact ⟨k1.trans h1, k2⟩
  · rcases k.wo g hg with q | ⟨e2, t2, c2⟩
    · exact .inl q
    · exact .inr ⟨e2, t2, fun i hi => (c2 i hi).trans (World.cell?_of_block (hb.block g (hv g hg)))⟩
def Pl4 (F : Nat → Prop) (D b m : Nat) (v : Value) (S : List Seg) (L : List Mt) (T : List Te) (n : Nat) (w : World) (e : Ending) (w' : World) : Prop :=
  ∃ F' v' S' rv' L' tv' mv' T', e = .returned (.bool true) ∧ Pr4 F' w' D b v' S' m rv' L' tv' mv' T' ∧ Ps4 F F' w w' ∧ (flat S').length ≤ (flat S).length + n ∧ L'.length ≤ L.length + 1 ∧ T'.length ≤ T.length + 1 ∧ Pw w v S w' v' S'
theorem op_cells (w : World) (a b c d e : Value) (T : TypeId) {W : World} (hW : Below (w.alloc (.cells #[a, b, c, d, e] T)).heap.size (w.alloc (.cells #[a, b, c, d, e] T)) W) : W.cell? ⟨w.heap.size, 0, none⟩ = some a ∧ W.cell? ⟨w.heap.size, 1, none⟩ = some b ∧ W.cell? ⟨w.heap.size, 2, none⟩ = some c ∧ W.cell? ⟨w.heap.size, 3, none⟩ = some d ∧ W.cell? ⟨w.heap.size, 4, none⟩ = some e := by
  have hh : W.heap[w.heap.size]? = some (.cells #[a, b, c, d, e] T (0, 0)) := by
    have e1 := World.alloc_heap_new w (.cells #[a, b, c, d, e] T (0, 0))
    exact (hW.block _ (Array.getElem?_eq_some_iff.1 e1).1).trans e1
  exact ⟨by simp [World.cell?, hh], by simp [World.cell?, hh], by simp [World.cell?, hh], by simp [World.cell?, hh], by simp [World.cell?, hh]⟩
set_option maxRecDepth 100000 in
set_option maxHeartbeats 1600000 in
theorem plays5_any (F : Nat → Prop) (D b m : Nat) (v rv tv mv : Value) (S : List Seg) (L : List Mt) (T : List Te) (q1 q2 q3 q4 : Value) (w : World) (h : Pr4 F w D b v S m rv L tv mv T) (hl : (flat S).length ≤ 1099511627776) :
    Calls Try.prog 5 #[.pointer (some ⟨D, 0, none⟩), .agg #[.int .i64 5, q1, q2, q3, q4]] w fun e w' => Pl4 F D b m v S L T 0 w e w' := by
  have HP : Hid (∀ W, Below w.heap.size w W → Pr4 F W D b v S m rv L tv mv T) := fun W hW => h.below hW
  have hb0 := below_box w (.cells #[.int .i64 5, q1, q2, q3, q4] 34)
  have HB0 : Hid (Below w.heap.size w (w.alloc (.cells #[.int .i64 5, q1, q2, q3, q4] 34))) := hb0
  obtain ⟨k0, -, -, -, -⟩ := op_cells w (.int .i64 5) q1 q2 q3 q4 34 (Below.refl _ _)
  obtain ⟨c0, c1, -, -, -⟩ := (h.below hb0).cells
  have hmw : mwd (L.map Prod.snd) = (flat S).length := by rw [h.mz.eq, mwd_flat]
  have hmc : mct (L.map Prod.snd) = (lv 0 S).length := by rw [h.mz.eq, mct_lv]
  have HF : Hid (∀ W, Below w.heap.size w W → Pl4 F D b m v S L T 0 w (.returned (.bool true)) W) := fun W hW => ⟨F, v, S, rv, L, tv, mv, T, rfl, h.below hW, Ps4.of_below hW, Nat.le_refl _, Nat.le_succ _, Nat.le_succ _, Pw.of_below hW⟩
  clear h hb0
  go_enter Try.func5, Try.ntmps5
  go_wp2_with fail
  generalize w.alloc (.cells #[.int .i64 5, q1, q2, q3, q4] 34) = W0 at *
  refine (arCount_any b v S W0 (HP.out _ HB0.out).ar).mono ?_
  rintro e w1 ⟨rfl, ew⟩
  have ew := ew.symm
  subst ew
  go_wp2_with fail
  refine (arWords_any b v S W0 (HP.out _ HB0.out).ar (by omega)).mono ?_
  rintro e w1 ⟨rfl, ew⟩
  have ew := ew.symm
  subst ew
  go_wp2_with fail
  refine (mCount_any 0 m rv L W0 (HP.out _ HB0.out).mz.ma).mono ?_
  rintro e w1 ⟨rfl, ew⟩
  have ew := ew.symm
  subst ew
  rw [hmc]
  have hb1 : (((lv 0 S).length : Int) == ((lv 0 S).length : Int)) = true := beq_self_eq_true _
  have hb2 : (((flat S).length : Int) == ((flat S).length : Int)) = true := beq_self_eq_true _
  go_wp2_with fail
  refine (mWords_any 0 m rv L W0 (HP.out _ HB0.out).mz.ma (by rw [hmw]; omega)).mono ?_
  rw [hmw]
  rintro e w1 ⟨rfl, ew⟩
  have ew := ew.symm
  subst ew
  go_wp2
  go_ret
  exact HF.out _ HB0.out
set_option maxRecDepth 100000 in
set_option maxHeartbeats 1600000 in
theorem plays0_any (F : Nat → Prop) (D b m : Nat) (v rv tv mv : Value) (S : List Seg) (L : List Mt) (T : List Te) (kd : Int) (q1 q2 q3 q4 : Value) (w : World) (h : Pr4 F w D b v S m rv L tv mv T) (hk : ¬ (1 ≤ kd ∧ kd ≤ 7)) :
    Calls Try.prog 5 #[.pointer (some ⟨D, 0, none⟩), .agg #[.int .i64 kd, q1, q2, q3, q4]] w fun e w' => Pl4 F D b m v S L T 0 w e w' := by
  have hb0 := below_box w (.cells #[.int .i64 kd, q1, q2, q3, q4] 34)
  obtain ⟨k0, -, -, -, -⟩ := op_cells w (.int .i64 kd) q1 q2 q3 q4 34 (Below.refl _ _)
  have HF : Hid (Pl4 F D b m v S L T 0 w (.returned (.bool true)) (w.alloc (.cells #[.int .i64 kd, q1, q2, q3, q4] 34))) := ⟨F, v, S, rv, L, tv, mv, T, rfl, h.below hb0, Ps4.of_below hb0, Nat.le_refl _, Nat.le_succ _, Nat.le_succ _, Pw.of_below hb0⟩
  have e1 : (kd == 1) = false := beq_eq_false_iff_ne.2 (by omega)
  have e2 : (kd == 2) = false := beq_eq_false_iff_ne.2 (by omega)
  have e3 : (kd == 3) = false := beq_eq_false_iff_ne.2 (by omega)
  have e4 : (kd == 4) = false := beq_eq_false_iff_ne.2 (by omega)
  have e5 : (kd == 5) = false := beq_eq_false_iff_ne.2 (by omega)
  have e6 : (kd == 6) = false := beq_eq_false_iff_ne.2 (by omega)
  have e7 : (kd == 7) = false := beq_eq_false_iff_ne.2 (by omega)
  clear h hb0 hk
  go_enter Try.func5, Try.ntmps5
  go_wp2
  go_ret
  exact HF.out
end Go.Proofs.Ytbhjpahieghepaa
set_option linter.unusedSimpArgs false
set_option linter.unusedVariables false
namespace Go.Proofs.Ytbhjpahieghepaa
open Go Go.RowKit Go.Maps

set_option maxRecDepth 100000 in
set_option maxHeartbeats 1600000 in
theorem plays3_any (F : Nat → Prop) (D b m : Nat) (v rv tv mv : Value) (S : List Seg) (L : List Mt) (T : List Te) (r : Int) (q1 q3 q4 : Value) (w : World) (h : Pr4 F w D b v S m rv L tv mv T) (hl : (flat S).length ≤ 1099511627776) :
    Calls Try.prog 5 #[.pointer (some ⟨D, 0, none⟩), .agg #[.int .i64 3, q1, .int .i64 r, q3, q4]] w fun e w' => Pl4 F D b m v S L T 0 w e w' := by
  have HP : Hid (∀ W, Below w.heap.size w W → Pr4 F W D b v S m rv L tv mv T) := fun W hW => h.below hW
  have hb0 := below_box w (.cells #[.int .i64 3, q1, .int .i64 r, q3, q4] 34)
  have HB0 : Hid (Below w.heap.size w (w.alloc (.cells #[.int .i64 3, q1, .int .i64 r, q3, q4] 34))) := hb0
  have HC : Hid (∀ W, Below (w.alloc (.cells #[.int .i64 3, q1, .int .i64 r, q3, q4] 34)).heap.size (w.alloc (.cells #[.int .i64 3, q1, .int .i64 r, q3, q4] 34)) W → W.cell? ⟨w.heap.size, 0, none⟩ = some (.int .i64 3) ∧ W.cell? ⟨w.heap.size, 2, none⟩ = some (.int .i64 r) ∧ W.cell? ⟨D, 0, none⟩ = some (.pointer (some ⟨b, 0, none⟩)) ∧ W.cell? ⟨D, 1, none⟩ = some (.pointer (some ⟨m, 0, none⟩))) := fun W hW => by
    have h1 := op_cells w (.int .i64 3) q1 (.int .i64 r) q3 q4 34 hW
    have h2 := (h.below (Below.step hb0 hW)).cells
    exact ⟨h1.1, h1.2.2.1, h2.1, h2.2.1⟩
  obtain ⟨k0, k2, c0, c1⟩ := HC.out _ (Below.refl _ _)
  have HF : Hid (∀ W, Below w.heap.size w W → Pl4 F D b m v S L T 0 w (.returned (.bool true)) W) := fun W hW => ⟨F, v, S, rv, L, tv, mv, T, rfl, h.below hW, Ps4.of_below hW, Nat.le_refl _, Nat.le_succ _, Nat.le_succ _, Pw.of_below hW⟩
  obtain ⟨x, hx⟩ : ∃ x, (match find S r with | some s => s.learnt | none => false) = x := ⟨_, rfl⟩
  have HA : Hid (∀ W, Below w.heap.size w W → Calls Try.prog 16 #[.pointer (some ⟨b, 0, none⟩), .int .i64 r] W fun e w' => e = .returned (.bool x) ∧ w' = W) := fun W hW => by
    have h5 := arLearnt_any b v S r W (HP.out W hW).ar (by omega)
    exact h5.mono fun e w' ⟨he, hw⟩ => ⟨he.trans (congrArg (fun z => Ending.returned (.bool z)) hx), hw⟩
  have HM : Hid (∀ W, Below w.heap.size w W → Calls Try.prog 17 #[.pointer (some ⟨m, 0, none⟩), .int .i64 r] W fun e w' => e = .returned (.bool x) ∧ w' = W) := fun W hW => by
    have h5 := mLearnt_any 0 m rv L S r W (HP.out W hW).mz
    exact h5.mono fun e w' ⟨he, hw⟩ => ⟨he.trans (congrArg (fun z => Ending.returned (.bool z)) hx), hw⟩
  have hxx : (x == x) = true := beq_self_eq_true _
  clear h hb0 hx
  go_enter Try.func5, Try.ntmps5
  go_upto_region 11 with fail
  generalize w.alloc (.cells #[.int .i64 3, q1, .int .i64 r, q3, q4] 34) = W0 at *
  go_quiet ((go_at_call 16; exact Calls.quiet_of_same (HA.out _ (Below.step HB0.out (below_drewN _ _)))))
  have HB1 : Hid (Below W0.heap.size W0 (W0.drewN nq)) := below_drewN _ _
  clear k0 k2 c0 c1
  go_upto_region 12 with fail
  generalize W0.drewN nq = W1 at *
  obtain ⟨k0, k2, c0, c1⟩ := HC.out _ HB1.out
  go_quiet ((go_at_call 17; exact Calls.quiet_of_same (HM.out _ (Below.step (Below.step HB0.out HB1.out) (below_drewN _ _)))))
  go_wp2
  go_ret
  exact HF.out _ (Below.step (Below.step HB0.out HB1.out) (below_drewN _ _))
end Go.Proofs.Ytbhjpahieghepaa
set_option linter.unusedSimpArgs false
set_option linter.unusedVariables false
namespace Go.Proofs.Ytbhjpahieghepaa
open Go Go.RowKit Go.Maps

set_option maxRecDepth 100000 in
set_option maxHeartbeats 1600000 in
theorem plays7_any (F : Nat → Prop) (D b m : Nat) (v rv tv mv : Value) (S : List Seg) (L : List Mt) (T : List Te) (r : Int) (zs : List Int) (q1 q3 q4 : Value) (w : World) (h : Pr4 F w D b v S m rv L tv mv T) (hz : Rd w q3 zs) (hi : ∀ x ∈ zs, -9223372036854775808 ≤ x ∧ x ≤ 9223372036854775807) (hr : r ≤ 9223372036854775807) (hT : T.length ≤ 1099511627776) :
    Calls Try.prog 5 #[.pointer (some ⟨D, 0, none⟩), .agg #[.int .i64 7, q1, .int .i64 r, q3, q4]] w fun e w' => Pl4 F D b m v S L T 0 w e w' := by
  have hzl := hz.len
  obtain ⟨za, zc, rfl, hzc, hzm, hcell⟩ := hz.form
  have HP : Hid (∀ W, Below w.heap.size w W → Pr4 F W D b v S m rv L tv mv T) := fun W hW => h.below hW
  have hb0 := below_box w (.cells #[.int .i64 7, q1, .int .i64 r, .slice za zs.length zc, q4] 34)
  have HB0 : Hid (Below w.heap.size w (w.alloc (.cells #[.int .i64 7, q1, .int .i64 r, .slice za zs.length zc, q4] 34))) := hb0
  obtain ⟨ta, tc, htv⟩ : ∃ ta tc, tv = .slice ta T.length tc := row_form h.tr
  subst htv
  have HC : Hid (∀ W, Below (w.alloc (.cells #[.int .i64 7, q1, .int .i64 r, .slice za zs.length zc, q4] 34)).heap.size (w.alloc (.cells #[.int .i64 7, q1, .int .i64 r, .slice za zs.length zc, q4] 34)) W → W.cell? ⟨w.heap.size, 0, none⟩ = some (.int .i64 7) ∧ W.cell? ⟨w.heap.size, 2, none⟩ = some (.int .i64 r) ∧ W.cell? ⟨w.heap.size, 3, none⟩ = some (.slice za zs.length zc) ∧ W.cell? ⟨D, 2, none⟩ = some (.slice ta T.length tc)) := fun W hW => by
    have h1 := op_cells w (.int .i64 7) q1 (.int .i64 r) (.slice za zs.length zc) q4 34 hW
    have h2 := (h.below (Below.step hb0 hW)).cells
    exact ⟨h1.1, h1.2.2.1, h1.2.2.2.1, h2.2.2.1⟩
  have HZ : Hid (∀ W, Below w.heap.size w W → ∀ k, k < zs.length → ∃ g off, za = some ⟨g, off, none⟩ ∧ W.cell? ⟨g, off + k, none⟩ = some (.int .i64 (zs.getD k 0))) := fun W hW k hk => by
    obtain ⟨g, off, e, hce⟩ := hcell k hk
    exact ⟨g, off, e, (hW.cell (p := ⟨g, off + k, none⟩) (World.block_lt_of_cell? w _ hce)).trans hce⟩
  have HI : Hid (∀ k, k < zs.length → -9223372036854775808 ≤ zs.getD k 0 ∧ zs.getD k 0 ≤ 9223372036854775807) := fun k hk => hi _ (by rw [List.getD_eq_getElem?_getD, List.getElem?_eq_getElem hk]; exact List.getElem_mem hk)
  obtain ⟨k0, k2, k3, c2⟩ := HC.out _ (Below.refl _ _)
  have HF : Hid (∀ W, Below w.heap.size w W → Pl4 F D b m v S L T 0 w (.returned (.bool true)) W) := fun W hW => ⟨F, v, S, rv, L, _, mv, T, rfl, h.below hW, Ps4.of_below hW, Nat.le_refl _, Nat.le_succ _, Nat.le_succ _, Pw.of_below hW⟩
  have HAs : Hid (∀ W (k : Nat) x, Below w.heap.size w W → k < T.length → -9223372036854775808 ≤ x → x ≤ 9223372036854775807 → Calls Try.prog 26 #[.pointer (some ⟨D, 0, none⟩), .int .i64 k, .int .i64 x] W fun e w' => e = .returned (.bool true) ∧ w' = W) := fun W k x hW hk h1 h2 => asked4_any F D b v S m rv L _ mv T k x W (h.below hW) hk h1 h2 hT
  clear h hb0 hz hcell hi
  by_cases hneg : r < 0
  · go_enter Try.func5, Try.ntmps5
    go_wp2
    go_ret
    exact HF.out _ HB0.out
  · by_cases hT0 : T.length = 0
    · have hT1 : ((T.length : Int) == 0) = true := by rw [hT0]; rfl
      go_enter Try.func5, Try.ntmps5
      go_wp2
      go_ret
      exact HF.out _ HB0.out
    · have hT1 : ((T.length : Int) == 0) = false := beq_eq_false_iff_ne.2 (by omega)
      obtain ⟨kk, hkk⟩ : ∃ kk : Nat, r.tmod (T.length : Int) = (kk : Int) := ⟨(r.tmod (T.length : Int)).toNat, (Int.toNat_of_nonneg (Int.tmod_nonneg _ (by omega))).symm⟩
      have hkT : kk < T.length := by
        have := Int.tmod_lt_of_pos r (show (0 : Int) < (T.length : Int) by omega)
        rw [hkk] at this; omega
      have HkT : Hid (kk < T.length) := hkT
      go_enter Try.func5, Try.ntmps5
      go_wp2
      generalize w.alloc (.cells #[.int .i64 7, q1, .int .i64 r, .slice za zs.length zc, q4] 34) = W0 at *
      clear k0 k2 k3 c2
      go_loopg [18] zs.length (fun q i' wr => ∃ k : Nat, k + q = zs.length ∧ i' = .int .i64 k ∧ Below W0.heap.size W0 wr)
      case atStart => exact ⟨0, by omega, rfl, Below.refl _ _⟩
      case round =>
        obtain ⟨k, hk, rfl, hbw⟩ := hrel
        have HK : Hid (k + gk = zs.length) := hk
        have HBw : Hid (Below W0.heap.size W0 wr) := hbw
        obtain ⟨k0, k2, k3, c2⟩ := HC.out _ hbw
        clear hk hbw
        by_cases hlt : k < zs.length
        · obtain ⟨g, off, hza, hce⟩ := HZ.out wr (Below.step HB0.out HBw.out) k hlt
          subst hza
          have hix := HI.out k hlt
          have HIx : Hid (-9223372036854775808 ≤ zs.getD k 0 ∧ zs.getD k 0 ≤ 9223372036854775807) := hix
          have HLT : Hid (k < zs.length) := hlt
          clear hix
          generalize zs.getD k 0 = x at *
          have HA1 : Hid (∀ n, Calls Try.prog 26 #[.pointer (some ⟨D, 0, none⟩), .int .i64 kk, .int .i64 x] (wr.drewN n) fun e w' => e = .returned (.bool true) ∧ w' = wr.drewN n) := fun n => HAs.out _ kk x (Below.step (Below.step HB0.out HBw.out) (below_drewN _ _)) HkT.out HIx.out.1 HIx.out.2
          go_upto_region 32 with fail
          go_quiet ((go_at_call 26; exact Calls.quiet_of_same (HA1.out _)))
          have HB1 : Hid (Below W0.heap.size W0 (wr.drewN nq)) := Below.step HBw.out (below_drewN _ _)
          clear k0 k2 k3 c2 hce
          go_wp2
          go_roundg (gk - 1)
          case measure => have := HK.out; have := HLT.out; omega
          case rel => exact ⟨k + 1, by have := HK.out; have := HLT.out; omega, by go_num, HB1.out⟩
        · go_wp2
          go_ret
          exact HF.out _ (Below.step HB0.out HBw.out)
end Go.Proofs.Ytbhjpahieghepaa
set_option linter.unusedSimpArgs false
set_option linter.unusedVariables false
namespace Go.Proofs.Ytbhjpahieghepaa
open Go Go.RowKit Go.Maps

set_option maxHeartbeats 3200000 in
theorem requal4_any (va vb : Value) (a b : List Int) (w : World) (ha : Rd w va a) (hb : Rd w vb b) :
    Calls Try.prog 9 #[va, vb] w fun e w' => e = .returned (.bool (a == b)) ∧ Below w.heap.size w w' := by
  have hla := ha.len
  have hlb := hb.len
  obtain ⟨aa, ca, rfl, hca, hma, hcella⟩ := ha.form
  obtain ⟨ab, cb, rfl, hcb, hmb, hcellb⟩ := hb.form
  by_cases hne : a.length = b.length
  case neg =>
    have HE : Hid ((a == b) = false) := beq_no_len hne
    have hd : ((a.length : Int) == (b.length : Int)) = false := beq_eq_false_iff_ne.2 (by omega)
    clear hcella hcellb ha hb
    go_enter Try.func9, Try.ntmps9
    go_wp2
    go_ret
    exact ⟨ret_bool HE.out.symm, Below.refl _ _⟩
  have HA : Hid (∀ k, k < a.length → ∃ b off, aa = some ⟨b, off, none⟩ ∧ w.cell? ⟨b, off + k, none⟩ = some (.int .i64 (a.getD k 0))) := hcella
  have HB : Hid (∀ k, k < b.length → ∃ b' off, ab = some ⟨b', off, none⟩ ∧ w.cell? ⟨b', off + k, none⟩ = some (.int .i64 (b.getD k 0))) := hcellb
  have HN : Hid (a.length = b.length) := hne
  have hd : ((a.length : Int) == (b.length : Int)) = true := beq_iff_eq.2 (by omega)
  clear hcella hcellb ha hb hne
  go_enter Try.func9, Try.ntmps9
  go_wp2
  go_loopg [5] a.length (fun g i wr => ∃ k : Nat, k + g = a.length ∧ i = .int .i64 k ∧ a.take k = b.take k ∧ Below w.heap.size w wr ∧ wr.heap = w.heap)
  case atStart => exact ⟨0, by omega, rfl, by simp, Below.refl _ _, rfl⟩
  case round =>
    obtain ⟨k, hk, rfl, hpre, bel, hheap⟩ := hrel
    have HK : Hid (k + gk = a.length) := hk
    have HP : Hid (a.take k = b.take k) := hpre
    have HB1 : Hid (Below w.heap.size w wr) := bel
    clear hpre
    by_cases hlt : k < a.length
    · obtain ⟨b1, o1, rfl, ck1⟩ := HA.out k hlt
      obtain ⟨b2, o2, rfl, ck2⟩ := HB.out k (by have := HN.out; omega)
      have hc1 : wr.cell? ⟨b1, o1 + k, none⟩ = some (.int .i64 (a.getD k 0)) := by rw [← ck1]; unfold World.cell?; rw [hheap]
      have hc2 : wr.cell? ⟨b2, o2 + k, none⟩ = some (.int .i64 (b.getD k 0)) := by rw [← ck2]; unfold World.cell?; rw [hheap]
      have HS : Hid (a.getD k 0 = b.getD k 0 → a.take (k + 1) = b.take (k + 1)) := fun h => take_eq_more hlt (by have := HN.out; omega) HP.out h
      have HF : Hid (a.getD k 0 ≠ b.getD k 0 → (a == b) = false) := fun h => beq_no_at (d := 0) h
      have hlt2 : k < b.length := by have := HN.out; omega
      have HH : Hid (wr.heap = w.heap) := hheap
      clear hk ck1 ck2 bel hheap
      generalize a.getD k 0 = x at *
      generalize b.getD k 0 = y at *
      by_cases he : x = y
      · have hb1 : (x == y) = true := beq_iff_eq.2 he
        have HE : Hid (x = y) := he
        clear he
        go_wp2_with fail
        go_quiet (fail)
        go_wp2
        go_roundg (gk - 1)
        case measure => have := HK.out; omega
        case rel => exact ⟨k + 1, by have := HK.out; omega, by go_num, HS.out HE.out, Below.step HB1.out (below_drewN _ _), HH.out⟩
      · have hb1 : (x == y) = false := beq_eq_false_iff_ne.2 he
        have HE : Hid (x ≠ y) := he
        clear he
        go_wp2_with fail
        go_quiet (fail)
        go_wp2
        go_ret
        exact ⟨ret_bool (HF.out HE.out).symm, Below.step HB1.out (below_drewN _ _)⟩
    · obtain rfl : k = a.length := by omega
      have HE : Hid ((a == b) = true) := by
        have := HP.out
        rw [List.take_length, HN.out, List.take_length] at this
        exact beq_iff_eq.2 this
      clear hk
      go_wp2
      go_ret
      exact ⟨ret_bool HE.out.symm, HB1.out⟩


end Go.Proofs.Ytbhjpahieghepaa
set_option linter.unusedSimpArgs false
set_option linter.unusedVariables false
namespace Go.Proofs.Ytbhjpahieghepaa
open Go Go.RowKit Go.Maps

/-- both Gets say this -/
def GtS (P : Program) (f : FuncId) (p : Nat) (r : Int) (zs : List Int) (bb : Bool) (W : World) : Prop :=
  Calls P f #[.pointer (some ⟨p, 0, none⟩), .int .i64 r] W fun e w' => ∃ a c, e = .returned (.tuple #[.slice a zs.length c, .bool bb]) ∧ Rd w' (.slice a zs.length c) zs ∧ Below W.heap.size W w'
theorem lits_le {S : List Seg} {r : Int} {s : Seg} (hf : find S r = some s) : s.lits.length ≤ (flat S).length := by
  have := (find_get hf).2.2.2.2.1
  have := (find_get hf).1
  omega
set_option maxRecDepth 100000 in
set_option maxHeartbeats 1600000 in
theorem plays2_any (F : Nat → Prop) (D b m : Nat) (v rv tv mv : Value) (S : List Seg) (L : List Mt) (T : List Te) (r : Int) (q1 q3 q4 : Value) (w : World) (h : Pr4 F w D b v S m rv L tv mv T) (hl : (flat S).length ≤ 1099511627776) (h8 : ∀ x ∈ L, x.2.lits.length * 8 ≤ 140737488351232) :
    Calls Try.prog 5 #[.pointer (some ⟨D, 0, none⟩), .agg #[.int .i64 2, q1, .int .i64 r, q3, q4]] w fun e w' => Pl4 F D b m v S L T 0 w e w' := by
  have HP : Hid (∀ W, Below w.heap.size w W → Pr4 F W D b v S m rv L tv mv T) := fun W hW => h.below hW
  have hb0 := below_box w (.cells #[.int .i64 2, q1, .int .i64 r, q3, q4] 34)
  have HB0 : Hid (Below w.heap.size w (w.alloc (.cells #[.int .i64 2, q1, .int .i64 r, q3, q4] 34))) := hb0
  have HC : Hid (∀ W, Below (w.alloc (.cells #[.int .i64 2, q1, .int .i64 r, q3, q4] 34)).heap.size (w.alloc (.cells #[.int .i64 2, q1, .int .i64 r, q3, q4] 34)) W → W.cell? ⟨w.heap.size, 0, none⟩ = some (.int .i64 2) ∧ W.cell? ⟨w.heap.size, 2, none⟩ = some (.int .i64 r) ∧ W.cell? ⟨D, 0, none⟩ = some (.pointer (some ⟨b, 0, none⟩)) ∧ W.cell? ⟨D, 1, none⟩ = some (.pointer (some ⟨m, 0, none⟩))) := fun W hW => by
    have h1 := op_cells w (.int .i64 2) q1 (.int .i64 r) q3 q4 34 hW
    have h2 := (h.below (Below.step hb0 hW)).cells
    exact ⟨h1.1, h1.2.2.1, h2.1, h2.2.1⟩
  obtain ⟨k0, k2, c0, c1⟩ := HC.out _ (Below.refl _ _)
  have HF : Hid (∀ W, Below w.heap.size w W → Pl4 F D b m v S L T 0 w (.returned (.bool true)) W) := fun W hW => ⟨F, v, S, rv, L, tv, mv, T, rfl, h.below hW, Ps4.of_below hW, Nat.le_refl _, Nat.le_succ _, Nat.le_succ _, Pw.of_below hW⟩
  obtain ⟨zs, bb, hA, hM⟩ : ∃ zs bb, (∀ W, Below w.heap.size w W → GtS Try.prog 14 b r zs bb W) ∧ (∀ W, Below w.heap.size w W → GtS Try.prog 15 m r zs bb W) := by
    cases hf : find S r with
    | none =>
      refine ⟨[], false, fun W hW => (arGet_none b v S r W (HP.out W hW).ar (by omega) hf).mono fun e w' ⟨he, hw⟩ => ⟨none, 0, he, by rw [hw]; exact Rd.nil _, by rw [hw]; exact Below.refl _ _⟩, fun W hW => (mGet_any 0 m rv L S r W (HP.out W hW).mz h8).mono fun e w' hh => ?_⟩
      rcases hh with ⟨_, he, hw⟩ | ⟨s, hs, _⟩
      · exact ⟨none, 0, he, by rw [hw]; exact Rd.nil _, by rw [hw]; exact Below.refl _ _⟩
      · rw [hf] at hs; cases hs
    | some s =>
      have hle := lits_le hf
      refine ⟨s.lits, true, fun W hW => (arGet_some b v S r s W (HP.out W hW).ar (by omega) hf).mono fun e w' ⟨u, he, ho, hb⟩ => ?_, fun W hW => (mGet_any 0 m rv L S r W (HP.out W hW).mz h8).mono fun e w' hh => ?_⟩
      · obtain ⟨a, c, eu⟩ := own_form ho
        subst eu
        exact ⟨a, c, he, ho.rd (by omega), hb⟩
      · rcases hh with ⟨hn, _⟩ | ⟨s', hs, u, he, ho, hb⟩
        · rw [hf] at hn; cases hn
        · rw [hf] at hs
          injection hs with hs
          subst hs
          obtain ⟨a, c, eu⟩ := own_form ho
          subst eu
          exact ⟨a, c, he, ho.rd (by omega), hb⟩
  have HA : Hid (∀ W, Below w.heap.size w W → GtS Try.prog 14 b r zs bb W) := hA
  have HM : Hid (∀ W, Below w.heap.size w W → GtS Try.prog 15 m r zs bb W) := hM
  have hbb : (bb == bb) = true := beq_self_eq_true _
  clear h hb0 hA hM
  go_enter Try.func5, Try.ntmps5
  go_upto_region 7 with fail
  generalize w.alloc (.cells #[.int .i64 2, q1, .int .i64 r, q3, q4] 34) = W0 at *
  have HS1 : Hid (∀ W', Below W0.heap.size W0 W' → Below W0.heap.size W0 W' ∧ W'.cell? ⟨w.heap.size, 2, none⟩ = some (.int .i64 r) ∧ W'.cell? ⟨D, 0, none⟩ = some (.pointer (some ⟨b, 0, none⟩))) := fun W' hW => ⟨hW, (HC.out _ hW).2.1, (HC.out _ hW).2.2.1⟩
  have HW1 : Hid (Below W0.heap.size W0 W0.drew) := (Below.refl _ _).drew
  have HA1 : Hid (GtS Try.prog 14 b r zs bb W0.drew) := HA.out _ (Below.step HB0.out HW1.out)
  go_region_held (fun W' => Below W0.heap.size W0 W' ∧ W'.cell? ⟨w.heap.size, 2, none⟩ = some (.int .i64 r) ∧ W'.cell? ⟨D, 0, none⟩ = some (.pointer (some ⟨b, 0, none⟩))) (first | with_reducible exact HS1.out _ HW1.out | with_reducible exact HS1.out _ G1.out.1) (first
    | (go_at_call 14; (refine Calls.mono HA1.out ?_); rintro e w1 ⟨a1, e1, rfl, rd1, be1⟩; have G1 : Hid (Below W0.heap.size W0 w1 ∧ Rd w1 (.slice a1 zs.length e1) zs) := ⟨Below.step HW1.out be1, rd1⟩; clear rd1 be1))
  clear k0 k2 c0 c1
  go_upto_region 8 with fail
  have HS2 : Hid (∀ W', Below w1.heap.size w1 W' → Below w1.heap.size w1 W' ∧ W'.cell? ⟨w.heap.size, 2, none⟩ = some (.int .i64 r) ∧ W'.cell? ⟨D, 1, none⟩ = some (.pointer (some ⟨m, 0, none⟩))) := fun W' hW => ⟨hW, (HC.out _ (Below.step G1.out.1 hW)).2.1, (HC.out _ (Below.step G1.out.1 hW)).2.2.2⟩
  have HW2 : Hid (Below w1.heap.size w1 w1.drew) := (Below.refl _ _).drew
  have HM1 : Hid (GtS Try.prog 15 m r zs bb w1.drew) := HM.out _ (Below.step (Below.step HB0.out G1.out.1) HW2.out)
  obtain ⟨k0, k2, c0, c1⟩ := HC.out _ G1.out.1
  go_region_held (fun W' => Below w1.heap.size w1 W' ∧ W'.cell? ⟨w.heap.size, 2, none⟩ = some (.int .i64 r) ∧ W'.cell? ⟨D, 1, none⟩ = some (.pointer (some ⟨m, 0, none⟩))) (first | with_reducible exact HS2.out _ HW2.out | with_reducible exact HS2.out _ G2.out.1) (first
    | (go_at_call 15; (refine Calls.mono HM1.out ?_); rintro e w2 ⟨a2, e2, rfl, rd2, be2⟩; have G2 : Hid (Below w1.heap.size w1 w2 ∧ Rd w2 (.slice a2 zs.length e2) zs) := ⟨Below.step HW2.out be2, rd2⟩; clear rd2 be2))
  clear k0 k2 c0 c1
  have HEq : Hid (Calls Try.prog 9 #[.slice a1 zs.length e1, .slice a2 zs.length e2] w2 fun e w' => e = .returned (.bool true) ∧ Below w2.heap.size w2 w') := by
    have h5 := requal4_any _ _ zs zs w2 (G1.out.2.below G2.out.1) G2.out.2
    rw [show (zs == zs) = true from beq_self_eq_true zs] at h5
    exact h5
  go_wp2_with fail
  refine HEq.out.mono ?_
  rintro e w3 ⟨rfl, be3⟩
  have H3 : Hid (Below w.heap.size w w3) := Below.step (Below.step (Below.step HB0.out G1.out.1) G2.out.1) be3
  clear be3
  go_wp2
  go_ret
  exact HF.out _ H3.out
end Go.Proofs.Ytbhjpahieghepaa
set_option linter.unusedSimpArgs false
set_option linter.unusedVariables false
namespace Go.Proofs.Ytbhjpahieghepaa
open Go Go.RowKit Go.Maps

def Fn4 (F : Nat → Prop) (w w' : World) : Nat → Prop := fun k => F k ∨ (w.heap.size ≤ k ∧ k < w'.heap.size)
theorem tyB_cells {W : World} {k : Nat} {c : Array Value} {t : TypeId} {f : Nat × Nat} (h : W.heap[k]? = some (.cells c t f)) : tyB W k = some t := by unfold tyB; rw [h]
theorem tyB_row {W : World} {B e s n g : Nat} {v : Value} {xs : List Value} (h : W.ownsRow B e s v n xs) (hg : v.ownBlock = some g) : tyB W g = some e := by
  rcases h.2 with ⟨q, _⟩ | ⟨g', cap, cur, q, _, hh, _⟩
  · rw [q] at hg; cases hg
  · rw [q] at hg
    simp [Value.ownBlock] at hg
    subst hg
    exact tyB_cells hh
theorem tyB_map {W : World} {m mb : Nat} {l : LvL} (h : TellsAt W m mb l) : tyB W m = some 80 ∧ tyB W mb = none := by
  obtain ⟨n, Dm, ⟨es, clock, e1, e2⟩, hT⟩ := h.map
  exact ⟨tyB_cells h.box, by unfold tyB; rw [e1]⟩
theorem ne_ty {W : World} {a b : Nat} {s t : Option TypeId} (ha : tyB W a = s) (hb : tyB W b = t) (h : s ≠ t) : a ≠ b := by
  rintro rfl
  exact h (ha.symm.trans hb)
section
variable {F : Nat → Prop} {W W' : World} {D b : Nat} {v v' : Value} {S S' Sm Sm' : List Seg} {m : Nat} {rv rv' : Value} {L L' : List Mt} {tv tv' mv mv' : Value} {T Tm : List Te}
theorem Fn4.lt (hF : ∀ k, F k → k < W.heap.size) (hs : W.heap.size ≤ W'.heap.size) : ∀ k, Fn4 F W W' k → k < W'.heap.size := fun k hk => hk.elim (fun h => Nat.lt_of_lt_of_le (hF k h) hs) (fun h => h.2)
theorem Fn4.ps (h : ∀ k, k < W.heap.size → ¬ F k → W'.heap[k]? = W.heap[k]?) (h1 : W'.os = W.os) (h2 : W'.tape = W.tape) (h3 : W'.output = W.output) (h4 : W.heap.size ≤ W'.heap.size) : Ps4 F (Fn4 F W W') W W' :=
  ⟨h1, h2, h3, h4, h, fun k hk => hk.elim .inl (fun q => .inr q.1)⟩
theorem Ps4.trans {F F' F'' : Nat → Prop} {w w1 w2 : World} (h : Ps4 F F' w w1) (k : Ps4 F' F'' w1 w2) : Ps4 F F'' w w2 :=
  ⟨k.os.trans h.os, k.tape.trans h.tape, k.output.trans h.output, Nat.le_trans h.size k.size, fun i hi hn => (k.block i (Nat.lt_of_lt_of_le hi h.size) (fun q => (h.sub i q).elim hn (fun e => by omega))).trans (h.block i hi hn),
    fun i hi => (k.sub i hi).elim (fun q => h.sub i q) (fun q => .inr (Nat.le_trans h.size q))⟩
theorem Pq4.tys (h : Pq4 F W D b v S m rv L Sm tv T mv Tm) :
    tyB W D = some 28 ∧ tyB W b = some 75 ∧ tyB W m = some 48 ∧ (∀ g, v.ownBlock = some g → tyB W g = some 3) ∧ (∀ g, rv.ownBlock = some g → tyB W g = some 43) ∧ (∀ g, tv.ownBlock = some g → tyB W g = some 64) ∧ (∀ g, mv.ownBlock = some g → tyB W g = some 66) ∧
    (∀ x ∈ L, ∀ g, x.1.ownBlock = some g → tyB W g = some 3) ∧ (∀ t ∈ T, tyB W t.m = some 80 ∧ tyB W t.mb = none) ∧ (∀ t ∈ Tm, ∀ g, t.mv.ownBlock = some g → tyB W g = some 83) :=
  ⟨tyB_cells h.bx, tyB_cells h.ar.box, tyB_cells h.mz.ma.box, fun g hg => tyB_row h.ar.own hg, fun g hg => tyB_row h.mz.ma.ml.row hg, fun g hg => tyB_row h.tr hg, fun g hg => tyB_row h.mr hg, fun x hx g hg => tyB_row (h.mz.ma.ml.own x hx) hg, fun t ht => tyB_map (h.te t ht), fun t ht g hg => tyB_row (h.tm t ht).1 hg⟩
/-- a step of the arena -/
theorem Pq4.arStep (h : Pq4 F W D b v S m rv L Sm tv T mv Tm) (k : Mv W b v W' v') (a : Ar W' b v' S') : Pq4 (Fn4 F W W') W' D b v' S' m rv L Sm tv T mv Tm ∧ Ps4 F (Fn4 F W W') W W' := by
  obtain ⟨tD, tb, tm, tvv, trv, ttv, tmv, tL, tT, tM⟩ := h.tys
  have hk : ∀ i, F i → tyB W i ≠ some 75 → tyB W i ≠ some 3 → W'.heap[i]? = W.heap[i]? := fun i hi h1 h2 => k.block i (h.lt' i hi) (fun e => h1 (by rw [e]; exact tb)) (fun e => h2 (tvv i e.symm))
  have nv : ∀ g, v'.ownBlock = some g → Fn4 F W W' g := fun g hg => by
    rcases k.new with e | e
    · exact .inl (h.fv.1 g (by rw [← e]; exact hg))
    · exact .inr ⟨e g hg, (World.ownsRow.lt a.own g hg).2⟩
  have nL : ∀ x ∈ L, ∀ g, x.1.ownBlock = some g → W'.heap[g]? = W.heap[g]? := fun x hx g hg => k.block g (h.lt' g (h.fL x hx g hg)) (ne_ty (tL x hx g hg) tb (by decide)) (fun e => h.sp x hx g hg e.symm)
  refine ⟨⟨(hk D h.fD.1 (by rw [tD]; decide) (by rw [tD]; decide)).trans h.bx, a, ⟨⟨(hk m h.fD.2.2 (by rw [tm]; decide) (by rw [tm]; decide)).trans h.mz.ma.box, ⟨row_kept4 h.mz.ma.ml.row fun i e => hk i (h.fv.2.1 i e) (by rw [trv i e]; decide) (by rw [trv i e]; decide), fun x hx => row_kept4 (h.mz.ma.ml.own x hx) fun i e => nL x hx i e⟩, h.mz.ma.lo⟩, h.mz.eq⟩,
    row_kept4 h.tr fun i e => hk i (h.fv.2.2.1 i e) (by rw [ttv i e]; decide) (by rw [ttv i e]; decide), row_kept4 h.mr fun i e => hk i (h.fv.2.2.2 i e) (by rw [tmv i e]; decide) (by rw [tmv i e]; decide),
    fun t ht => tells_kept (h.te t ht) (hk _ (h.fT t ht).1 (by rw [(tT t ht).1]; decide) (by rw [(tT t ht).1]; decide)) (hk _ (h.fT t ht).2 (by rw [(tT t ht).2]; simp) (by rw [(tT t ht).2]; simp)),
    fun t ht => ⟨row_kept4 (h.tm t ht).1 fun i e => hk i (h.fM t ht i e) (by rw [tM t ht i e]; decide) (by rw [tM t ht i e]; decide), (h.tm t ht).2⟩,
    ⟨.inl h.fD.1, .inl h.fD.2.1, .inl h.fD.2.2⟩, ⟨nv, fun g hg => .inl (h.fv.2.1 g hg), fun g hg => .inl (h.fv.2.2.1 g hg), fun g hg => .inl (h.fv.2.2.2 g hg)⟩, fun x hx g hg => .inl (h.fL x hx g hg), fun t ht => ⟨.inl (h.fT t ht).1, .inl (h.fT t ht).2⟩, fun t ht g hg => .inl (h.fM t ht g hg), Fn4.lt h.lt' k.size, fun x hx g hg => ?_⟩, Fn4.ps (fun i hi hn => k.block i hi (fun e => hn (by rw [e]; exact h.fD.2.1)) (fun e => hn (h.fv.1 i e.symm))) k.os k.tape k.output k.size⟩
  rcases k.new with e | e
  · rw [e]; exact h.sp x hx g hg
  · intro q
    have := e g q
    have := h.lt' g (h.fL x hx g hg)
    omega
/-- a step of the document's -/
theorem Pq4.docStep (h : Pq4 F W D b v S m rv L Sm tv T mv Tm) (k : Mv W m rv W' rv') (z : Mz4 0 W' m rv' L' Sm') (vs : Vs4 W L L') : Pq4 (Fn4 F W W') W' D b v S m rv' L' Sm' tv T mv Tm ∧ Ps4 F (Fn4 F W W') W W' := by
  obtain ⟨tD, tb, tm, tvv, trv, ttv, tmv, tL, tT, tM⟩ := h.tys
  have hk : ∀ i, F i → tyB W i ≠ some 48 → tyB W i ≠ some 43 → W'.heap[i]? = W.heap[i]? := fun i hi h1 h2 => k.block i (h.lt' i hi) (fun e => h1 (by rw [e]; exact tm)) (fun e => h2 (trv i e.symm))
  have nv : ∀ g, rv'.ownBlock = some g → Fn4 F W W' g := fun g hg => by
    rcases k.new with e | e
    · exact .inl (h.fv.2.1 g (by rw [← e]; exact hg))
    · exact .inr ⟨e g hg, (World.ownsRow.lt z.ma.ml.row g hg).2⟩
  refine ⟨⟨(hk D h.fD.1 (by rw [tD]; decide) (by rw [tD]; decide)).trans h.bx, ⟨(hk b h.fD.2.1 (by rw [tb]; decide) (by rw [tb]; decide)).trans h.ar.box, row_kept4 h.ar.own fun i e => hk i (h.fv.1 i e) (by rw [tvv i e]; decide) (by rw [tvv i e]; decide), h.ar.ok⟩, z,
    row_kept4 h.tr fun i e => hk i (h.fv.2.2.1 i e) (by rw [ttv i e]; decide) (by rw [ttv i e]; decide), row_kept4 h.mr fun i e => hk i (h.fv.2.2.2 i e) (by rw [tmv i e]; decide) (by rw [tmv i e]; decide),
    fun t ht => tells_kept (h.te t ht) (hk _ (h.fT t ht).1 (by rw [(tT t ht).1]; decide) (by rw [(tT t ht).1]; decide)) (hk _ (h.fT t ht).2 (by rw [(tT t ht).2]; simp) (by rw [(tT t ht).2]; simp)),
    fun t ht => ⟨row_kept4 (h.tm t ht).1 fun i e => hk i (h.fM t ht i e) (by rw [tM t ht i e]; decide) (by rw [tM t ht i e]; decide), (h.tm t ht).2⟩,
    ⟨.inl h.fD.1, .inl h.fD.2.1, .inl h.fD.2.2⟩, ⟨fun g hg => .inl (h.fv.1 g hg), nv, fun g hg => .inl (h.fv.2.2.1 g hg), fun g hg => .inl (h.fv.2.2.2 g hg)⟩, fun x hx g hg => ?_, fun t ht => ⟨.inl (h.fT t ht).1, .inl (h.fT t ht).2⟩, fun t ht g hg => .inl (h.fM t ht g hg), Fn4.lt h.lt' k.size, fun x hx g hg => ?_⟩, Fn4.ps (fun i hi hn => k.block i hi (fun e => hn (by rw [e]; exact h.fD.2.2)) (fun e => hn (h.fv.2.1 i e.symm))) k.os k.tape k.output k.size⟩
  · rcases vs x hx with ⟨y, hy, e⟩ | e
    · exact .inl (h.fL y hy g (by rw [e]; exact hg))
    · exact .inr ⟨e g hg, (World.ownsRow.lt (z.ma.ml.own x hx) g hg).2⟩
  · rcases vs x hx with ⟨y, hy, e⟩ | e
    · exact h.sp y hy g (by rw [e]; exact hg)
    · intro q
      have := e g hg
      have := h.lt' g (h.fv.1 g q)
      omega
/-- one more is told -/
theorem Pq4.toldStep (h : Pq4 F W D b v S m rv L Sm tv T mv Tm) (t : Te) (hbx : W'.heap[D]? = some (.cells #[.pointer (some ⟨b, 0, none⟩), .pointer (some ⟨m, 0, none⟩), tv', mv] 28 (0, 0))) (hr : W'.ownsRow 0 64 1 tv' (T.length + 1) (T.map fnT ++ [fnT t])) (k : Mv W D tv W' tv') (ht : TellsAt W t.m t.mb (lv 0 t.So)) (f1 : F t.m) (f2 : F t.mb) : Pq4 (Fn4 F W W') W' D b v S m rv L Sm tv' (T ++ [t]) mv Tm ∧ Ps4 F (Fn4 F W W') W W' := by
  obtain ⟨tD, tb, tm, tvv, trv, ttv, tmv, tL, tT, tM⟩ := h.tys
  have hk : ∀ i, F i → tyB W i ≠ some 28 → tyB W i ≠ some 64 → W'.heap[i]? = W.heap[i]? := fun i hi h1 h2 => k.block i (h.lt' i hi) (fun e => h1 (by rw [e]; exact tD)) (fun e => h2 (ttv i e.symm))
  have nv : ∀ g, tv'.ownBlock = some g → Fn4 F W W' g := fun g hg => by
    rcases k.new with e | e
    · exact .inl (h.fv.2.2.1 g (by rw [← e]; exact hg))
    · exact .inr ⟨e g hg, (World.ownsRow.lt hr g hg).2⟩
  have tells : ∀ t : Te, TellsAt W t.m t.mb (lv 0 t.So) → F t.m → F t.mb → TellsAt W' t.m t.mb (lv 0 t.So) := fun t ht f1 f2 => tells_kept ht (hk _ f1 (by rw [(tyB_map ht).1]; decide) (by rw [(tyB_map ht).1]; decide)) (hk _ f2 (by rw [(tyB_map ht).2]; simp) (by rw [(tyB_map ht).2]; simp))
  exact ⟨⟨hbx, ⟨(hk b h.fD.2.1 (by rw [tb]; decide) (by rw [tb]; decide)).trans h.ar.box, row_kept4 h.ar.own fun i e => hk i (h.fv.1 i e) (by rw [tvv i e]; decide) (by rw [tvv i e]; decide), h.ar.ok⟩, ⟨⟨(hk m h.fD.2.2 (by rw [tm]; decide) (by rw [tm]; decide)).trans h.mz.ma.box, ⟨row_kept4 h.mz.ma.ml.row fun i e => hk i (h.fv.2.1 i e) (by rw [trv i e]; decide) (by rw [trv i e]; decide), fun x hx => row_kept4 (h.mz.ma.ml.own x hx) fun i e => hk i (h.fL x hx i e) (by rw [tL x hx i e]; decide) (by rw [tL x hx i e]; decide)⟩, h.mz.ma.lo⟩, h.mz.eq⟩,
    by rw [List.length_append, List.map_append]; exact hr, row_kept4 h.mr fun i e => hk i (h.fv.2.2.2 i e) (by rw [tmv i e]; decide) (by rw [tmv i e]; decide),
    fun u hu => (List.mem_append.1 hu).elim (fun q => tells u (h.te u q) (h.fT u q).1 (h.fT u q).2) (fun q => by rw [List.mem_singleton.1 q]; exact tells t ht f1 f2),
    fun t ht => ⟨row_kept4 (h.tm t ht).1 fun i e => hk i (h.fM t ht i e) (by rw [tM t ht i e]; decide) (by rw [tM t ht i e]; decide), (h.tm t ht).2⟩,
    ⟨.inl h.fD.1, .inl h.fD.2.1, .inl h.fD.2.2⟩, ⟨fun g hg => .inl (h.fv.1 g hg), fun g hg => .inl (h.fv.2.1 g hg), nv, fun g hg => .inl (h.fv.2.2.2 g hg)⟩, fun x hx g hg => .inl (h.fL x hx g hg), fun u hu => (List.mem_append.1 hu).elim (fun q => ⟨.inl (h.fT u q).1, .inl (h.fT u q).2⟩) (fun q => by rw [List.mem_singleton.1 q]; exact ⟨.inl f1, .inl f2⟩), fun t ht g hg => .inl (h.fM t ht g hg), Fn4.lt h.lt' k.size, h.sp⟩, Fn4.ps (fun i hi hn => k.block i hi (fun e => hn (by rw [e]; exact h.fD.1)) (fun e => hn (h.fv.2.2.1 i e.symm))) k.os k.tape k.output k.size⟩
/-- one more is noted as moved -/
theorem Pq4.movedStep (h : Pq4 F W D b v S m rv L Sm tv T mv Tm) (t : Te) (hbx : W'.heap[D]? = some (.cells #[.pointer (some ⟨b, 0, none⟩), .pointer (some ⟨m, 0, none⟩), tv, mv'] 28 (0, 0))) (hr : W'.ownsRow 0 66 1 mv' (Tm.length + 1) (Tm.map Te.mv ++ [t.mv])) (k : Mv W D mv W' mv') (ht : W.ownsRow 0 83 2 t.mv (mdT t).length (rowsV (mdT t))) (hl : (mdT t).length ≤ 1099511627776) (f1 : ∀ g, t.mv.ownBlock = some g → F g) : Pq4 (Fn4 F W W') W' D b v S m rv L Sm tv T mv' (Tm ++ [t]) ∧ Ps4 F (Fn4 F W W') W W' := by
  obtain ⟨tD, tb, tm, tvv, trv, ttv, tmv, tL, tT, tM⟩ := h.tys
  have hk : ∀ i, F i → tyB W i ≠ some 28 → tyB W i ≠ some 66 → W'.heap[i]? = W.heap[i]? := fun i hi h1 h2 => k.block i (h.lt' i hi) (fun e => h1 (by rw [e]; exact tD)) (fun e => h2 (tmv i e.symm))
  have nv : ∀ g, mv'.ownBlock = some g → Fn4 F W W' g := fun g hg => by
    rcases k.new with e | e
    · exact .inl (h.fv.2.2.2 g (by rw [← e]; exact hg))
    · exact .inr ⟨e g hg, (World.ownsRow.lt hr g hg).2⟩
  have rows : ∀ t : Te, W.ownsRow 0 83 2 t.mv (mdT t).length (rowsV (mdT t)) → (∀ g, t.mv.ownBlock = some g → F g) → W'.ownsRow 0 83 2 t.mv (mdT t).length (rowsV (mdT t)) := fun t ht f => row_kept4 ht fun i e => hk i (f i e) (by rw [tyB_row ht e]; decide) (by rw [tyB_row ht e]; decide)
  exact ⟨⟨hbx, ⟨(hk b h.fD.2.1 (by rw [tb]; decide) (by rw [tb]; decide)).trans h.ar.box, row_kept4 h.ar.own fun i e => hk i (h.fv.1 i e) (by rw [tvv i e]; decide) (by rw [tvv i e]; decide), h.ar.ok⟩, ⟨⟨(hk m h.fD.2.2 (by rw [tm]; decide) (by rw [tm]; decide)).trans h.mz.ma.box, ⟨row_kept4 h.mz.ma.ml.row fun i e => hk i (h.fv.2.1 i e) (by rw [trv i e]; decide) (by rw [trv i e]; decide), fun x hx => row_kept4 (h.mz.ma.ml.own x hx) fun i e => hk i (h.fL x hx i e) (by rw [tL x hx i e]; decide) (by rw [tL x hx i e]; decide)⟩, h.mz.ma.lo⟩, h.mz.eq⟩,
    row_kept4 h.tr fun i e => hk i (h.fv.2.2.1 i e) (by rw [ttv i e]; decide) (by rw [ttv i e]; decide), by rw [List.length_append, List.map_append]; exact hr,
    fun t ht => tells_kept (h.te t ht) (hk _ (h.fT t ht).1 (by rw [(tT t ht).1]; decide) (by rw [(tT t ht).1]; decide)) (hk _ (h.fT t ht).2 (by rw [(tT t ht).2]; simp) (by rw [(tT t ht).2]; simp)),
    fun u hu => (List.mem_append.1 hu).elim (fun q => ⟨rows u (h.tm u q).1 (h.fM u q), (h.tm u q).2⟩) (fun q => by rw [List.mem_singleton.1 q]; exact ⟨rows t ht f1, hl⟩),
    ⟨.inl h.fD.1, .inl h.fD.2.1, .inl h.fD.2.2⟩, ⟨fun g hg => .inl (h.fv.1 g hg), fun g hg => .inl (h.fv.2.1 g hg), fun g hg => .inl (h.fv.2.2.1 g hg), nv⟩, fun x hx g hg => .inl (h.fL x hx g hg), fun t ht => ⟨.inl (h.fT t ht).1, .inl (h.fT t ht).2⟩, fun u hu => (List.mem_append.1 hu).elim (fun q g hg => .inl (h.fM u q g hg)) (fun q g hg => by rw [List.mem_singleton.1 q] at hg; exact .inl (f1 g hg)), Fn4.lt h.lt' k.size, h.sp⟩, Fn4.ps (fun i hi hn => k.block i hi (fun e => hn (by rw [e]; exact h.fD.1)) (fun e => hn (h.fv.2.2.2 i e.symm))) k.os k.tape k.output k.size⟩
/-- what was told does not hang on what the document moved -/
theorem Pq4.renote {t t' : Te} (h : Pq4 F W D b v S m rv L Sm tv (T ++ [t]) mv Tm) (h1 : t'.m = t.m) (h2 : t'.mb = t.mb) (h3 : t'.So = t.So) : Pq4 F W D b v S m rv L Sm tv (T ++ [t']) mv Tm := by
  have hf : fnT t' = fnT t := by unfold fnT; rw [h1]
  exact ⟨h.bx, h.ar, h.mz, by have := h.tr; simp only [List.length_append, List.map_append, List.map_cons, List.map_nil, List.length_cons, List.length_nil, hf] at this ⊢; exact this, h.mr,
    fun u hu => (List.mem_append.1 hu).elim (fun q => h.te u (List.mem_append.2 (.inl q))) (fun q => by rw [List.mem_singleton.1 q, h1, h2, h3]; exact h.te t (by simp)), h.tm, h.fD, h.fv, h.fL, fun u hu => (List.mem_append.1 hu).elim (fun q => h.fT u (List.mem_append.2 (.inl q))) (fun q => by rw [List.mem_singleton.1 q, h1, h2]; exact h.fT t (by simp)), h.fM, h.lt', h.sp⟩
/-- more blocks -/
theorem Pq4.more {F' : Nat → Prop} (h : Pq4 F W D b v S m rv L Sm tv T mv Tm) (hF : ∀ k, F k → F' k) (hl : ∀ k, F' k → k < W.heap.size) : Pq4 F' W D b v S m rv L Sm tv T mv Tm :=
  ⟨h.bx, h.ar, h.mz, h.tr, h.mr, h.te, h.tm, ⟨hF _ h.fD.1, hF _ h.fD.2.1, hF _ h.fD.2.2⟩, ⟨fun g hg => hF _ (h.fv.1 g hg), fun g hg => hF _ (h.fv.2.1 g hg), fun g hg => hF _ (h.fv.2.2.1 g hg), fun g hg => hF _ (h.fv.2.2.2 g hg)⟩, fun x hx g hg => hF _ (h.fL x hx g hg), fun t ht => ⟨hF _ (h.fT t ht).1, hF _ (h.fT t ht).2⟩, fun t ht g hg => hF _ (h.fM t ht g hg), hl, h.sp⟩
/-- a step of the arena, as the rows of ints see it -/
theorem Pq4.pwAr (h : Pq4 F W D b v S m rv L Sm tv T mv Tm) (k : Mv W b v W' v') (hw : ∀ g, v.ownBlock = some g → (v'.ownBlock = some g ∧ Xt S S') ∨ (v'.ownBlock ≠ some g ∧ (∃ c f, W'.heap[g]? = some (.cells c 3 f)) ∧ ∀ i, i < (flat S).length → W'.cell? ⟨g, i, none⟩ = W.cell? ⟨g, i, none⟩)) : Pw W v S W' v' S' := by
  obtain ⟨tD, tb, tm, tvv, trv, ttv, tmv, tL, tT, tM⟩ := h.tys
  refine ⟨fun i hi ht hn => ⟨k.block i hi (ne_ty ht tb (by decide)) (fun e => hn e.symm), fun q => ?_⟩, fun g hg => ?_⟩
  · rcases k.new with e | e
    · exact hn (by rw [← e]; exact q)
    · have := e i q
      omega
  · rcases hw g hg with q | ⟨e2, ⟨c, f, hc⟩, q⟩
    · exact .inl q
    · exact .inr ⟨e2, tyB_cells hc, q⟩
/-- a step of the document's, of what is told, of what is noted: the rows of ints stay -/
theorem Pq4.pwDoc (h : Pq4 F W D b v S m rv L Sm tv T mv Tm) (k : Mv W m rv W' rv') : ∀ i, i < W.heap.size → tyB W i = some 3 → W'.heap[i]? = W.heap[i]? := fun i hi ht => by
  obtain ⟨tD, tb, tm, tvv, trv, ttv, tmv, tL, tT, tM⟩ := h.tys
  exact k.block i hi (ne_ty ht tm (by decide)) (fun e => absurd (ht.symm.trans (trv i e.symm)) (by decide))
theorem Pq4.pwTold (h : Pq4 F W D b v S m rv L Sm tv T mv Tm) (k : Mv W D tv W' tv') : ∀ i, i < W.heap.size → tyB W i = some 3 → W'.heap[i]? = W.heap[i]? := fun i hi ht => by
  obtain ⟨tD, tb, tm, tvv, trv, ttv, tmv, tL, tT, tM⟩ := h.tys
  exact k.block i hi (ne_ty ht tD (by decide)) (fun e => absurd (ht.symm.trans (ttv i e.symm)) (by decide))
theorem Pq4.pwMoved (h : Pq4 F W D b v S m rv L Sm tv T mv Tm) (k : Mv W D mv W' mv') : ∀ i, i < W.heap.size → tyB W i = some 3 → W'.heap[i]? = W.heap[i]? := fun i hi ht => by
  obtain ⟨tD, tb, tm, tvv, trv, ttv, tmv, tL, tT, tM⟩ := h.tys
  exact k.block i hi (ne_ty ht tD (by decide)) (fun e => absurd (ht.symm.trans (tmv i e.symm)) (by decide))
end
end Go.Proofs.Ytbhjpahieghepaa
set_option linter.unusedSimpArgs false
set_option linter.unusedVariables false
namespace Go.Proofs.Ytbhjpahieghepaa
open Go Go.RowKit Go.Maps

/-- what a step leaves of a block that isn't the pair's -/
theorem Ps4.obj {F F' : Nat → Prop} {W W' : World} {o : Nat} {x : Obj} (p : Ps4 F F' W W') (ho : W.heap[o]? = some x) (hn : ¬ F o) : W'.heap[o]? = some x ∧ ¬ F' o := by
  have hl := (Array.getElem?_eq_some_iff.1 ho).1
  exact ⟨(p.block o hl hn).trans ho, fun q => (p.sub o q).elim hn (fun e => by omega)⟩
/-- both Drops say this -/
def DrA (b : Nat) (v : Value) (r : Int) (c : Int) (S' : List Seg) (W : World) : Prop :=
  Calls Try.prog 18 #[.pointer (some ⟨b, 0, none⟩), .int .i64 r] W fun e w' => e = .returned (.int .i64 c) ∧ Ar w' b v S' ∧ Mv W b v w' v
def DrM (m : Nat) (rv : Value) (L : List Mt) (r : Int) (c : Int) (S' : List Seg) (W : World) : Prop :=
  Calls Try.prog 19 #[.pointer (some ⟨m, 0, none⟩), .int .i64 r] W fun e w' => ∃ L', e = .returned (.int .i64 c) ∧ Mz4 0 w' m rv L' S' ∧ Mv W m rv w' rv ∧ Vs4 W L L' ∧ L'.length = L.length
theorem vs_refl (w : World) (L : List Mt) : Vs4 w L L := fun x hx => .inl ⟨x, hx, rfl⟩
theorem drop_len {S : List Seg} {r : Int} {s : Seg} (h : find S r = some s) : (flat (dropAt S r)).length = (flat S).length := by
  rw [drop_flat h, List.length_set]
theorem drop_lits : ∀ (S : List Seg) (r : Int), (dropAt S r).map Seg.lits = S.map Seg.lits
  | [], _ => rfl
  | s :: t, r => by
    unfold dropAt
    split
    · rfl
    · rw [List.map_cons, List.map_cons, drop_lits t]
theorem opObj {w : World} {a b c d e : Value} : (w.alloc (.cells #[a, b, c, d, e] 34)).heap[w.heap.size]? = some (.cells #[a, b, c, d, e] 34 (0, 0)) := World.alloc_heap_new w _
theorem op_cell {W : World} {o : Nat} {a b c d e : Value} (h : W.heap[o]? = some (.cells #[a, b, c, d, e] 34 (0, 0))) : W.cell? ⟨o, 0, none⟩ = some a ∧ W.cell? ⟨o, 1, none⟩ = some b ∧ W.cell? ⟨o, 2, none⟩ = some c ∧ W.cell? ⟨o, 3, none⟩ = some d ∧ W.cell? ⟨o, 4, none⟩ = some e :=
  ⟨by simp [World.cell?, h], by simp [World.cell?, h], by simp [World.cell?, h], by simp [World.cell?, h], by simp [World.cell?, h]⟩
set_option maxRecDepth 100000 in
set_option maxHeartbeats 1600000 in
theorem plays4_any (F : Nat → Prop) (D b m : Nat) (v rv tv mv : Value) (S : List Seg) (L : List Mt) (T : List Te) (r : Int) (q1 q3 q4 : Value) (w : World) (h : Pr4 F w D b v S m rv L tv mv T) (hl : (flat S).length ≤ 1099511627776) :
    Calls Try.prog 5 #[.pointer (some ⟨D, 0, none⟩), .agg #[.int .i64 4, q1, .int .i64 r, q3, q4]] w fun e w' => Pl4 F D b m v S L T 0 w e w' := by
  obtain ⟨c, S', hS', hA, hM⟩ : ∃ (c : Int) (S' : List Seg), ((flat S').length = (flat S).length ∧ Xt S S') ∧ (∀ W, Ar W b v S → DrA b v r c S' W) ∧ (∀ W, Mz4 0 W m rv L S → DrM m rv L r c S' W) := by
    cases hf : find S r with
    | none =>
      refine ⟨2, S, ⟨rfl, Xt.refl S⟩, fun W hW => (arDrop_none b v S r W hW (by omega) hf).mono fun e w' ⟨he, hw⟩ => ⟨he, by rw [hw]; exact hW, by rw [hw]; exact Mv.refl _ _ _⟩, fun W hW => (mDrop_any 0 m rv L S r W hW).mono fun e w' hh => ?_⟩
      rcases hh with ⟨_, he, hw⟩ | ⟨s, hs, _⟩
      · exact ⟨L, he, by rw [hw]; exact hW, by rw [hw]; exact Mv.refl _ _ _, vs_refl _ _, rfl⟩
      · rw [hf] at hs; cases hs
    | some s =>
      refine ⟨0, dropAt S r, ⟨drop_len hf, ⟨dropAt S r, [], (List.append_nil _).symm, drop_lits S r⟩⟩, fun W hW => arDrop_some b v S r s W hW (by omega) hf, fun W hW => (mDrop_any 0 m rv L S r W hW).mono fun e w' hh => ?_⟩
      rcases hh with ⟨hn, _⟩ | ⟨s', hs, L', he, hz, hmv, hvs, hll⟩
      · rw [hf] at hn; cases hn
      · exact ⟨L', he, hz, hmv, hvs, hll⟩
  have hb0 := below_box w (.cells #[.int .i64 4, q1, .int .i64 r, q3, q4] 34)
  have hnF : ¬ F w.heap.size := fun q => absurd (h.lt' _ q) (Nat.lt_irrefl _)
  have ho0 := opObj (w := w) (a := .int .i64 4) (b := q1) (c := .int .i64 r) (d := q3) (e := q4)
  have HI0 : Hid (Pr4 F (w.alloc (.cells #[.int .i64 4, q1, .int .i64 r, q3, q4] 34)) D b v S m rv L tv mv T ∧ ¬ F w.heap.size ∧ (w.alloc (.cells #[.int .i64 4, q1, .int .i64 r, q3, q4] 34)).heap[w.heap.size]? = some (.cells #[.int .i64 4, q1, .int .i64 r, q3, q4] 34 (0, 0)) ∧ Ps4 F F w (w.alloc (.cells #[.int .i64 4, q1, .int .i64 r, q3, q4] 34)) ∧ Below w.heap.size w (w.alloc (.cells #[.int .i64 4, q1, .int .i64 r, q3, q4] 34))) := ⟨h.below hb0, hnF, ho0, Ps4.of_below hb0, hb0⟩
  have HVl : Hid (∀ g, v.ownBlock = some g → g < w.heap.size) := fun g hg => h.lt' g (h.fv.1 g hg)
  have HA : Hid (∀ W, Ar W b v S → DrA b v r c S' W) := hA
  have HM : Hid (∀ W, Mz4 0 W m rv L S → DrM m rv L r c S' W) := hM
  have HL : Hid ((flat S').length = (flat S).length ∧ Xt S S') := hS'
  obtain ⟨k0, -, k2, -, -⟩ := op_cell ho0
  have hcc : (c == c) = true := beq_self_eq_true _
  clear h hb0 hA hM hS' ho0 hnF
  go_enter Try.func5, Try.ntmps5
  go_upto_region 14 with fail
  generalize w.alloc (.cells #[.int .i64 4, q1, .int .i64 r, q3, q4] 34) = W0 at *
  have HW1 : Hid (Below W0.heap.size W0 W0.drew) := (Below.refl _ _).drew
  have HQ1 : Hid (Pr4 F W0.drew D b v S m rv L tv mv T) := HI0.out.1.below HW1.out
  have HS1 : Hid (W0.drew.cell? ⟨w.heap.size, 2, none⟩ = some (.int .i64 r) ∧ W0.drew.cell? ⟨D, 0, none⟩ = some (.pointer (some ⟨b, 0, none⟩))) := ⟨k2, HQ1.out.cells.1⟩
  have HA1 : Hid (DrA b v r c S' W0.drew) := HA.out _ HQ1.out.ar
  clear k0 k2
  go_region_held (fun W' => W'.cell? ⟨w.heap.size, 2, none⟩ = some (.int .i64 r) ∧ W'.cell? ⟨D, 0, none⟩ = some (.pointer (some ⟨b, 0, none⟩))) (first | with_reducible exact HS1.out | with_reducible exact G1c.out) (first
    | (go_at_call 18; (refine Calls.mono HA1.out ?_); rintro e w1 ⟨rfl, a1, m1⟩; have g1 := HQ1.out.arStep m1 a1; have o1 := g1.2.obj HI0.out.2.2.1 HI0.out.2.1; have G1 : Hid (Pq4 (Fn4 F W0.drew w1) w1 D b v S' m rv L S tv T mv T ∧ Ps4 F (Fn4 F W0.drew w1) w w1 ∧ w1.heap[w.heap.size]? = some (.cells #[.int .i64 4, q1, .int .i64 r, q3, q4] 34 (0, 0)) ∧ ¬ Fn4 F W0.drew w1 w.heap.size ∧ Pw w v S w1 v S') := ⟨g1.1, (HI0.out.2.2.2.1.trans (Ps4.of_below HW1.out)).trans g1.2, o1.1, o1.2, Pw.after (Below.step HI0.out.2.2.2.2 HW1.out) (HQ1.out.pwAr m1 (fun g hg => .inl ⟨hg, HL.out.2⟩)) HVl.out⟩; have G1c : Hid (w1.cell? ⟨w.heap.size, 2, none⟩ = some (.int .i64 r) ∧ w1.cell? ⟨D, 0, none⟩ = some (.pointer (some ⟨b, 0, none⟩))) := ⟨(op_cell o1.1).2.2.1, g1.1.cells.1⟩; clear a1 m1 g1 o1))
  go_upto_region 15 with fail
  have HW2 : Hid (Below w1.heap.size w1 w1.drew) := (Below.refl _ _).drew
  have HQ2 : Hid (Pq4 (Fn4 F W0.drew w1) w1.drew D b v S' m rv L S tv T mv T) := G1.out.1.below HW2.out
  have HS2 : Hid (w1.drew.cell? ⟨w.heap.size, 2, none⟩ = some (.int .i64 r) ∧ w1.drew.cell? ⟨D, 1, none⟩ = some (.pointer (some ⟨m, 0, none⟩))) := ⟨(op_cell G1.out.2.2.1).2.2.1, HQ2.out.cells.2.1⟩
  have HM2 : Hid (DrM m rv L r c S' w1.drew) := HM.out _ HQ2.out.mz
  go_region_held (fun W' => W'.cell? ⟨w.heap.size, 2, none⟩ = some (.int .i64 r) ∧ W'.cell? ⟨D, 1, none⟩ = some (.pointer (some ⟨m, 0, none⟩))) (first | with_reducible exact HS2.out | with_reducible exact G2c.out) (first
    | (go_at_call 19; (refine Calls.mono HM2.out ?_); rintro e w2 ⟨L', rfl, z2, m2, vs2, ll2⟩; have g2 := HQ2.out.docStep m2 z2 vs2; have o2 := g2.2.obj G1.out.2.2.1 G1.out.2.2.2.1; have G2 : Hid (Pl4 F D b m v S L T 0 w (.returned (.bool true)) w2) := ⟨_, _, _, _, _, _, _, _, rfl, g2.1, (G1.out.2.1.trans (Ps4.of_below HW2.out)).trans g2.2, by rw [HL.out.1]; exact Nat.le_refl _, by rw [ll2]; exact Nat.le_succ _, Nat.le_succ _, (G1.out.2.2.2.2.step (fun k hk _ => HW2.out.block k hk) G1.out.2.1.size).step (HQ2.out.pwDoc m2) (Nat.le_trans G1.out.2.1.size HW2.out.size)⟩; have G2c : Hid (w2.cell? ⟨w.heap.size, 2, none⟩ = some (.int .i64 r) ∧ w2.cell? ⟨D, 1, none⟩ = some (.pointer (some ⟨m, 0, none⟩))) := ⟨(op_cell o2.1).2.2.1, g2.1.cells.2.1⟩; clear z2 m2 vs2 ll2 g2 o2))
  go_wp2
  go_ret
  exact G2.out
end Go.Proofs.Ytbhjpahieghepaa
set_option linter.unusedSimpArgs false
set_option linter.unusedVariables false
namespace Go.Proofs.Ytbhjpahieghepaa
open Go Go.RowKit Go.Maps

theorem Ps4.bel {F F' : Nat → Prop} {w0 w W : World} (p : Ps4 F F' w W) (h : Below w0.heap.size w0 w) (hF : ∀ k, F k → w0.heap.size ≤ k) : Below w0.heap.size w0 W :=
  ⟨p.os.trans h.os, p.tape.trans h.tape, p.output.trans h.output, Nat.le_trans h.size p.size, fun k hk => (p.block k (Nat.lt_of_lt_of_le hk h.size) (fun q => absurd (hF k q) (by omega))).trans (h.block k hk)⟩
/-- what becomes of the words' block -/
def Wv (w : World) (v : Value) (S : List Seg) (w' : World) (v' : Value) (S' : List Seg) : Prop := ∀ g, v.ownBlock = some g → (v'.ownBlock = some g ∧ Xt S S') ∨ (v'.ownBlock ≠ some g ∧ (∃ c f, w'.heap[g]? = some (.cells c 3 f)) ∧ ∀ i, i < (flat S).length → w'.cell? ⟨g, i, none⟩ = w.cell? ⟨g, i, none⟩)
theorem Wv.of_put {w w' : World} {b : Nat} {v v' : Value} {S : List Seg} {s : Seg} (h : Ar w b v S) (m : Mv w b v w' v') (k : Wo w v (flat S).length w' v') : Wv w v S w' v' (S ++ [s]) := fun g hg => by
  by_cases e : v'.ownBlock = v.ownBlock
  · exact .inl ⟨e.trans hg, S, [s], rfl, rfl⟩
  · have hn := m.new.resolve_left e
    have hgl := (World.ownsRow.lt h.own g hg).2
    exact .inr ⟨fun q => by have := hn g q; omega, (k.resolve_left e) g hg⟩
def PuA (b : Nat) (v : Value) (S : List Seg) (l : Bool) (c0 c1 : Int) (S' : List Seg) (W : World) (u : Value) : Prop :=
  Calls Try.prog 11 #[.pointer (some ⟨b, 0, none⟩), u, .bool l] W fun e w' => ∃ v', e = .returned (.tuple #[.int .i64 c0, .int .i64 c1]) ∧ Ar w' b v' S' ∧ Mv W b v w' v' ∧ Wv W v S w' v' S'
def PuM (m : Nat) (rv : Value) (L : List Mt) (l : Bool) (c0 c1 : Int) (S' : List Seg) (W : World) (u : Value) : Prop :=
  Calls Try.prog 13 #[.pointer (some ⟨m, 0, none⟩), u, .bool l] W fun e w' => ∃ rv' L', e = .returned (.tuple #[.int .i64 c0, .int .i64 c1]) ∧ Mz4 0 w' m rv' L' S' ∧ Mv W m rv w' rv' ∧ Vs4 W L L' ∧ L'.length ≤ L.length + 1
theorem mPut_bad (m : Nat) (vc : Value) (c : List Int) (l : Bool) (w : World) (hc : Rd w vc c) (hs : c.all fmd = false) :
    Calls Try.prog 13 #[.pointer (some ⟨m, 0, none⟩), vc, .bool l] w fun e w' => e = .returned (.tuple #[.int .i64 0, .int .i64 1]) ∧ w' = w := by
  have HSd : Hid (Calls Try.prog 32 #[vc] w fun e w' => e = .returned (.bool false) ∧ w' = w) := by
    have h5 := rSound_any vc c w hc
    rw [hs] at h5
    exact h5
  clear hc hs
  go_enter Try.func13, Try.ntmps13
  go_wp2_with fail
  refine HSd.out.mono ?_
  rintro e w0 ⟨rfl, ew⟩
  have ew := ew.symm
  subst ew
  go_wp2
  go_returns
  exact ⟨rfl, rfl⟩
theorem vs_app {w : World} {L : List Mt} {u : Value} {x : Mc} (h : ∀ g, u.ownBlock = some g → w.heap.size ≤ g) : Vs4 w L (L ++ [(u, x)]) := fun y hy => by
  rcases List.mem_append.1 hy with e | e
  · exact .inl ⟨y, e, rfl⟩
  · rw [List.mem_singleton.1 e]; exact .inr h
set_option maxRecDepth 100000 in
set_option maxHeartbeats 1600000 in
theorem plays1_any (F : Nat → Prop) (D b m : Nat) (v rv tv mv : Value) (S : List Seg) (L : List Mt) (T : List Te) (q1 q2 q3 : Value) (zs : List Int) (l : Bool) (w : World) (h : Pr4 F w D b v S m rv L tv mv T) (hl : (flat S).length ≤ 1099511627776) (hL : L.length ≤ 1099511627776) (hzl : zs.length ≤ 1099511627776) (hZ : ∀ (F' : Nat → Prop) W, Ps4 F F' w W → Rd W q3 zs) :
    Calls Try.prog 5 #[.pointer (some ⟨D, 0, none⟩), .agg #[.int .i64 1, q1, q2, q3, .bool l]] w fun e w' => Pl4 F D b m v S L T (zs.length + 1) w e w' := by
  obtain ⟨c0, c1, S', hS', hA, hM⟩ : ∃ (c0 c1 : Int) (S' : List Seg), (flat S').length ≤ (flat S).length + (zs.length + 1) ∧ (∀ W u, Ar W b v S → Rd W u zs → (∀ g, u.ownBlock = some g → g ≠ b ∧ some g ≠ v.ownBlock) → PuA b v S l c0 c1 S' W u) ∧ (∀ W u, Mz4 0 W m rv L S → Rd W u zs → PuM m rv L l c0 c1 S' W u) := by
    cases hs : zs.all fmd with
    | false =>
      exact ⟨0, 1, S, by omega, fun W u hW hu _ => (put_bad _ u zs l W hu hs).mono fun e w' ⟨he, hw⟩ => ⟨v, he, by rw [hw]; exact hW, by rw [hw]; exact Mv.refl _ _ _, fun g hg => .inl ⟨hg, Xt.refl S⟩⟩, fun W u hW hu => (mPut_bad m u zs l W hu hs).mono fun e w' ⟨he, hw⟩ => ⟨rv, L, he, by rw [hw]; exact hW, by rw [hw]; exact Mv.refl _ _ _, vs_refl _ _, by omega⟩⟩
    | true =>
      exact ⟨(flat S).length, 0, S ++ [⟨zs, l, true⟩], by rw [flat_one]; simp, fun W u hW hu hsep => (arPut2_any b v u S zs l W hW hu hsep hs (by omega)).mono fun e w' ⟨he, v', a, k, o⟩ => ⟨v', he, a, k, Wv.of_put hW k o⟩, fun W u hW hu => (mPut_any 0 m rv u L S zs l W hW hu hs hl hL (Nat.zero_le _)).mono fun e w' ⟨he, rv', x, z, k, hx⟩ => ⟨rv', _, he, z, k, vs_app hx, by simp⟩⟩
  have hb0 := below_box w (.cells #[.int .i64 1, q1, q2, q3, .bool l] 34)
  have hnF : ¬ F w.heap.size := fun q => absurd (h.lt' _ q) (Nat.lt_irrefl _)
  have ho0 := opObj (w := w) (a := .int .i64 1) (b := q1) (c := q2) (d := q3) (e := .bool l)
  have HLt : Hid (∀ k, F k → k < w.heap.size) := h.lt'
  have HI0 : Hid (Pr4 F (w.alloc (.cells #[.int .i64 1, q1, q2, q3, .bool l] 34)) D b v S m rv L tv mv T ∧ ¬ F w.heap.size ∧ (w.alloc (.cells #[.int .i64 1, q1, q2, q3, .bool l] 34)).heap[w.heap.size]? = some (.cells #[.int .i64 1, q1, q2, q3, .bool l] 34 (0, 0)) ∧ Ps4 F F w (w.alloc (.cells #[.int .i64 1, q1, q2, q3, .bool l] 34)) ∧ Below w.heap.size w (w.alloc (.cells #[.int .i64 1, q1, q2, q3, .bool l] 34))) := ⟨h.below hb0, hnF, ho0, Ps4.of_below hb0, hb0⟩
  have HVl : Hid (∀ g, v.ownBlock = some g → g < w.heap.size) := fun g hg => h.lt' g (h.fv.1 g hg)
  have HA : Hid (∀ W u, Ar W b v S → Rd W u zs → (∀ g, u.ownBlock = some g → g ≠ b ∧ some g ≠ v.ownBlock) → PuA b v S l c0 c1 S' W u) := hA
  have HM : Hid (∀ W u, Mz4 0 W m rv L S → Rd W u zs → PuM m rv L l c0 c1 S' W u) := hM
  have HL : Hid ((flat S').length ≤ (flat S).length + (zs.length + 1)) := hS'
  have HZ : Hid (∀ (F' : Nat → Prop) W, Ps4 F F' w W → Rd W q3 zs) := hZ
  have H8 : Hid (zs.length * 8 ≤ 140737488351232) := (hZ F w (Ps4.of_below (Below.refl _ _))).len
  obtain ⟨k0, -, -, k3, k4⟩ := op_cell ho0
  have hcc0 : (c0 == c0) = true := beq_self_eq_true _
  have hcc1 : (c1 == c1) = true := beq_self_eq_true _
  clear h hb0 hA hM hS' ho0 hnF hZ
  go_enter Try.func5, Try.ntmps5
  go_upto_region 3 with fail
  generalize w.alloc (.cells #[.int .i64 1, q1, q2, q3, .bool l] 34) = W0 at *
  have HW1 : Hid (Below W0.heap.size W0 W0.drew) := (Below.refl _ _).drew
  have HQ1 : Hid (Pr4 F W0.drew D b v S m rv L tv mv T) := HI0.out.1.below HW1.out
  have HP1 : Hid (Ps4 F F w W0.drew) := HI0.out.2.2.2.1.trans (Ps4.of_below HW1.out)
  have HS1 : Hid (W0.drew.cell? ⟨w.heap.size, 3, none⟩ = some q3 ∧ W0.drew.cell? ⟨w.heap.size, 4, none⟩ = some (.bool l) ∧ W0.drew.cell? ⟨D, 0, none⟩ = some (.pointer (some ⟨b, 0, none⟩))) := ⟨k3, k4, HQ1.out.cells.1⟩
  have HCo : Hid (Calls Try.prog 12 #[q3] W0.drew fun e w' => ∃ v', e = .returned v' ∧ Own W0.drew.heap.size w' v' zs ∧ Below W0.drew.heap.size W0.drew w') := copied4_any q3 zs W0.drew (HZ.out _ _ HP1.out)
  clear k0 k3 k4
  go_region_held (fun W' => W'.cell? ⟨w.heap.size, 3, none⟩ = some q3 ∧ W'.cell? ⟨w.heap.size, 4, none⟩ = some (.bool l) ∧ W'.cell? ⟨D, 0, none⟩ = some (.pointer (some ⟨b, 0, none⟩))) (first | with_reducible exact HS1.out | with_reducible exact G1c.out | with_reducible exact G2c.out) (first
    | (go_at_call 12; (refine Calls.mono HCo.out ?_); rintro e w1 ⟨u, rfl, ou, bu⟩; have G1 : Hid (Pr4 F w1 D b v S m rv L tv mv T ∧ Ps4 F F w w1 ∧ w1.heap[w.heap.size]? = some (.cells #[.int .i64 1, q1, q2, q3, .bool l] 34 (0, 0)) ∧ Below w.heap.size w w1) := ⟨HQ1.out.below bu, HP1.out.trans (Ps4.of_below bu), ((Ps4.of_below bu).obj HI0.out.2.2.1 HI0.out.2.1).1, Below.step (Below.step HI0.out.2.2.2.2 HW1.out) bu⟩; have HA1 : Hid (PuA b v S l c0 c1 S' w1 u) := HA.out w1 u G1.out.1.ar (ou.rd H8.out) (fun g hg => by (have hg1 := (World.ownsRow.lt ou g hg).1); (have hg2 : w.heap.size ≤ g := Nat.le_trans HP1.out.size hg1); exact ⟨fun q => by (have hq := HLt.out b HQ1.out.fD.2.1); omega, fun q => by (have hq := HLt.out g (HQ1.out.fv.1 g q.symm)); omega⟩); have G1c : Hid (w1.cell? ⟨w.heap.size, 3, none⟩ = some q3 ∧ w1.cell? ⟨w.heap.size, 4, none⟩ = some (.bool l) ∧ w1.cell? ⟨D, 0, none⟩ = some (.pointer (some ⟨b, 0, none⟩))) := ⟨(op_cell G1.out.2.2.1).2.2.2.1, (op_cell G1.out.2.2.1).2.2.2.2, G1.out.1.cells.1⟩; clear ou bu)
    | (go_at_call 11; (refine Calls.mono HA1.out ?_); rintro e w2 ⟨v', rfl, a1, m1, wv1⟩; have g1 := G1.out.1.arStep m1 a1; have o1 := g1.2.obj G1.out.2.2.1 HI0.out.2.1; have G2 : Hid (Pq4 (Fn4 F w1 w2) w2 D b v' S' m rv L S tv T mv T ∧ Ps4 F (Fn4 F w1 w2) w w2 ∧ w2.heap[w.heap.size]? = some (.cells #[.int .i64 1, q1, q2, q3, .bool l] 34 (0, 0)) ∧ ¬ Fn4 F w1 w2 w.heap.size ∧ Pw w v S w2 v' S') := ⟨g1.1, G1.out.2.1.trans g1.2, o1.1, o1.2, Pw.after G1.out.2.2.2 (G1.out.1.pwAr m1 wv1) HVl.out⟩; have G2c : Hid (w2.cell? ⟨w.heap.size, 3, none⟩ = some q3 ∧ w2.cell? ⟨w.heap.size, 4, none⟩ = some (.bool l) ∧ w2.cell? ⟨D, 0, none⟩ = some (.pointer (some ⟨b, 0, none⟩))) := ⟨(op_cell o1.1).2.2.2.1, (op_cell o1.1).2.2.2.2, g1.1.cells.1⟩; clear a1 m1 g1 o1 wv1))
  go_upto_region 4 with fail
  have HW2 : Hid (Below w2.heap.size w2 w2.drew) := (Below.refl _ _).drew
  have HQ2 : Hid (Pq4 (Fn4 F w1 w2) w2.drew D b v' S' m rv L S tv T mv T) := G2.out.1.below HW2.out
  have HS2 : Hid (w2.drew.cell? ⟨w.heap.size, 3, none⟩ = some q3 ∧ w2.drew.cell? ⟨w.heap.size, 4, none⟩ = some (.bool l) ∧ w2.drew.cell? ⟨D, 1, none⟩ = some (.pointer (some ⟨m, 0, none⟩))) := ⟨(op_cell G2.out.2.2.1).2.2.2.1, (op_cell G2.out.2.2.1).2.2.2.2, HQ2.out.cells.2.1⟩
  have HM2 : Hid (PuM m rv L l c0 c1 S' w2.drew q3) := HM.out _ _ HQ2.out.mz (HZ.out _ _ (G2.out.2.1.trans (Ps4.of_below HW2.out)))
  go_region_held (fun W' => W'.cell? ⟨w.heap.size, 3, none⟩ = some q3 ∧ W'.cell? ⟨w.heap.size, 4, none⟩ = some (.bool l) ∧ W'.cell? ⟨D, 1, none⟩ = some (.pointer (some ⟨m, 0, none⟩))) (first | with_reducible exact HS2.out | with_reducible exact G3c.out) (first
    | (go_at_call 13; (refine Calls.mono HM2.out ?_); rintro e w3 ⟨rv', L', rfl, z2, m2, vs2, ll2⟩; have g2 := HQ2.out.docStep m2 z2 vs2; have o2 := g2.2.obj G2.out.2.2.1 G2.out.2.2.2.1; have G3 : Hid (Pl4 F D b m v S L T (zs.length + 1) w (.returned (.bool true)) w3) := ⟨_, _, _, _, _, _, _, _, rfl, g2.1, (G2.out.2.1.trans (Ps4.of_below HW2.out)).trans g2.2, HL.out, ll2, Nat.le_succ _, (G2.out.2.2.2.2.step (fun k hk _ => HW2.out.block k hk) G2.out.2.1.size).step (HQ2.out.pwDoc m2) (Nat.le_trans G2.out.2.1.size HW2.out.size)⟩; have G3c : Hid (w3.cell? ⟨w.heap.size, 3, none⟩ = some q3 ∧ w3.cell? ⟨w.heap.size, 4, none⟩ = some (.bool l) ∧ w3.cell? ⟨D, 1, none⟩ = some (.pointer (some ⟨m, 0, none⟩))) := ⟨(op_cell o2.1).2.2.2.1, (op_cell o2.1).2.2.2.2, g2.1.cells.2.1⟩; clear z2 m2 vs2 ll2 g2 o2))
  go_wp2
  go_ret
  exact G3.out
end Go.Proofs.Ytbhjpahieghepaa
set_option linter.unusedSimpArgs false
set_option linter.unusedVariables false
namespace Go.Proofs.Ytbhjpahieghepaa
open Go Go.RowKit Go.Maps

theorem infoF4 : (Try.prog.info? 64).map (fun i => (i.zero, i.size, i.bytes)) = some (some .nilFunc, 1, 8) := by kernel_rfl
theorem infoN4 : (Try.prog.info? 66).map (fun i => (i.zero, i.size, i.bytes)) = some (some (.slice none 0 0), 1, 24) := by kernel_rfl
theorem undF4 : Try.prog.underlying 25 = some (.slice 64) := by kernel_rfl
theorem undN4 : Try.prog.underlying 26 = some (.slice 66) := by kernel_rfl
theorem fn_nil4 (t : Te) (w : World) : (binOp BinOp.eql 64 (fnT t) Value.nilFunc).run Try.prog w = .ok (.bool false) w := by rfl
theorem one_new4 (w : World) (x : Value) (t : TypeId) : ∀ j y, [x][j]? = some y → (w.alloc (.cells #[x] t)).cell? ((⟨w.heap.size, 0, none⟩ : Addr).add j) = some y := fun j y hy => by
  have hh := World.alloc_heap_new w (.cells #[x] t)
  rw [Addr.add_lit]
  show (match (w.alloc (.cells #[x] t)).heap[w.heap.size]? with | some (Obj.cells c elem frozen) => c[0 + j]? | x => none) = _
  rw [hh, Nat.zero_add]
  match j, hy with
  | 0, hy => simpa using hy
theorem mvd4_len : ∀ (l : List Mc) (q : Int), (mvd4 q l).length = l.length
  | [], _ => rfl
  | x :: r, q => by simp [mvd4, mvd4_len r]
theorem md_len (S : List Seg) : (mvd4 0 (live4 (plc 0 S))).length ≤ S.length := by
  rw [mvd4_len]
  have := List.length_filter_le (fun x : Mc => x.live) (plc 0 S)
  rw [plc_len] at this
  exact this
theorem flat_swp_le : ∀ S : List Seg, (flat (swp S)).length ≤ (flat S).length
  | [] => Nat.le_refl _
  | s :: r => by
    have ih := flat_swp_le r
    unfold swp at ih ⊢
    rw [List.filter_cons]
    cases s.live
    · simp only [Bool.false_eq_true, if_false, flat, List.length_cons, List.length_append]; omega
    · simp only [if_true, flat, List.length_cons, List.length_append]; omega
section
variable {F : Nat → Prop} {w1 w5 : World} {D b : Nat} {v : Value} {S Sm : List Seg} {m : Nat} {rv : Value} {L : List Mt} {tv tv' mv mv' : Value} {T Tm : List Te}
theorem told_fin (h : Pq4 F w1 D b v S m rv L Sm tv T mv Tm) (t : Te) (ht : TellsAt w1 t.m t.mb (lv 0 t.So)) (f1 : F t.m) (f2 : F t.mb) (own5 : w5.ownsRow 0 64 1 tv' (T.length + 1) (T.map fnT ++ [fnT t])) (ap : Ap (w1.alloc (.cells #[fnT t] 64)) tv w5 tv') :
    Pq4 (Fn4 F (w1.alloc (.cells #[fnT t] 64)) (w5.setCell ⟨D, 2, none⟩ tv')) (w5.setCell ⟨D, 2, none⟩ tv') D b v S m rv L Sm tv' (T ++ [t]) mv Tm ∧ Ps4 F (Fn4 F (w1.alloc (.cells #[fnT t] 64)) (w5.setCell ⟨D, 2, none⟩ tv')) w1 (w5.setCell ⟨D, 2, none⟩ tv') ∧ w5.cell? ⟨D, 2, none⟩ = some tv ∧ w5.frozen? ⟨D, 2, none⟩ = false ∧ ∀ i, i < w1.heap.size → tyB w1 i = some 3 → (w5.setCell ⟨D, 2, none⟩ tv').heap[i]? = w1.heap[i]? := by
  have hb := below_box w1 (.cells #[fnT t] 64)
  have hA := h.below hb
  have tA := tells_kept ht (hb.block _ (h.lt' _ f1)) (hb.block _ (h.lt' _ f2))
  generalize w1.alloc (.cells #[fnT t] 64) = wA at *
  have hD5 : w5.heap[D]? = some (.cells #[.pointer (some ⟨b, 0, none⟩), .pointer (some ⟨m, 0, none⟩), tv, mv] 28 (0, 0)) := (ap.grown.block D (hA.lt' D hA.fD.1) (fun e => absurd ((hA.tys.2.2.2.2.2.1 D e.symm).symm.trans hA.tys.1) (by decide))).trans hA.bx
  have hk : Mv wA D tv (w5.setCell ⟨D, 2, none⟩ tv') tv' := (Mv.ap (b := D) ap).trans (Mv.set 2 tv')
  have hr : (w5.setCell ⟨D, 2, none⟩ tv').ownsRow 0 64 1 tv' (T.length + 1) (T.map fnT ++ [fnT t]) := row_kept4 own5 fun k e => (grown_set w5 ⟨D, 2, none⟩ tv').block k (World.ownsRow.lt own5 k e).2 (by intro q; injection q with q; subst q; exact absurd ((tyB_row own5 e).symm.trans (tyB_cells hD5)) (by decide))
  have hs := hA.toldStep t (set_heap4 hD5 2 tv') hr hk tA f1 f2
  exact ⟨hs.1, (Ps4.of_below hb).trans hs.2, by simp [World.cell?, hD5], by simp [World.frozen?, hD5], fun i hi ht => (hA.pwTold hk i (Nat.lt_of_lt_of_le hi hb.size) (by unfold tyB at ht ⊢; rw [hb.block i hi]; exact ht)).trans (hb.block i hi)⟩
theorem moved_fin (h : Pq4 F w1 D b v S m rv L Sm tv T mv Tm) (t : Te) (ht : w1.ownsRow 0 83 2 t.mv (mdT t).length (rowsV (mdT t))) (hl : (mdT t).length ≤ 1099511627776) (f1 : ∀ g, t.mv.ownBlock = some g → F g) (own5 : w5.ownsRow 0 66 1 mv' (Tm.length + 1) (Tm.map Te.mv ++ [t.mv])) (ap : Ap (w1.alloc (.cells #[t.mv] 66)) mv w5 mv') :
    Pq4 (Fn4 F (w1.alloc (.cells #[t.mv] 66)) (w5.setCell ⟨D, 3, none⟩ mv')) (w5.setCell ⟨D, 3, none⟩ mv') D b v S m rv L Sm tv T mv' (Tm ++ [t]) ∧ Ps4 F (Fn4 F (w1.alloc (.cells #[t.mv] 66)) (w5.setCell ⟨D, 3, none⟩ mv')) w1 (w5.setCell ⟨D, 3, none⟩ mv') ∧ w5.cell? ⟨D, 3, none⟩ = some mv ∧ w5.frozen? ⟨D, 3, none⟩ = false ∧ ∀ i, i < w1.heap.size → tyB w1 i = some 3 → (w5.setCell ⟨D, 3, none⟩ mv').heap[i]? = w1.heap[i]? := by
  have hb := below_box w1 (.cells #[t.mv] 66)
  have hA := h.below hb
  have tA := row_kept4 ht fun k e => hb.block k (h.lt' k (f1 k e))
  generalize w1.alloc (.cells #[t.mv] 66) = wA at *
  have hD5 : w5.heap[D]? = some (.cells #[.pointer (some ⟨b, 0, none⟩), .pointer (some ⟨m, 0, none⟩), tv, mv] 28 (0, 0)) := (ap.grown.block D (hA.lt' D hA.fD.1) (fun e => absurd ((hA.tys.2.2.2.2.2.2.1 D e.symm).symm.trans hA.tys.1) (by decide))).trans hA.bx
  have hk : Mv wA D mv (w5.setCell ⟨D, 3, none⟩ mv') mv' := (Mv.ap (b := D) ap).trans (Mv.set 3 mv')
  have hr : (w5.setCell ⟨D, 3, none⟩ mv').ownsRow 0 66 1 mv' (Tm.length + 1) (Tm.map Te.mv ++ [t.mv]) := row_kept4 own5 fun k e => (grown_set w5 ⟨D, 3, none⟩ mv').block k (World.ownsRow.lt own5 k e).2 (by intro q; injection q with q; subst q; exact absurd ((tyB_row own5 e).symm.trans (tyB_cells hD5)) (by decide))
  have hs := hA.movedStep t (set_heap4 hD5 3 mv') hr hk tA hl f1
  exact ⟨hs.1, (Ps4.of_below hb).trans hs.2, by simp [World.cell?, hD5], by simp [World.frozen?, hD5], fun i hi ht => (hA.pwMoved hk i (Nat.lt_of_lt_of_le hi hb.size) (by unfold tyB at ht ⊢; rw [hb.block i hi]; exact ht)).trans (hb.block i hi)⟩
theorem tells_lt {W : World} {m mb : Nat} {l : LvL} (h : TellsAt W m mb l) : m < W.heap.size ∧ mb < W.heap.size := by
  obtain ⟨n, Dm, ⟨es, clock, e1, e2⟩, hT⟩ := h.map
  exact ⟨(Array.getElem?_eq_some_iff.1 h.box).1, (Array.getElem?_eq_some_iff.1 e1).1⟩
end
end Go.Proofs.Ytbhjpahieghepaa
set_option linter.unusedSimpArgs false
set_option linter.unusedVariables false
namespace Go.Proofs.Ytbhjpahieghepaa
open Go Go.RowKit Go.Maps

theorem sweep_fin {F F2 : Nat → Prop} {w W6 w7 : World} {D b m tm tb c7 mc : Nat} {v v1 lv7 tv5 : Value} {m7 ma : Option Addr} {S : List Seg} {L L7 : List Mt} {T : List Te} (p : Ps4 F F2 w W6)
    (g7 : Pq4 (Fn4 F2 W6 w7) w7 D b v1 (swp S) m lv7 L7 (swp S) tv5 (T ++ [⟨tm, tb, .slice none 0 0, S⟩]) (.slice ma T.length mc) T ∧ Ps4 F2 (Fn4 F2 W6 w7) W6 w7)
    (own7 : w7.ownsRow W6.heap.size 83 2 (.slice m7 (mvd4 0 (live4 (plc 0 S))).length c7) (mvd4 0 (live4 (plc 0 S))).length (rowsV (mvd4 0 (live4 (plc 0 S))))) (hSL : S.length = L.length) (hL : L.length ≤ 1099511627776) (ll7 : L7.length ≤ L.length) (pw : Pw w v S w7 v1 (swp S)) :
    ∀ v8 w8, w8.ownsRow 0 66 1 v8 (T.length + 1) (T.map Te.mv ++ [.slice m7 (mvd4 0 (live4 (plc 0 S))).length c7]) → Ap (w7.alloc (.cells #[.slice m7 (mvd4 0 (live4 (plc 0 S))).length c7] 66)) (.slice ma T.length mc) w8 v8 → Pl4 F D b m v S L T 0 w (.returned (.bool true)) (w8.setCell ⟨D, 3, none⟩ v8) ∧ w8.cell? ⟨D, 3, none⟩ = some (.slice ma T.length mc) ∧ w8.frozen? ⟨D, 3, none⟩ = false := fun v8 w8 own8 ap8 => by
  have h3 := g7.1.renote (t' := ⟨tm, tb, .slice m7 (mvd4 0 (live4 (plc 0 S))).length c7, S⟩) rfl rfl rfl
  have q := moved_fin h3 ⟨tm, tb, .slice m7 (mvd4 0 (live4 (plc 0 S))).length c7, S⟩ (row_mono own7 (Nat.zero_le _)) (by have := md_len S; show (mvd4 0 (live4 (plc 0 S))).length ≤ _; omega) (fun g hg => .inr (World.ownsRow.lt own7 g hg)) own8 ap8
  exact ⟨⟨_, _, _, _, _, _, _, _, rfl, q.1, (p.trans g7.2).trans q.2.1, flat_swp_le S, by omega, by simp, pw.step q.2.2.2.2 (Nat.le_trans p.size g7.2.size)⟩, q.2.2.1, q.2.2.2.1⟩
set_option maxRecDepth 100000 in
set_option maxHeartbeats 3200000 in
theorem plays6_any (F : Nat → Prop) (D b m : Nat) (v rv tv mv : Value) (S : List Seg) (L : List Mt) (T : List Te) (q1 q2 q3 q4 : Value) (w : World) (h : Pr4 F w D b v S m rv L tv mv T) (hl : (flat S).length ≤ 1099511627776) (hL : L.length ≤ 1099511627776) (hT : T.length ≤ 1099511627776) :
    Calls Try.prog 5 #[.pointer (some ⟨D, 0, none⟩), .agg #[.int .i64 6, q1, q2, q3, q4]] w fun e w' => Pl4 F D b m v S L T 0 w e w' := by
  obtain ⟨iF, hiF, hF0, hF1, hF2⟩ := info_parts infoF4
  obtain ⟨iN, hiN, hN0, hN1, hN2⟩ := info_parts infoN4
  have hb0 := below_box w (.cells #[.int .i64 6, q1, q2, q3, q4] 34)
  have ho0 := opObj (w := w) (a := .int .i64 6) (b := q1) (c := q2) (d := q3) (e := q4)
  obtain ⟨k0, -, -, -, -⟩ := op_cell ho0
  have HI0 : Hid (Pr4 F (w.alloc (.cells #[.int .i64 6, q1, q2, q3, q4] 34)) D b v S m rv L tv mv T ∧ Ps4 F F w (w.alloc (.cells #[.int .i64 6, q1, q2, q3, q4] 34)) ∧ Below w.heap.size w (w.alloc (.cells #[.int .i64 6, q1, q2, q3, q4] 34))) := ⟨h.below hb0, Ps4.of_below hb0, hb0⟩
  have HVl : Hid (∀ g, v.ownBlock = some g → g < w.heap.size) := fun g hg => h.lt' g (h.fv.1 g hg)
  have hc0 := HI0.out.1.cells.1
  have HSL : Hid (S.length = L.length) := by
    show _ = _
    have := congrArg List.length h.mz.eq
    rw [plc_len, List.length_map] at this
    exact this.symm
  have HLe : Hid (L.length ≤ 1099511627776 ∧ (flat S).length ≤ 1099511627776) := ⟨hL, hl⟩
  clear h hb0 ho0
  go_enter Try.func5, Try.ntmps5
  go_wp2_with fail
  generalize w.alloc (.cells #[.int .i64 6, q1, q2, q3, q4] 34) = W0 at *
  refine (sweep2_any b v S W0 HI0.out.1.ar (by omega) (by omega)).mono ?_
  rintro e w1 ⟨tm, tb, v1, rfl, ar1, mv1, lt1, lt2, te1, nw1, kp1⟩
  have wv1 : Wv W0 v S w1 v1 (swp S) := fun g hg => by
    have hgl := (World.ownsRow.lt HI0.out.1.ar.own g hg).2
    have hgb : g ≠ b := fun e => own_ne HI0.out.1.ar.own HI0.out.1.ar.box (by decide) (by rw [← e]; exact hg.symm)
    obtain ⟨c, f, hc⟩ := own_block HI0.out.1.ar.own hg
    exact .inr ⟨fun q => by have := nw1 g q; omega, ⟨c, f, (kp1 g hgl hgb).trans hc⟩, fun i hi => World.cell?_of_block (kp1 g hgl hgb)⟩
  have g1 := HI0.out.1.arStep mv1 ar1
  obtain ⟨ta, tc, htv⟩ := row_form g1.1.tr
  obtain ⟨ma, mc, hmv⟩ := row_form g1.1.mr
  subst htv
  subst hmv
  have HQ1 : Hid (Pq4 (Fn4 F W0 w1) w1 D b v1 (swp S) m rv L S (.slice ta T.length tc) T (.slice ma T.length mc) T ∧ Ps4 F (Fn4 F W0 w1) w w1 ∧ TellsAt w1 tm tb (lv 0 S) ∧ Fn4 F W0 w1 tm ∧ Fn4 F W0 w1 tb ∧ Pw w v S w1 v1 (swp S)) := ⟨g1.1, HI0.out.2.1.trans g1.2, te1, .inr ⟨lt1, (tells_lt te1).1⟩, .inr ⟨lt2, (tells_lt te1).2⟩, Pw.after HI0.out.2.2 (HI0.out.1.pwAr mv1 wv1) HVl.out⟩
  have HTA : Hid (Pq4 (Fn4 F W0 w1) (w1.alloc (.cells #[.func (.func 37) #[] #[.pointer (some ⟨tm, 0, none⟩)]] 64)) D b v1 (swp S) m rv L S (.slice ta T.length tc) T (.slice ma T.length mc) T) := g1.1.below (below_box _ _)
  have x2 := g1.1.cells.2.2.1
  have x3 := HTA.out.cells.2.2.1
  have hnn := fn_nil4 ⟨tm, tb, .slice none 0 0, S⟩
  unfold fnT at hnn
  have HFi : Hid (∀ v5 w5, w5.ownsRow 0 64 1 v5 (T.length + 1) (T.map fnT ++ [.func (.func 37) #[] #[.pointer (some ⟨tm, 0, none⟩)]]) → Ap (w1.alloc (.cells #[.func (.func 37) #[] #[.pointer (some ⟨tm, 0, none⟩)]] 64)) (.slice ta T.length tc) w5 v5 →
      ∃ F2, Pq4 F2 (w5.setCell ⟨D, 2, none⟩ v5) D b v1 (swp S) m rv L S v5 (T ++ [⟨tm, tb, .slice none 0 0, S⟩]) (.slice ma T.length mc) T ∧ Ps4 F F2 w (w5.setCell ⟨D, 2, none⟩ v5) ∧ w5.cell? ⟨D, 2, none⟩ = some (.slice ta T.length tc) ∧ w5.frozen? ⟨D, 2, none⟩ = false ∧ Pw w v S (w5.setCell ⟨D, 2, none⟩ v5) v1 (swp S)) := fun v5 w5 o5 a5 => by
    have q := told_fin HQ1.out.1 ⟨tm, tb, .slice none 0 0, S⟩ HQ1.out.2.2.1 HQ1.out.2.2.2.1 HQ1.out.2.2.2.2.1 o5 a5
    exact ⟨_, q.1, HQ1.out.2.1.trans q.2.1, q.2.2.1, q.2.2.2.1, HQ1.out.2.2.2.2.2.step q.2.2.2.2 HQ1.out.2.1.size⟩
  clear ar1 mv1 lt1 lt2 te1 g1 k0 hc0 nw1 kp1 wv1
  go_upto_region 25 with (at_builtin; refine wpList_append_apk rfl _ _ 25 rfl 0 64 iF .nilFunc 1 8 undF4 hiF hF0 hF1 hF2 rfl (by decide) (.slice ta T.length tc) T.length (T.map fnT) rfl HTA.out.tr ⟨w1.heap.size, 0, none⟩ 1 1 [.func (.func 37) #[] #[.pointer (some ⟨tm, 0, none⟩)]] rfl rfl (one_new4 _ _ _) (by simp [Value.oneCell']) (by unfold maxLen; omega) (by omega) (Nat.zero_le _) ?_; intro v5 w5 own5 ap5; obtain ⟨F2, hq2⟩ := HFi.out v5 w5 own5 ap5; have x5 := hq2.2.2.1; have x6 := hq2.2.2.2.1; have HQ2 : Hid (Pq4 F2 (w5.setCell ⟨D, 2, none⟩ v5) D b v1 (swp S) m rv L S v5 (T ++ [⟨tm, tb, .slice none 0 0, S⟩]) (.slice ma T.length mc) T ∧ Ps4 F F2 w (w5.setCell ⟨D, 2, none⟩ v5) ∧ Pw w v S (w5.setCell ⟨D, 2, none⟩ v5) v1 (swp S)) := ⟨hq2.1, hq2.2.1, hq2.2.2.2.2⟩; obtain ⟨a5, c5, hv5⟩ := row_form own5; subst hv5; clear own5 ap5 hq2)
  generalize w5.setCell ⟨D, 2, none⟩ (.slice a5 (T.length + 1) c5) = W6 at *
  have HW6 : Hid (Below W6.heap.size W6 W6.drew) := (Below.refl _ _).drew
  have HQ3 : Hid (Pq4 F2 W6.drew D b v1 (swp S) m rv L S (.slice a5 (T.length + 1) c5) (T ++ [⟨tm, tb, .slice none 0 0, S⟩]) (.slice ma T.length mc) T ∧ Ps4 F F2 w W6.drew ∧ Pw w v S W6.drew v1 (swp S)) := ⟨HQ2.out.1.below HW6.out, HQ2.out.2.1.trans (Ps4.of_below HW6.out), HQ2.out.2.2.step (fun k hk _ => HW6.out.block k hk) HQ2.out.2.1.size⟩
  have y1 : W6.cell? ⟨D, 1, none⟩ = some (.pointer (some ⟨m, 0, none⟩)) := HQ2.out.1.cells.2.1
  have y3 : W6.cell? ⟨D, 3, none⟩ = some (.slice ma T.length mc) := HQ2.out.1.cells.2.2.2.1
  have HSw : Hid (Calls Try.prog 25 #[.pointer (some ⟨m, 0, none⟩)] W6.drew fun e w' => Sw4 0 W6.drew m rv L S e w') := mSweep_any 0 m rv L S W6.drew HQ3.out.1.mz hL hl (Nat.zero_le _)
  clear x2 x3 x5 x6
  go_region_law (first
    | (refine step_append_apk rfl (.tmp 173) (.tmp 179) 26 rfl 0 66 iN (.slice none 0 0) 1 24 undN4 hiN hN0 hN1 hN2 rfl (by decide) (.slice ma T.length mc) T.length (T.map Te.mv) (by simp [Act.eval, Act.put]) HQ7.out.mr ⟨w7.heap.size, 0, none⟩ 1 1 [.slice m7 (mvd4 0 (live4 (plc 0 S))).length c7] (by simp [Act.eval, Act.put]) rfl (one_new4 _ _ _) (by simp [Value.oneCell']) (by unfold maxLen; omega) (by omega) (Nat.zero_le _) ?_; intro v8 w8 own8 ap8; have hq8 := HFj.out v8 w8 own8 ap8; have z5 := hq8.2.1; have z6 := hq8.2.2; have HQ8 : Hid (Pl4 F D b m v S L T 0 w (.returned (.bool true)) (w8.setCell ⟨D, 3, none⟩ v8)) := hq8.1; obtain ⟨a8, c8, hv8⟩ := row_form own8; subst hv8; clear own8 ap8 hq8)
    | (go_wp2_with (go_at_call 25; refine Calls.mono HSw.out ?_; rintro e w7 ⟨mv7, lv7, L7, rfl, own7, mz7, mvv7, -, vs7, ll7⟩; have g7 := HQ3.out.1.docStep mvv7 mz7 vs7; obtain ⟨m7, c7, hmv7⟩ := row_form2 own7; subst hmv7; have HQ7 : Hid (Pq4 (Fn4 F2 W6.drew w7) (w7.alloc (.cells #[.slice m7 (mvd4 0 (live4 (plc 0 S))).length c7] 66)) D b v1 (swp S) m lv7 L7 (swp S) (.slice a5 (T.length + 1) c5) (T ++ [⟨tm, tb, .slice none 0 0, S⟩]) (.slice ma T.length mc) T) := g7.1.below (below_box _ _); have HFj : Hid (∀ v8 w8, w8.ownsRow 0 66 1 v8 (T.length + 1) (T.map Te.mv ++ [.slice m7 (mvd4 0 (live4 (plc 0 S))).length c7]) → Ap (w7.alloc (.cells #[.slice m7 (mvd4 0 (live4 (plc 0 S))).length c7] 66)) (.slice ma T.length mc) w8 v8 → Pl4 F D b m v S L T 0 w (.returned (.bool true)) (w8.setCell ⟨D, 3, none⟩ v8) ∧ w8.cell? ⟨D, 3, none⟩ = some (.slice ma T.length mc) ∧ w8.frozen? ⟨D, 3, none⟩ = false) := sweep_fin HQ3.out.2.1 g7 own7 HSL.out HLe.out.1 ll7 (HQ3.out.2.2.step (HQ3.out.1.pwDoc mvv7) HQ3.out.2.1.size); have y1' : w7.cell? ⟨D, 1, none⟩ = some (.pointer (some ⟨m, 0, none⟩)) := g7.1.cells.2.1; have y3' : w7.cell? ⟨D, 3, none⟩ = some (.slice ma T.length mc) := g7.1.cells.2.2.2.1; have y3'' := HQ7.out.cells.2.2.2.1; clear own7 mz7 mvv7 vs7 ll7 g7)))
  all_goals
    go_wp2
    go_ret
    exact HQ8.out
end Go.Proofs.Ytbhjpahieghepaa
set_option linter.unusedSimpArgs false
set_option linter.unusedVariables false
namespace Go.Proofs.Ytbhjpahieghepaa
open Go Go.RowKit Go.Maps

theorem ptr_nil4 (a : Addr) (w : World) : (binOp BinOp.eql 23 (.pointer (some a)) (.pointer none)).run Try.prog w = .ok (.bool false) w := by rfl
theorem ptr_neq4 (a : Addr) (w : World) : (binOp BinOp.neq 23 (.pointer (some a)) (.pointer none)).run Try.prog w = .ok (.bool true) w := by rfl
theorem results_two_tmp {P : Program} {fn : Func} {p q u : Tmp} {ty ty2 : TypeId} (h : fn.results = #[.cell p ty, .cell q ty2, .tmp u]) (tmps : Array Value) (w : World) (g g2 : Nat) (t t2 : TypeId) (cs cs2 : Array Value) (fr fr2 : Nat × Nat) (d d2 : TypeDesc)
    (hp : tmps.getD p undef = .pointer (some ⟨g, 0, none⟩)) (hg : w.heap[g]? = some (.cells cs t fr)) (hu : P.underlying ty = some d) (hd : (match d with | .struct _ | .array _ _ => true | _ => false) = true) (hi : (P.info? ty).map (·.size) = some cs.size)
    (hp2 : tmps.getD q undef = .pointer (some ⟨g2, 0, none⟩)) (hg2 : w.heap[g2]? = some (.cells cs2 t2 fr2)) (hu2 : P.underlying ty2 = some d2) (hd2 : (match d2 with | .struct _ | .array _ _ => true | _ => false) = true) (hi2 : (P.info? ty2).map (·.size) = some cs2.size) :
    (results fn tmps).run P w = .ok (.tuple #[.agg cs, .agg cs2, tmps.getD u undef]) w := by
  have hp' : tmps[p]?.getD undef = .pointer (some ⟨g, 0, none⟩) := by simpa using hp
  have hq' : tmps[q]?.getD undef = .pointer (some ⟨g2, 0, none⟩) := by simpa using hp2
  simp [results, h, hp', hq', asAddr, run_loadVar_row w g t ty cs fr d hg hu hd hi, run_loadVar_row w g2 t2 ty2 cs2 fr2 d2 hg2 hu2 hd2 hi2, Sem.run_bind, Result.andThen]
def Md4 (w : World) (e : Ending) (w' : World) : Prop :=
  ∃ a b m n : Nat, e = .returned (.tuple #[.agg #[.pointer (some ⟨a, 0, none⟩), .pointer (some ⟨m, 0, none⟩), .slice none 0 0, .slice none 0 0], .agg #[.pointer (some ⟨b, 0, none⟩), .pointer (some ⟨n, 0, none⟩), .slice none 0 0, .slice none 0 0], .bool true]) ∧
    w'.heap[a]? = some (.cells #[.slice none 0 0, .int .i64 0] 75 (0, 0)) ∧ w'.heap[b]? = some (.cells #[.slice none 0 0, .int .i64 0] 75 (0, 0)) ∧
    w'.heap[m]? = some (.cells #[.slice none 0 0] 48 (0, 0)) ∧ w'.heap[n]? = some (.cells #[.slice none 0 0] 48 (0, 0)) ∧ w.heap.size ≤ a ∧ w.heap.size ≤ b ∧ w.heap.size ≤ m ∧ w.heap.size ≤ n ∧ a ≠ b ∧ m ≠ n ∧ Below w.heap.size w w'
theorem at_on {W : World} {o x : Obj} {k : Nat} (h : W.heap[k]? = some x) : (W.alloc o).heap[k]? = some x := ((below_box W o).block k (Array.getElem?_eq_some_iff.1 h).1).trans h
theorem six_at (w : World) (x0 x1 x2 x3 x4 x5 : Obj) :
    ((((((w.alloc x0).alloc x1).alloc x2).alloc x3).alloc x4).alloc x5).heap[w.heap.size]? = some x0 ∧ ((((((w.alloc x0).alloc x1).alloc x2).alloc x3).alloc x4).alloc x5).heap[w.heap.size + 1]? = some x1 ∧ ((((((w.alloc x0).alloc x1).alloc x2).alloc x3).alloc x4).alloc x5).heap[w.heap.size + 1 + 1]? = some x2 ∧
    ((((((w.alloc x0).alloc x1).alloc x2).alloc x3).alloc x4).alloc x5).heap[w.heap.size + 1 + 1 + 1]? = some x3 ∧ ((((((w.alloc x0).alloc x1).alloc x2).alloc x3).alloc x4).alloc x5).heap[w.heap.size + 1 + 1 + 1 + 1]? = some x4 ∧ ((((((w.alloc x0).alloc x1).alloc x2).alloc x3).alloc x4).alloc x5).heap[w.heap.size + 1 + 1 + 1 + 1 + 1]? = some x5 := by
  have a0 := World.alloc_heap_new w x0
  have a1 := World.alloc_heap_new (w.alloc x0) x1
  have a2 := World.alloc_heap_new ((w.alloc x0).alloc x1) x2
  have a3 := World.alloc_heap_new (((w.alloc x0).alloc x1).alloc x2) x3
  have a4 := World.alloc_heap_new ((((w.alloc x0).alloc x1).alloc x2).alloc x3) x4
  have a5 := World.alloc_heap_new (((((w.alloc x0).alloc x1).alloc x2).alloc x3).alloc x4) x5
  simp only [World.size_alloc] at a1 a2 a3 a4 a5
  exact ⟨at_on (at_on (at_on (at_on (at_on a0)))), at_on (at_on (at_on (at_on a1))), at_on (at_on (at_on a2)), at_on (at_on a3), at_on a4, a5⟩
set_option maxRecDepth 100000 in
theorem made4_any (w : World) :
    Calls Try.prog 4 #[] w fun e w' => Md4 w e w' := by
  go_enter Try.func4, Try.ntmps4
  go_wp2_with fail
  refine (arNew_any _).mono ?_
  rintro e w1 ⟨rfl, rfl⟩
  go_wp2_with fail
  refine (arNew_any _).mono ?_
  rintro e w1 ⟨rfl, rfl⟩
  have hpn := ptr_neq4 ⟨w.heap.size + 1 + 1, 0, none⟩
  have hpn2 := ptr_neq4 ⟨w.heap.size + 1 + 1 + 1, 0, none⟩
  simp only [World.size_alloc]
  go_wp2_with fail
  obtain ⟨g0, g1, g2, g3, g4, g5⟩ := six_at w (.cells #[.pointer (some ⟨w.heap.size + 1 + 1, 0, none⟩), .pointer (some ⟨w.heap.size + 1 + 1 + 1 + 1, 0, none⟩), .slice none 0 0, .slice none 0 0] 28) (.cells #[.pointer (some ⟨w.heap.size + 1 + 1 + 1, 0, none⟩), .pointer (some ⟨w.heap.size + 1 + 1 + 1 + 1 + 1, 0, none⟩), .slice none 0 0, .slice none 0 0] 28) (.cells #[.slice none 0 0, .int .i64 0] 75) (.cells #[.slice none 0 0, .int .i64 0] 75) (.cells #[.slice none 0 0] 48) (.cells #[.slice none 0 0] 48)
  refine bodyPost_ret (results_two_tmp rfl _ _ w.heap.size (w.heap.size + 1) 28 28 _ _ (0, 0) (0, 0) _ _ rfl g0 Try.underlying28 rfl (by kernel_rfl) rfl g1 Try.underlying28 rfl (by kernel_rfl)) rfl ?_
  exact ⟨_, _, _, _, rfl, g2, g3, g4, g5, by omega, by omega, by omega, by omega, by omega, by omega, Below.step (Below.step (Below.step (Below.step (Below.step (below_box _ _) (below_box _ _)) (below_box _ _)) (below_box _ _)) (below_box _ _)) (below_box _ _)⟩
/-- a new pair -/
theorem Pr4.new {W : World} {D a m : Nat} (hD : W.heap[D]? = some (.cells #[.pointer (some ⟨a, 0, none⟩), .pointer (some ⟨m, 0, none⟩), .slice none 0 0, .slice none 0 0] 28 (0, 0))) (ha : W.heap[a]? = some (.cells #[.slice none 0 0, .int .i64 0] 75 (0, 0))) (hm : W.heap[m]? = some (.cells #[.slice none 0 0] 48 (0, 0))) :
    Pr4 (fun k => k = D ∨ k = a ∨ k = m) W D a (.slice none 0 0) [] m (.slice none 0 0) [] (.slice none 0 0) (.slice none 0 0) [] := by
  have lt : ∀ {k : Nat} {x : Obj}, W.heap[k]? = some x → k < W.heap.size := fun h => (Array.getElem?_eq_some_iff.1 h).1
  exact ⟨hD, ⟨ha, World.ownsRow_nil _ _ _ _, fun x hx => (absurd hx List.not_mem_nil)⟩, ⟨⟨hm, ⟨World.ownsRow_nil _ _ _ _, fun x hx => (absurd hx List.not_mem_nil)⟩, Nat.zero_le _⟩, rfl⟩, World.ownsRow_nil _ _ _ _, World.ownsRow_nil _ _ _ _, fun t ht => (absurd ht List.not_mem_nil), fun t ht => (absurd ht List.not_mem_nil), ⟨.inl rfl, .inr (.inl rfl), .inr (.inr rfl)⟩, ⟨fun g hg => (by cases hg), fun g hg => (by cases hg), fun g hg => (by cases hg), fun g hg => (by cases hg)⟩, fun x hx => (absurd hx List.not_mem_nil), fun x hx => (absurd hx List.not_mem_nil), fun x hx => (absurd hx List.not_mem_nil), fun k hk => by rcases hk with rfl | rfl | rfl <;> exact lt (by assumption), fun x hx => (absurd hx List.not_mem_nil)⟩
end Go.Proofs.Ytbhjpahieghepaa
set_option linter.unusedSimpArgs false
set_option linter.unusedVariables false
namespace Go.Proofs.Ytbhjpahieghepaa
open Go Go.RowKit Go.Maps

/-- the book behind a Sweep -/
def ren : Int → List Ent → List Ent
  | _, [] => []
  | q, x :: r => if x.2.live then (x.1, { x.2 with pl := q }) :: ren (q + 1 + x.2.lits.length) r else x :: ren q r
theorem ren_len : ∀ (L : List Ent) (q : Int), (ren q L).length = L.length
  | [], _ => rfl
  | x :: r, q => by unfold ren; split <;> simp [ren_len r]
theorem ren_mem : ∀ {L : List Ent} {q : Int} {x : Ent}, x ∈ ren q L → ∃ y ∈ L, x.1 = y.1 ∧ x.2.lits = y.2.lits
  | y :: r, q, x, h => by
    unfold ren at h
    split at h
    · rcases List.mem_cons.1 h with rfl | h
      · exact ⟨y, List.mem_cons_self, rfl, rfl⟩
      · obtain ⟨z, hz, e⟩ := ren_mem h
        exact ⟨z, List.mem_cons_of_mem _ hz, e⟩
    · rcases List.mem_cons.1 h with rfl | h
      · exact ⟨x, List.mem_cons_self, rfl, rfl⟩
      · obtain ⟨z, hz, e⟩ := ren_mem h
        exact ⟨z, List.mem_cons_of_mem _ hz, e⟩
theorem bk_ren : ∀ (L : List Ent) (q : Int), bk (ren q L) = renum q (bk L)
  | [], _ => rfl
  | x :: r, q => by
    unfold ren
    cases hx : x.2.live
    · simp only [Bool.false_eq_true, if_false]
      rw [bk, bk, hx, bk_ren r q]; simp
    · simp only [if_true]
      rw [bk, bk, hx, bk_ren r]
      simp only [if_true, List.singleton_append, renum]
theorem ren_cons (q : Int) (x : Ent) (r : List Ent) : ren q (x :: r) = if x.2.live then (x.1, { x.2 with pl := q }) :: ren (q + 1 + x.2.lits.length) r else x :: ren q r := rfl
theorem ren_append : ∀ (L M : List Ent) (q : Int), ren q (L ++ M) = ren q L ++ ren (q + (wordsL (bk L)).length) M
  | [], M, q => by simp [ren, bk, wordsL]
  | x :: r, M, q => by
    rw [List.cons_append, ren_cons, ren_cons]
    cases hx : x.2.live
    · simp only [Bool.false_eq_true, if_false]
      rw [ren_append r M q, bk, hx]; simp
    · simp only [if_true]
      rw [ren_append r M, bk, hx, List.cons_append]
      have e : q + 1 + (x.2.lits.length : Int) + ((wordsL (bk r)).length : Int) = q + ((wordsL ((if true = true then [(x.2.pl, x.2.lits, x.2.learnt)] else []) ++ bk r)).length : Int) := by
        simp [wordsL]; omega
      rw [e]
theorem went_at : ∀ {M N : LvL} {x : Int × List Int × Bool} {q : Int}, (∀ y ∈ M, y.1 ≠ x.1) → went q (M ++ x :: N) x.1 = some (q + (wordsL M).length)
  | [], N, x, q, _ => by simp [went, wordsL]
  | y :: r, N, x, q, h => by
    rw [List.cons_append]
    unfold went
    rw [if_neg (h y List.mem_cons_self), went_at (fun z hz => h z (List.mem_cons_of_mem _ hz))]
    congr 1
    simp [wordsL]; omega
theorem bk_at {L : List Ent} {i : Nat} (hi : i < L.length) (hl : L[i].2.live = true) : bk L = bk (L.take i) ++ (L[i].2.pl, L[i].2.lits, L[i].2.learnt) :: bk (L.drop (i + 1)) := by
  conv => lhs; rw [← List.take_append_drop i L, List.drop_eq_getElem_cons hi, bk_append, bk, hl]
  simp
theorem went_bk {S : List Seg} {L : List Ent} (he : bk L = lv 0 S) {i : Nat} (hi : i < L.length) (hl : L[i].2.live = true) : went 0 (lv 0 S) L[i].2.pl = some ((wordsL (bk (L.take i))).length : Int) := by
  have hr := lv_rises S 0
  rw [← he, bk_at hi hl] at hr ⊢
  rw [went_at (x := (L[i].2.pl, L[i].2.lits, L[i].2.learnt)) (fun y hy => ?_)]
  · simp
  · have := (List.pairwise_append.1 hr).2.2 y hy _ List.mem_cons_self
    exact Int.ne_of_lt this
theorem rowsK_append (L M : List Ent) : rowsK (L ++ M) = rowsK L ++ rowsK M := by simp [rowsK]
theorem rowsK_len (L : List Ent) : (rowsK L).length = L.length * 4 := by
  induction L with
  | nil => rfl
  | cons x r ih => rw [show rowsK (x :: r) = [.int .i64 x.2.pl, x.1, .bool x.2.learnt, .bool x.2.live] ++ rowsK r from rfl]; simp [ih]; omega
/-- the book as it is in the midst of a Sweep -/
def mid (L : List Ent) (i : Nat) : List Ent := ren 0 (L.take i) ++ L.drop i
theorem mid_len (L : List Ent) (i : Nat) (h : i ≤ L.length) : (mid L i).length = L.length := by simp [mid, ren_len]; omega
theorem mid_zero (L : List Ent) : mid L 0 = L := by simp [mid, ren]
theorem mid_all (L : List Ent) : mid L L.length = ren 0 L := by simp [mid]
theorem mid_at {L : List Ent} {i : Nat} (hi : i < L.length) : (mid L i)[i]? = some L[i] := by
  unfold mid
  rw [List.getElem?_append_right (by simp [ren_len]; omega)]
  simp [ren_len, List.getElem?_drop]
  rw [show i + (i - min i L.length) = i by omega, List.getElem?_eq_getElem hi]
theorem mid_dead {L : List Ent} {i : Nat} (hi : i < L.length) (hl : L[i].2.live = false) : mid L (i + 1) = mid L i := by
  unfold mid
  rw [List.take_succ_eq_append_getElem hi, ren_append, List.drop_eq_getElem_cons hi, List.append_assoc]
  congr 1
  simp [ren, hl]
theorem mid_live {L : List Ent} {i : Nat} (hi : i < L.length) (hl : L[i].2.live = true) : rowsK (mid L (i + 1)) = (rowsK (mid L i)).set (i * 4) (.int .i64 ((wordsL (bk (L.take i))).length : Int)) := by
  unfold mid
  rw [List.take_succ_eq_append_getElem hi, ren_append, List.drop_eq_getElem_cons hi, List.append_assoc, rowsK_append, rowsK_append, rowsK_append, List.set_append_right _ _ (by rw [rowsK_len, ren_len]; simp; omega)]
  congr 1
  rw [rowsK_len, ren_len, List.length_take, show i * 4 - min i L.length * 4 = 0 by omega]
  generalize L.drop (i + 1) = D
  generalize L[i] = x at *
  simp [ren, hl, rowsK]
theorem mid_mem {L : List Ent} {i : Nat} {x : Ent} (h : x ∈ mid L i) : ∃ y ∈ L, x.1 = y.1 ∧ x.2.lits = y.2.lits := by
  unfold mid at h
  rcases List.mem_append.1 h with h | h
  · obtain ⟨y, hy, e⟩ := ren_mem h
    exact ⟨y, List.mem_of_mem_take hy, e⟩
  · exact ⟨x, List.mem_of_mem_drop h, rfl, rfl⟩
theorem TellsAt.grown {W W' : World} {m mb : Nat} {M : LvL} {B K s : Nat} {e : TypeId} {v : Value} {xs : List Value} (h : TellsAt W m mb M) (hr : W.ownsRow B e s v K xs) (hne : 80 ≠ e) (hg : W.grownBy W' v.ownBlock) : TellsAt W' m mb M := by
  obtain ⟨n, D, hD, hT⟩ := h.map
  exact ⟨h.box.kept hg (h.box.not_row hne hr), n, D, World.ownsMap.kept hD hg (mapR_row hD hr), hT⟩
theorem TellsAt.below {W W' : World} {m mb : Nat} {M : LvL} (h : TellsAt W m mb M) (hb : Below W.heap.size W W') : TellsAt W' m mb M := by
  obtain ⟨n, D, hD, hT⟩ := h.map
  exact ⟨h.box.below hb, n, D, World.ownsMap.kept hD (grown_below hb) (by simp), hT⟩
theorem Ar.row {W W' : World} {b : Nat} {v : Value} {S : List Seg} {B K s : Nat} {e : TypeId} {u : Value} {xs : List Value} (h : Ar W b v S) (hr : W.ownsRow B e s u K xs) (h1 : 75 ≠ e) (h2 : 3 ≠ e) (hg : W.grownBy W' u.ownBlock) : Ar W' b v S :=
  ⟨h.box.kept hg (h.box.not_row h1 hr), row_apart h2 h.own hr hg, h.ok⟩
theorem func_not_nil (gf : Nat) (lb : Array Value) (w : World) : (binOp BinOp.eql 64 (Value.func (Fn.func gf) #[] lb) Value.nilFunc).run Try.prog w = .ok (.bool false) w := by rfl

end Go.Proofs.Ytbhjpahieghepaa
set_option linter.unusedSimpArgs false
set_option linter.unusedVariables false
namespace Go.Proofs.Ytbhjpahieghepaa
open Go Go.RowKit Go.Maps

theorem row_mv {w w' : World} {b : Nat} {v v' : Value} {S : List Seg} {B K s : Nat} {e : TypeId} {u : Value} {xs : List Value} (ha : Ar w b v S) (m : Mv w b v w' v') (h : w.ownsRow B e s u K xs) (h1 : 75 ≠ e) (h2 : 3 ≠ e) : w'.ownsRow B e s u K xs := by
  rcases h.2 with ⟨e1, e2⟩ | ⟨g, cap, cur, e1, hbg, hh, r1, r2, r3, r4⟩
  · exact ⟨h.1, .inl ⟨e1, e2⟩⟩
  · refine ⟨h.1, .inr ⟨g, cap, cur, e1, hbg, ?_, r1, r2, r3, r4⟩⟩
    rw [m.block g (Array.getElem?_eq_some_iff.1 hh).1 ?_ ?_]; exact hh
    · rintro rfl
      rw [show w.heap[g]? = _ from ha.box] at hh
      injection hh with hh
      injection hh with _ e3
      exact absurd e3 h1
    · intro e3
      rcases ha.own.2 with ⟨e4, _⟩ | ⟨g', _, _, e4, _, hh', _⟩
      · rw [e4] at e3; cases e3
      · rw [e4] at e3; cases e3
        rw [hh'] at hh
        injection hh with hh
        injection hh with _ e5
        exact absurd e5 h2
theorem rowsK_set {L : List Ent} {k : Nat} (hk : k < L.length) : rowsK (L.set k (L[k].1, { L[k].2 with live := false })) = (rowsK L).set (k * 4 + 3) (.bool false) := by
  induction L generalizing k with
  | nil => simp at hk
  | cons x r ih =>
    cases k with
    | zero => simp [rowsK]
    | succ j =>
      have := ih (k := j) (by simpa using hk)
      rw [List.set_cons_succ, show rowsK (x :: r) = .int .i64 x.2.pl :: x.1 :: .bool x.2.learnt :: .bool x.2.live :: rowsK r from rfl, show (j + 1) * 4 + 3 = j * 4 + 3 + 1 + 1 + 1 + 1 by omega]
      simp only [List.set_cons_succ, List.getElem_cons_succ]
      rw [← this]; rfl
/-- a step of a script -/
structure AOp where
  kind : Int
  which : Int
  ref : Int
  lits : List Int
  learnt : Bool
def cost (ops : List AOp) : Nat := (ops.map (fun o => 1 + o.lits.length)).sum
theorem cost_take (ops : List AOp) (i : Nat) (h : i < ops.length) : cost (ops.take (i + 1)) = cost (ops.take i) + 1 + ops[i].lits.length := by
  unfold cost
  rw [List.take_succ_eq_append_getElem h, List.map_append, List.sum_append]
  simp; omega
theorem cost_le (ops : List AOp) (i : Nat) : cost (ops.take i) ≤ cost ops := by
  have : cost ops = cost (ops.take i) + cost (ops.drop i) := by
    unfold cost
    rw [← List.sum_append, ← List.map_append, List.take_append_drop]
  omega
/-- a script that is read -/
def RdO (W : World) (s : Value) (ops : List AOp) : Prop :=
  ∃ a c, s = .slice a ops.length c ∧ ops.length ≤ c ∧ c ≤ maxLen ∧ ∀ (j : Nat) (hj : j < ops.length), ∃ b off u, a = some ⟨b, off, none⟩ ∧ b < W.heap.size ∧
    W.cell? ⟨b, off + j * 5, none⟩ = some (.int .i64 ops[j].kind) ∧ W.cell? ⟨b, off + j * 5 + 1, none⟩ = some (.int .i64 ops[j].which) ∧ W.cell? ⟨b, off + j * 5 + 2, none⟩ = some (.int .i64 ops[j].ref) ∧
    W.cell? ⟨b, off + j * 5 + 3, none⟩ = some u ∧ W.cell? ⟨b, off + j * 5 + 4, none⟩ = some (.bool ops[j].learnt) ∧ Rd W u ops[j].lits ∧ (Lit.int .i64 ops[j].ref).wf = true
theorem RdO.below {W W' : World} {B : Nat} {s : Value} {ops : List AOp} (h : RdO W s ops) (hb : Below W.heap.size W W') : RdO W' s ops := by
  obtain ⟨a, c, e, h1, h2, h3⟩ := h
  refine ⟨a, c, e, h1, h2, fun j hj => ?_⟩
  obtain ⟨b, off, u, e1, hl, c0, c1, c2, c3, c4, hr, hw⟩ := h3 j hj
  have hc : ∀ o, W'.cell? ⟨b, o, none⟩ = W.cell? ⟨b, o, none⟩ := fun o => hb.cell (p := ⟨b, o, none⟩) hl
  exact ⟨b, off, u, e1, Nat.lt_of_lt_of_le hl hb.size, by rw [hc]; exact c0, by rw [hc]; exact c1, by rw [hc]; exact c2, by rw [hc]; exact c3, by rw [hc]; exact c4, hr.below hb, hw⟩
end Go.Proofs.Ytbhjpahieghepaa
set_option linter.unusedSimpArgs false
set_option linter.unusedVariables false
namespace Go.Proofs.Ytbhjpahieghepaa
open Go Go.RowKit Go.Maps

theorem plc_lits : ∀ (S : List Seg) (p : Int) (x : Mc), x ∈ plc p S → x.lits.length ≤ (flat S).length
  | s :: r, p, x, h => by
    rw [plc] at h
    rcases List.mem_cons.1 h with e | e
    · rw [e]; simp [flat]; omega
    · have := plc_lits r _ x e
      simp [flat]; omega
theorem Pl4.mono {F : Nat → Prop} {D b m : Nat} {v : Value} {S : List Seg} {L : List Mt} {T : List Te} {n n' : Nat} {w : World} {e : Ending} {w' : World} (h : Pl4 F D b m v S L T n w e w') (hn : n ≤ n') : Pl4 F D b m v S L T n' w e w' := by
  obtain ⟨F', v', S', rv', L', tv', mv', T', he, hp, hs, h1, h2, h3, h4⟩ := h
  exact ⟨F', v', S', rv', L', tv', mv', T', he, hp, hs, by omega, h2, h3, h4⟩
/-- an int -/
def Rng (x : Int) : Prop := -9223372036854775808 ≤ x ∧ x ≤ 9223372036854775807
theorem wf_rng {n : Int} (h : (Lit.int .i64 n).wf = true) : Rng n := by
  simp [Lit.wf, IntKind.min, IntKind.max, IntKind.bits, IntKind.signed] at h
  unfold Rng
  omega
theorem rd_two4 (w : World) (x y : Int) : Rd (w.alloc (.cells #[.int .i64 x, .int .i64 y] 3)) (.slice (some ⟨w.heap.size, 0, none⟩) 2 2) [x, y] := by
  have hh := World.alloc_heap_new w (.cells #[.int .i64 x, .int .i64 y] 3)
  refine ⟨by simp, some ⟨w.heap.size, 0, none⟩, 2, rfl, by simp, by unfold maxLen; omega, by simp, fun _ => ⟨w.heap.size, 0, rfl, by rw [World.size_alloc]; omega, fun j hj => ?_⟩⟩
  have : j < 2 := by simpa using hj
  match j, this with
  | 0, _ => rw [World.cell?_alloc_at _ _ _ _ rfl]; rfl
  | 1, _ => rw [World.cell?_alloc_at _ _ _ _ rfl]; rfl
theorem plays_any (F : Nat → Prop) (D b m : Nat) (v rv tv mv : Value) (S : List Seg) (L : List Mt) (T : List Te) (o : AOp) (u : Value) (w : World) (h : Pr4 F w D b v S m rv L tv mv T) (hl : (flat S).length ≤ 1099511627776) (hL : L.length ≤ 1099511627776) (hT : T.length ≤ 1099511627776) (hzl : o.lits.length ≤ 1099511627776)
    (hZ : ∀ (F' : Nat → Prop) W, Ps4 F F' w W → Rd W u o.lits) (hg : ∀ x ∈ o.lits, Rng x) (hr : Rng o.ref) :
    Calls Try.prog 5 #[.pointer (some ⟨D, 0, none⟩), .agg #[.int .i64 o.kind, .int .i64 o.which, .int .i64 o.ref, u, .bool o.learnt]] w fun e w' => Pl4 F D b m v S L T (o.lits.length + 1) w e w' := by
  obtain ⟨kd, wh, r, zs, l⟩ := o
  have up : ∀ {e w'}, Pl4 F D b m v S L T 0 w e w' → Pl4 F D b m v S L T (zs.length + 1) w e w' := fun q => q.mono (Nat.zero_le _)
  show Calls Try.prog 5 #[.pointer (some ⟨D, 0, none⟩), .agg #[.int .i64 kd, .int .i64 wh, .int .i64 r, u, .bool l]] w fun e w' => Pl4 F D b m v S L T (zs.length + 1) w e w'
  by_cases k1 : kd = 1
  · subst k1; exact plays1_any F D b m v rv tv mv S L T _ _ u zs l w h hl hL hzl hZ
  by_cases k2 : kd = 2
  · subst k2; exact (plays2_any F D b m v rv tv mv S L T r _ _ _ w h hl (fun x hx => by have := plc_lits S 0 x.2 (by rw [← h.mz.eq]; exact List.mem_map_of_mem hx); omega)).mono fun e w' q => up q
  by_cases k3 : kd = 3
  · subst k3; exact (plays3_any F D b m v rv tv mv S L T r _ _ _ w h hl).mono fun e w' q => up q
  by_cases k4 : kd = 4
  · subst k4; exact (plays4_any F D b m v rv tv mv S L T r _ _ _ w h hl).mono fun e w' q => up q
  by_cases k5 : kd = 5
  · subst k5; exact (plays5_any F D b m v rv tv mv S L T _ _ _ _ w h hl).mono fun e w' q => up q
  by_cases k6 : kd = 6
  · subst k6; exact (plays6_any F D b m v rv tv mv S L T _ _ _ _ w h hl hL hT).mono fun e w' q => up q
  by_cases k7 : kd = 7
  · subst k7; exact (plays7_any F D b m v rv tv mv S L T r zs _ _ _ w h (hZ F w (Ps4.of_below (Below.refl _ _))) (fun x hx => hg x hx) hr.2 hT).mono fun e w' q => up q
  · exact (plays0_any F D b m v rv tv mv S L T kd _ _ _ _ w h (by omega)).mono fun e w' q => up q
/-- two pairs -/
def Tw (w W : World) (D1 b1 m1 D2 b2 m2 N : Nat) : Prop :=
  ∃ (F1 : Nat → Prop) (v1 : Value) (S1 : List Seg) (rv1 : Value) (L1 : List Mt) (tv1 mv1 : Value) (T1 : List Te) (F2 : Nat → Prop) (v2 : Value) (S2 : List Seg) (rv2 : Value) (L2 : List Mt) (tv2 mv2 : Value) (T2 : List Te),
    Pr4 F1 W D1 b1 v1 S1 m1 rv1 L1 tv1 mv1 T1 ∧ Pr4 F2 W D2 b2 v2 S2 m2 rv2 L2 tv2 mv2 T2 ∧ (∀ k, F1 k → ¬ F2 k) ∧ (∀ k, F1 k → w.heap.size ≤ k) ∧ (∀ k, F2 k → w.heap.size ≤ k) ∧
    (flat S1).length ≤ N ∧ L1.length ≤ N ∧ T1.length ≤ N ∧ (flat S2).length ≤ N ∧ L2.length ≤ N ∧ T2.length ≤ N ∧ Below w.heap.size w W
theorem Tw.swap {w W : World} {D1 b1 m1 D2 b2 m2 N : Nat} (h : Tw w W D1 b1 m1 D2 b2 m2 N) : Tw w W D2 b2 m2 D1 b1 m1 N := by
  obtain ⟨F1, v1, S1, rv1, L1, tv1, mv1, T1, F2, v2, S2, rv2, L2, tv2, mv2, T2, p1, p2, hd, f1, f2, n1, n2, n3, n4, n5, n6, hb⟩ := h
  exact ⟨F2, v2, S2, rv2, L2, tv2, mv2, T2, F1, v1, S1, rv1, L1, tv1, mv1, T1, p2, p1, fun k q1 q2 => hd k q2 q1, f2, f1, n4, n5, n6, n1, n2, n3, hb⟩
theorem Tw.bel {w W : World} {D1 b1 m1 D2 b2 m2 N : Nat} (h : Tw w W D1 b1 m1 D2 b2 m2 N) : Below w.heap.size w W := by
  obtain ⟨F1, v1, S1, rv1, L1, tv1, mv1, T1, F2, v2, S2, rv2, L2, tv2, mv2, T2, p1, p2, hd, f1, f2, n1, n2, n3, n4, n5, n6, hb⟩ := h
  exact hb
theorem Tw.below {w W W' : World} {D1 b1 m1 D2 b2 m2 N : Nat} (h : Tw w W D1 b1 m1 D2 b2 m2 N) (hb : Below W.heap.size W W') : Tw w W' D1 b1 m1 D2 b2 m2 N := by
  obtain ⟨F1, v1, S1, rv1, L1, tv1, mv1, T1, F2, v2, S2, rv2, L2, tv2, mv2, T2, p1, p2, hd, f1, f2, n1, n2, n3, n4, n5, n6, hb1⟩ := h
  exact ⟨F1, v1, S1, rv1, L1, tv1, mv1, T1, F2, v2, S2, rv2, L2, tv2, mv2, T2, p1.below hb, p2.below hb, hd, f1, f2, n1, n2, n3, n4, n5, n6, Below.step hb1 hb⟩
theorem tw_go {w W W' : World} {D1 b1 m1 D2 b2 m2 N : Nat} (h : Tw w W D1 b1 m1 D2 b2 m2 N) (hWb : Below W.heap.size W W') (hN : N ≤ 1099511627776) (o : AOp) (u : Value) (hzl : o.lits.length ≤ 1099511627776) (hZ : ∀ (F F' : Nat → Prop) W'', (∀ k, F k → w.heap.size ≤ k ∧ k < W.heap.size) → Below w.heap.size w W' → Ps4 F F' W' W'' → Rd W'' u o.lits) (hg : ∀ x ∈ o.lits, Rng x) (hr : Rng o.ref) :
    Calls Try.prog 5 #[.pointer (some ⟨D1, 0, none⟩), .agg #[.int .i64 o.kind, .int .i64 o.which, .int .i64 o.ref, u, .bool o.learnt]] W' fun e w' => e = .returned (.bool true) ∧ Tw w w' D1 b1 m1 D2 b2 m2 (N + (o.lits.length + 1)) := by
  obtain ⟨F1, v1, S1, rv1, L1, tv1, mv1, T1, F2, v2, S2, rv2, L2, tv2, mv2, T2, p1, p2, hd, f1, f2, n1, n2, n3, n4, n5, n6, hb⟩ := h
  have p2' := p2.below hWb
  have hb' : Below w.heap.size w W' := Below.step hb hWb
  refine (plays_any F1 D1 b1 m1 v1 rv1 tv1 mv1 S1 L1 T1 o u W' (p1.below hWb) (by omega) (by omega) (by omega) hzl (fun F' W'' p => hZ F1 F' W'' (fun k hk => ⟨f1 k hk, p1.lt' k hk⟩) hb' p) hg hr).mono fun e w' q => ?_
  obtain ⟨F', v', S', rv', L', tv', mv', T', he, hp, hs, a1, a2, a3, -⟩ := q
  refine ⟨he, F', v', S', rv', L', tv', mv', T', F2, v2, S2, rv2, L2, tv2, mv2, T2, hp, p2'.keep hs.size (fun k hk => hs.block k (p2'.lt' k hk) (fun q => hd k q hk)), fun k q1 q2 => (hs.sub k q1).elim (fun q => hd k q q2) (fun q => ?_), fun k q => (hs.sub k q).elim (f1 k) (fun q => Nat.le_trans hb'.size q), f2, by omega, by omega, by omega, by omega, by omega, by omega, hs.bel hb' f1⟩
  have := p2'.lt' k q2
  omega
theorem tw_step {w W : World} {D1 b1 m1 D2 b2 m2 N : Nat} (h : Tw w W D1 b1 m1 D2 b2 m2 N) (hN : N ≤ 1099511627776) (o : AOp) (u : Value) (hzl : o.lits.length ≤ 1099511627776) (hz : Rd w u o.lits) (hg : ∀ x ∈ o.lits, Rng x) (hr : Rng o.ref) :
    Calls Try.prog 5 #[.pointer (some ⟨D1, 0, none⟩), .agg #[.int .i64 o.kind, .int .i64 o.which, .int .i64 o.ref, u, .bool o.learnt]] W fun e w' => e = .returned (.bool true) ∧ Tw w w' D1 b1 m1 D2 b2 m2 (N + (o.lits.length + 1)) :=
  tw_go h (Below.refl _ _) hN o u hzl (fun F F' W'' hF hb p => hz.below (p.bel hb (fun k hk => (hF k hk).1))) hg hr
theorem rd_kept4 {w w' : World} {v : Value} {zs : List Int} (h : Rd w v zs) (hs : w.heap.size ≤ w'.heap.size) (hk : ∀ k, v.ownBlock = some k → w'.heap[k]? = w.heap[k]?) : Rd w' v zs := by
  obtain ⟨h1, a, c, rfl, hc, hm, hn, h2⟩ := h
  refine ⟨h1, a, c, rfl, hc, hm, hn, fun hne => ?_⟩
  obtain ⟨b, off, rfl, hlt, hcell⟩ := h2 hne
  refine ⟨b, off, rfl, Nat.lt_of_lt_of_le hlt hs, fun j hj => ?_⟩
  rw [← hcell j hj]
  unfold World.cell?
  rw [hk b rfl]
/-- a step with a list of one's own -/
theorem tw_own {w W W' : World} {D1 b1 m1 D2 b2 m2 N : Nat} (h : Tw w W D1 b1 m1 D2 b2 m2 N) (hWb : Below W.heap.size W W') (hN : N ≤ 1099511627776) (o : AOp) (u : Value) (hzl : o.lits.length ≤ 1099511627776) (hu : Rd W' u o.lits) (hn : ∀ g, u.ownBlock = some g → W.heap.size ≤ g ∧ g < W'.heap.size) (hg : ∀ x ∈ o.lits, Rng x) (hr : Rng o.ref) :
    Calls Try.prog 5 #[.pointer (some ⟨D1, 0, none⟩), .agg #[.int .i64 o.kind, .int .i64 o.which, .int .i64 o.ref, u, .bool o.learnt]] W' fun e w' => e = .returned (.bool true) ∧ Tw w w' D1 b1 m1 D2 b2 m2 (N + (o.lits.length + 1)) :=
  tw_go h hWb hN o u hzl (fun F F' W'' hF hb p => rd_kept4 hu p.size (fun k hk => p.block k (hn k hk).2 (fun q => absurd (hF k q).2 (by have := (hn k hk).1; omega)))) hg hr
/-- a new pair of pairs -/
theorem Tw.new {w W : World} {D1 a1 m1 D2 a2 m2 : Nat} (h1 : W.heap[D1]? = some (.cells #[.pointer (some ⟨a1, 0, none⟩), .pointer (some ⟨m1, 0, none⟩), .slice none 0 0, .slice none 0 0] 28 (0, 0))) (h2 : W.heap[a1]? = some (.cells #[.slice none 0 0, .int .i64 0] 75 (0, 0))) (h3 : W.heap[m1]? = some (.cells #[.slice none 0 0] 48 (0, 0)))
    (k1 : W.heap[D2]? = some (.cells #[.pointer (some ⟨a2, 0, none⟩), .pointer (some ⟨m2, 0, none⟩), .slice none 0 0, .slice none 0 0] 28 (0, 0))) (k2 : W.heap[a2]? = some (.cells #[.slice none 0 0, .int .i64 0] 75 (0, 0))) (k3 : W.heap[m2]? = some (.cells #[.slice none 0 0] 48 (0, 0)))
    (e1 : D1 ≠ D2) (e2 : a1 ≠ a2) (e3 : m1 ≠ m2) (l1 : w.heap.size ≤ D1) (l2 : w.heap.size ≤ a1) (l3 : w.heap.size ≤ m1) (l4 : w.heap.size ≤ D2) (l5 : w.heap.size ≤ a2) (l6 : w.heap.size ≤ m2) (hb : Below w.heap.size w W) : Tw w W D1 a1 m1 D2 a2 m2 0 := by
  have t1 := tyB_cells h1
  have t2 := tyB_cells h2
  have t3 := tyB_cells h3
  have u1 := tyB_cells k1
  have u2 := tyB_cells k2
  have u3 := tyB_cells k3
  have x1 : D1 ≠ a2 := ne_ty t1 u2 (by decide)
  have x2 : D1 ≠ m2 := ne_ty t1 u3 (by decide)
  have x3 : a1 ≠ D2 := ne_ty t2 u1 (by decide)
  have x4 : a1 ≠ m2 := ne_ty t2 u3 (by decide)
  have x5 : m1 ≠ D2 := ne_ty t3 u1 (by decide)
  have x6 : m1 ≠ a2 := ne_ty t3 u2 (by decide)
  exact ⟨_, _, _, _, _, _, _, _, _, _, _, _, _, _, _, _, Pr4.new h1 h2 h3, Pr4.new k1 k2 k3, fun k q1 q2 => by omega, fun k q => by omega, fun k q => by omega, Nat.le_refl _, Nat.le_refl _, Nat.le_refl _, Nat.le_refl _, Nat.le_refl _, Nat.le_refl _, hb⟩
end Go.Proofs.Ytbhjpahieghepaa
