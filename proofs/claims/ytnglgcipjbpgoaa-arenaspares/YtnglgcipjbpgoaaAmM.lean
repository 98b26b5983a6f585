/-
  depotref04: the document's arena in memory; Words, Count, find, Learnt, walked.
  KEEP: set on app at below new trans refl start ap kept rd rds mono own row cells lt box lo mk find form max c0 f0 ml
-/
import Derived.Test.YtnglgcipjbpgoaaAmP
import Derived.Test.YtnglgcipjbpgoaaArK
set_option linter.unusedSimpArgs false
set_option linter.unusedVariables false
namespace Go.Proofs.Ytnglgcipjbpgoaa
open Go Go.RowKit

abbrev Mt := Value × Mc
def rowsM (L : List Mt) : List Value := L.flatMap (fun x => [.int .i64 x.2.pl, x.1, .bool x.2.learnt, .bool x.2.live])
theorem rowsM_at {L : List Mt} {i : Nat} (hi : i < L.length) : (rowsM L)[i * 4]? = some (.int .i64 L[i].2.pl) ∧ (rowsM L)[i * 4 + 1]? = some L[i].1 ∧ (rowsM L)[i * 4 + 2]? = some (.bool L[i].2.learnt) ∧ (rowsM L)[i * 4 + 3]? = some (.bool L[i].2.live) := by
  induction L generalizing i with
  | nil => simp at hi
  | cons x r ih =>
    rw [show rowsM (x :: r) = .int .i64 x.2.pl :: x.1 :: .bool x.2.learnt :: .bool x.2.live :: rowsM r from rfl]
    cases i with
    | zero => simp
    | succ j =>
      have := ih (i := j) (by simpa using hi)
      rw [show (j + 1) * 4 = j * 4 + 1 + 1 + 1 + 1 by omega]
      simpa using this
theorem rowsM_app (L M : List Mt) : rowsM (L ++ M) = rowsM L ++ rowsM M := by simp [rowsM]
/-- the document's list in memory -/
structure Mk4 (B : Nat) (W : World) (rv : Value) (L : List Mt) : Prop where
  row : W.ownsRow B 46 4 rv L.length (rowsM L)
  own : ∀ x ∈ L, Own B W x.1 x.2.lits
/-- the document's arena: its box, its list -/
structure Ma4 (B : Nat) (W : World) (m : Nat) (rv : Value) (L : List Mt) : Prop where
  box : W.heap[m]? = some (.cells #[rv] 62 (0, 0))
  ml : Mk4 B W rv L
  lo : B ≤ m
section
variable {B m : Nat} {W W' : World} {rv : Value} {L : List Mt}
theorem Mk4.below (h : Mk4 B W rv L) (hb : Below W.heap.size W W') : Mk4 B W' rv L :=
  ⟨World.ownsRow.kept h.row (grown_below hb) (one_or _), fun x hx => (h.own x hx).below hb⟩
theorem Ma4.lt (h : Ma4 B W m rv L) : m < W.heap.size := (Array.getElem?_eq_some_iff.1 h.box).1
theorem Ma4.below (h : Ma4 B W m rv L) (hb : Below W.heap.size W W') : Ma4 B W' m rv L := ⟨(hb.block m h.lt).trans h.box, h.ml.below hb, h.lo⟩
theorem Ma4.c0 (h : Ma4 B W m rv L) : W.cell? ⟨m, 0, none⟩ = some rv := by simp [World.cell?, h.box]
theorem Ma4.f0 (h : Ma4 B W m rv L) : W.frozen? ⟨m, 0, none⟩ = false := by simp [World.frozen?, h.box]
theorem Mk4.cells (h : Mk4 B W rv L) {i : Nat} (hi : i < L.length) : ∃ g cap, rv = .slice (some ⟨g, 0, none⟩) L.length cap ∧ L.length ≤ cap ∧ cap ≤ maxLen ∧ B ≤ g ∧ g < W.heap.size ∧
    W.cell? ⟨g, i * 4, none⟩ = some (.int .i64 L[i].2.pl) ∧ W.cell? ⟨g, i * 4 + 1, none⟩ = some L[i].1 ∧ W.cell? ⟨g, i * 4 + 2, none⟩ = some (.bool L[i].2.learnt) ∧ W.cell? ⟨g, i * 4 + 3, none⟩ = some (.bool L[i].2.live) ∧ ∀ j, W.frozen? ⟨g, j, none⟩ = false := by
  have hrow := h.row
  rcases hrow.2 with ⟨e, e2⟩ | ⟨g, cap, cur, rfl, hbg, hh, hnc, hcm, _⟩
  · omega
  · have hc := World.ownsRow.cells hrow (g := g) rfl
    obtain ⟨r0, r1, r2, r3⟩ := rowsM_at hi
    have a0 := hc _ _ r0
    have a1 := hc _ _ r1
    have a2 := hc _ _ r2
    have a3 := hc _ _ r3
    rw [Addr.add_lit, Nat.zero_add] at a0 a1 a2 a3
    exact ⟨g, cap, rfl, hnc, hcm, hbg, (Array.getElem?_eq_some_iff.1 hh).1, a0, a1, a2, a3, fun j => by simp [World.frozen?, hh]⟩
theorem Mk4.form (h : Mk4 B W rv L) : ∃ a c, rv = .slice a L.length c := row_form4 h.row
theorem Mk4.max (h : Mk4 B W rv L) : L.length ≤ maxLen := by
  rcases h.row.2 with ⟨_, e2⟩ | ⟨g, cap, cur, _, _, _, hnc, hcm, _⟩
  · omega
  · omega
theorem snd_at4 {L : List Mt} {i : Nat} (hi : i < L.length) : (L.map Prod.snd)[i]'(by simpa using hi) = L[i].2 := by simp
end
set_option maxHeartbeats 800000 in
theorem mWords_any (B m : Nat) (rv : Value) (L : List Mt) (w : World) (h : Ma4 B w m rv L) (hl : mwd (L.map Prod.snd) ≤ 4611686018427387904) :
    Calls Try.prog 30 #[.pointer (some ⟨m, 0, none⟩)] w fun e w' => e = .returned (.int .i64 (mwd (L.map Prod.snd))) ∧ w' = w := by
  have HM : Hid (Ma4 B w m rv L) := h
  have hmx := h.ml.max
  unfold maxLen at hmx
  obtain ⟨ra, rc, hrv⟩ := h.ml.form
  subst hrv
  have c0 := h.c0
  have HW : Hid (mwd (L.map Prod.snd) ≤ 4611686018427387904) := hl
  clear h hl
  go_enter Try.func30, Try.ntmps30
  go_wp2
  go_loopg [3, 4] L.length (fun q n' i' wr => ∃ k : Nat, k + q = L.length ∧ i' = .int .i64 k ∧ n' = .int .i64 (mwd ((L.map Prod.snd).take k)) ∧ wr = w)
  case atStart => exact ⟨0, by omega, rfl, rfl, rfl⟩
  case round =>
    obtain ⟨k, hk, rfl, rfl, ew⟩ := hrel
    have ew := ew.symm
    subst ew
    have HK : Hid (k + gk = L.length) := hk
    clear hk
    by_cases hlt : k < L.length
    · obtain ⟨g, cap, erv, hnc, hcm, hBg, hgl, d0, d1, d2, d3, df⟩ := HM.out.ml.cells hlt
      injection erv with e1 e2 e3
      subst e1; subst e3
      clear e2
      have ho := HM.out.ml.own _ (List.getElem_mem hlt)
      obtain ⟨la, lc, hls⟩ := own_form ho
      rw [hls] at d1
      have hmt := mwd_take (L.map Prod.snd) k (by simpa using hlt)
      rw [snd_at4 hlt] at hmt
      have hle := mwd_le (L.map Prod.snd) (k + 1)
      have hW := HW.out
      have HLT : Hid (k < L.length) := hlt
      have HMt : Hid (mwd ((L.map Prod.snd).take (k + 1)) = mwd ((L.map Prod.snd).take k) + 1 + L[k].2.lits.length) := hmt
      rw [hmt] at hle
      clear hls ho d0 d2 d3 df hmt
      generalize L[k].2.lits.length = zl at *
      generalize mwd ((L.map Prod.snd).take k) = M at *
      generalize mwd (L.map Prod.snd) = MM at *
      go_wp2
      go_roundg (gk - 1)
      case measure => have := HK.out; have := HLT.out; omega
      case rel => exact ⟨k + 1, by have := HK.out; have := HLT.out; omega, by go_num, by rw [HMt.out]; go_num, rfl⟩
    · obtain rfl : k = L.length := by have := HK.out; omega
      have HE : Hid (mwd ((L.map Prod.snd).take L.length) = mwd (L.map Prod.snd)) := by show _ = _; rw [List.take_of_length_le (by simp)]
      rw [HE.out]
      clear hlt
      go_wp2
      go_ret
      exact ⟨rfl, rfl⟩
set_option maxHeartbeats 800000 in
theorem mCount_any (B m : Nat) (rv : Value) (L : List Mt) (w : World) (h : Ma4 B w m rv L) :
    Calls Try.prog 29 #[.pointer (some ⟨m, 0, none⟩)] w fun e w' => e = .returned (.int .i64 (mct (L.map Prod.snd))) ∧ w' = w := by
  have HM : Hid (Ma4 B w m rv L) := h
  have hmx := h.ml.max
  unfold maxLen at hmx
  obtain ⟨ra, rc, hrv⟩ := h.ml.form
  subst hrv
  have c0 := h.c0
  clear h
  go_enter Try.func29, Try.ntmps29
  go_wp2
  go_loopg [3, 4] L.length (fun q n' i' wr => ∃ k : Nat, k + q = L.length ∧ i' = .int .i64 k ∧ n' = .int .i64 (mct ((L.map Prod.snd).take k)) ∧ wr = w)
  case atStart => exact ⟨0, by omega, rfl, rfl, rfl⟩
  case round =>
    obtain ⟨k, hk, rfl, rfl, ew⟩ := hrel
    have ew := ew.symm
    subst ew
    have HK : Hid (k + gk = L.length) := hk
    clear hk
    by_cases hlt : k < L.length
    · obtain ⟨g, cap, erv, hnc, hcm, hBg, hgl, d0, d1, d2, d3, df⟩ := HM.out.ml.cells hlt
      injection erv with e1 e2 e3
      subst e1; subst e3
      clear e2
      have hmt := mct_take (L.map Prod.snd) k (by simpa using hlt)
      rw [snd_at4 hlt] at hmt
      have hle := mct_le (L.map Prod.snd) k
      have HLT : Hid (k < L.length) := hlt
      obtain ⟨lb, hlb⟩ : ∃ lb, L[k].2.live = lb := ⟨_, rfl⟩
      have d3' := d3.trans (congrArg (fun b => some (Value.bool b)) hlb)
      have hmt' := hmt.trans (congrArg (fun b : Bool => mct ((L.map Prod.snd).take k) + if b = true then 1 else 0) hlb)
      clear hlb d3 hmt
      cases lb
      · have HMt : Hid (mct ((L.map Prod.snd).take (k + 1)) = mct ((L.map Prod.snd).take k)) := by show _ = _; rw [hmt']; simp
        clear d0 d1 d2 df hmt'
        generalize mct ((L.map Prod.snd).take k) = M at *
        go_wp2
        go_roundg (gk - 1)
        case measure => have := HK.out; have := HLT.out; omega
        case rel => exact ⟨k + 1, by have := HK.out; have := HLT.out; omega, by go_num, by rw [HMt.out], rfl⟩
      · have HMt : Hid (mct ((L.map Prod.snd).take (k + 1)) = mct ((L.map Prod.snd).take k) + 1) := by show _ = _; rw [hmt']; simp
        clear d0 d1 d2 df hmt'
        generalize mct ((L.map Prod.snd).take k) = M at *
        go_wp2
        go_roundg (gk - 1)
        case measure => have := HK.out; have := HLT.out; omega
        case rel => exact ⟨k + 1, by have := HK.out; have := HLT.out; omega, by go_num, by rw [HMt.out]; go_num, rfl⟩
    · obtain rfl : k = L.length := by have := HK.out; omega
      have HE : Hid (mct ((L.map Prod.snd).take L.length) = mct (L.map Prod.snd)) := by show _ = _; rw [List.take_of_length_le (by simp)]
      rw [HE.out]
      clear hlt
      go_wp2
      go_ret
      exact ⟨rfl, rfl⟩
/-- what find says -/
def Fi4 (L : List Mt) (r : Int) (e : Ending) : Prop :=
  (e = .returned (.int .i64 (-1)) ∧ ∀ x ∈ L, ¬ (x.2.live = true ∧ x.2.pl = r)) ∨ ∃ i, ∃ h : i < L.length, e = .returned (.int .i64 i) ∧ L[i].2.live = true ∧ L[i].2.pl = r ∧ ∀ k (hk : k < i), ¬ (L[k].2.live = true ∧ L[k].2.pl = r)
set_option maxHeartbeats 800000 in
theorem mFind_any (B m : Nat) (rv : Value) (L : List Mt) (r : Int) (w : World) (h : Ma4 B w m rv L) :
    Calls Try.prog 43 #[.pointer (some ⟨m, 0, none⟩), .int .i64 r] w fun e w' => Fi4 L r e ∧ w' = w := by
  have HM : Hid (Ma4 B w m rv L) := h
  have hmx := h.ml.max
  unfold maxLen at hmx
  obtain ⟨ra, rc, hrv⟩ := h.ml.form
  subst hrv
  have c0 := h.c0
  clear h
  go_enter Try.func43, Try.ntmps43
  go_wp2
  go_loopg [5] L.length (fun q i' wr => ∃ k : Nat, k + q = L.length ∧ i' = .int .i64 k ∧ wr = w ∧ ∀ i (hi : i < L.length), i < k → ¬ (L[i].2.live = true ∧ L[i].2.pl = r))
  case atStart => exact ⟨0, by omega, rfl, rfl, fun i _ hi => absurd hi (Nat.not_lt_zero _)⟩
  case round =>
    obtain ⟨k, hk, rfl, ew, hno⟩ := hrel
    have ew := ew.symm
    subst ew
    have HK : Hid (k + gk = L.length) := hk
    have HNo : Hid (∀ i (hi : i < L.length), i < k → ¬ (L[i].2.live = true ∧ L[i].2.pl = r)) := hno
    clear hk hno
    by_cases hlt : k < L.length
    · obtain ⟨g, cap, erv, hnc, hcm, hBg, hgl, d0, d1, d2, d3, df⟩ := HM.out.ml.cells hlt
      injection erv with e1 e2 e3
      subst e1; subst e3
      clear e2
      have HLT : Hid (k < L.length) := hlt
      obtain ⟨x, hx⟩ : ∃ x, L[k].2 = x := ⟨_, rfl⟩
      have d0' := d0.trans (congrArg (fun y : Mc => some (Value.int .i64 y.pl)) hx)
      have d3' := d3.trans (congrArg (fun y : Mc => some (Value.bool y.live)) hx)
      have hxe : (L[k].2.live = true ∧ L[k].2.pl = r) ↔ (x.live = true ∧ x.pl = r) := by subst hx; exact Iff.rfl
      have HN1 : Hid (¬ (x.live = true ∧ x.pl = r) → ∀ i (hi : i < L.length), i < k + 1 → ¬ (L[i].2.live = true ∧ L[i].2.pl = r)) := fun hx' i hi hik => by
        by_cases e : i = k
        · subst e; exact fun hh => hx' (hxe.1 hh)
        · exact HNo.out i hi (by omega)
      have HY : Hid ((x.live = true ∧ x.pl = r) → Fi4 L r (.returned (.int .i64 (k : Int)))) := fun hh => .inr ⟨k, hlt, rfl, (hxe.2 hh).1, (hxe.2 hh).2, fun i hi => HNo.out i (by omega) hi⟩
      clear d0 d1 d2 d3 df hx hxe
      obtain ⟨xp, xl, xr, xv⟩ := x
      cases xv
      · have HN2 : Hid (∀ i (hi : i < L.length), i < k + 1 → ¬ (L[i].2.live = true ∧ L[i].2.pl = r)) := HN1.out (by simp)
        go_wp2
        go_roundg (gk - 1)
        case measure => have := HK.out; have := HLT.out; omega
        case rel => exact ⟨k + 1, by have := HK.out; have := HLT.out; omega, by go_num, rfl, HN2.out⟩
      · by_cases hp : xp = r
        · have HF : Hid (Fi4 L r (.returned (.int .i64 (k : Int)))) := HY.out ⟨rfl, hp⟩
          subst hp
          go_wp2
          go_ret
          exact ⟨HF.out, rfl⟩
        · have HN2 : Hid (∀ i (hi : i < L.length), i < k + 1 → ¬ (L[i].2.live = true ∧ L[i].2.pl = r)) := HN1.out (fun ⟨_, b⟩ => hp b)
          have hpb : (xp == r) = false := beq_eq_false_iff_ne.2 hp
          clear hp
          go_wp2
          go_roundg (gk - 1)
          case measure => have := HK.out; have := HLT.out; omega
          case rel => exact ⟨k + 1, by have := HK.out; have := HLT.out; omega, by go_num, rfl, HN2.out⟩
    · obtain rfl : k = L.length := by have := HK.out; omega
      have HF : Hid (Fi4 L r (.returned (.int .i64 (-1)))) := .inl ⟨rfl, fun x hx => by
        obtain ⟨i, hi, e⟩ := List.getElem_of_mem hx
        rw [← e]
        exact HNo.out i hi hi⟩
      clear hlt
      go_wp2
      go_ret
      exact ⟨HF.out, rfl⟩
end Go.Proofs.Ytnglgcipjbpgoaa
