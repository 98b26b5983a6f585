/-
  A builder that is written to, text by text; what is written of relations (pure); allFormed, walked.
  KEEP: off c0 c1 c2 c3 c4 s0 s1 s2 s3 s4 newS rds lt f t q x len below nil form rd mono on app start at new trans refl kept own row out grown rdz set one more lt size cell some none letL tail next step go add put del get look no yes e c f b k n m box Ltr c0 c1 c2 newS u bel blw below22 at22 RdR RdRs
-/
import Derived.Test.YtmfcaoacklbkoaaDoorCvB
import Derived.Test.YtmfcaoacklbkoaaDoorShelfB
import Derived.Test.YtmfcaoacklbkoaaDoorJRlO
import Derived.Test.YtmfcaoacklbkoaaDoorJRlF
set_option linter.unusedSimpArgs false
set_option linter.unusedVariables false
namespace Go.Proofs.YtmfcaoacklbkoaaDoor
open Go Go.RowKit

def bC (T : ByteArray) : List Value := Lib.byteCells T.data.toList
theorem bC_app (a b : ByteArray) : bC (a ++ b) = bC a ++ bC b := by simp [bC, Lib.byteCells]
theorem bC_str (s : ByteArray) : Lib.strCells s = bC s := rfl
theorem bC_len (s : ByteArray) : (bC s).length = s.size := by simp [bC, Lib.byteCells, size20]
/-- a builder that has got T since w0 -/
structure Wt (B b : Nat) (w0 w : World) (T : ByteArray) : Prop where
  u : IsBd B b (bC T) w
  bel : Below B w0 w
theorem bd_blw22 {B b : Nat} {w w' : World} {bs : List Value} (h : IsBd B b bs w) (hb : Below w.heap.size w w') : IsBd B b bs w' := by
  have key : ∀ p, Lib.BuilderAtF 67 5 B b p bs w → Lib.BuilderAtF 67 5 B b p bs w' := fun p h => by
    obtain ⟨hB, v, hbk, hown, hne⟩ := h
    refine ⟨hB, v, (hb.block b (Array.getElem?_eq_some_iff.1 hbk).1).trans hbk, ⟨hown.1, ?_⟩, hne⟩
    rcases hown.2 with hn | ⟨g, cap, cur, fz, hv, hbg, hg, rest⟩
    · exact .inl hn
    · exact .inr ⟨g, cap, cur, fz, hv, hbg, (hb.block g (Array.getElem?_eq_some_iff.1 hg).1).trans hg, rest⟩
  exact h.elim (fun x => .inl (key _ x)) (fun x => .inr (key _ x))
theorem bd_new22 (w : World) : IsBd w.heap.size w.heap.size (bC ⟨#[]⟩) (w.alloc (.cells #[.pointer none, .slice none 0 0] 67)) :=
  .inl ⟨Nat.le_refl _, _, World.alloc_heap_new w _, ⟨rfl, .inl ⟨rfl, rfl⟩⟩, by simp [Value.ownBlock]⟩
theorem Wt.blw22 {B b : Nat} {w0 w w' : World} {T : ByteArray} (h : Wt B b w0 w T) (hB : B ≤ w.heap.size) (hb : Below w.heap.size w w') : Wt B b w0 w' T :=
  ⟨bd_blw22 h.u hb, h.bel.trans (hb.mono hB)⟩
theorem Wt.refl22 {B b : Nat} {w : World} {T : ByteArray} (h : IsBd B b (bC T) w) : Wt B b w w T := ⟨h, Below.refl _ _⟩
theorem Wt.str22 {B b : Nat} {w0 w : World} {T : ByteArray} (h : Wt B b w0 w T) (s : ByteArray) (hl : T.size + s.size ≤ 140737488355328) (hB : B ≤ w.heap.size) :
    Calls Tryd.prog 34 #[.pointer (some ⟨b, 0, none⟩), .string s] w fun e w' => e = .returned (.tuple #[.int .i64 s.size, .nilIface]) ∧ Wt B b w0 w' (T ++ s) ∧ BdK b w w' ∧ w.heap.size ≤ w'.heap.size := by
  refine (bString21 B b (bC T) s w h.u (by rw [bC_len]; exact hl) hB).mono ?_
  rintro e w' ⟨rfl, h1, h2, h3⟩
  refine ⟨rfl, ⟨?_, h.bel.trans h2⟩, h3, h2.size⟩
  rw [bC_app]
  exact .inr h1
theorem Rq.bdk22 {W W' : World} {D b : Nat} {n v : ByteArray} {o : Int} (h : Rq W D n o v) (hk : BdK b W W') (hne : D ≠ b) : Rq W' D n o v :=
  hk D _ h (fun e => hne (by injection e)) (fun c fz e => by injection e with _ e2; exact absurd e2 (by decide))

/-- what is written of relations, from number k on -/
def wrT (sep : ByteArray) : Nat → ByteArray → List Rl → ByteArray
  | _, acc, [] => acc
  | k, acc, r :: q => wrT sep (k + 1) ((if k = 0 then acc else acc ++ sep) ++ txtB r.1 r.2.1 r.2.2) q
def frmB (rs : List Rl) : Bool := rs.all fun r => relB r.1 r.2.1 r.2.2
theorem frmB_cons (r : Rl) (q : List Rl) : frmB (r :: q) = (relB r.1 r.2.1 r.2.2 && frmB q) := rfl
theorem altT_wr : ∀ (rs : List Rl) (k : Nat) (acc : ByteArray), altT k acc rs = if frmB rs = true then some (wrT ⟨#[32, 124, 32]⟩ k acc rs) else none
  | [], k, acc => rfl
  | r :: q, k, acc => by
    rw [altT, wrT, altT_wr q, frmB_cons]
    cases relB r.1 r.2.1 r.2.2
    · rfl
    · simp
theorem lisT_pl : ∀ (rs : List Rl) (k : Nat) (acc : ByteArray), lisT k acc (rs.map (fun r => [r])) = if frmB rs = true then some (wrT ⟨#[44, 32]⟩ k acc rs) else none
  | [], k, acc => rfl
  | r :: q, k, acc => by
    rw [List.map_cons, lisT, wrT, frmB_cons, if_neg (by simp), altT, altT]
    cases relB r.1 r.2.1 r.2.2
    · rfl
    · simp only [Bool.true_eq_false, if_false, Bool.true_and, if_true]
      exact lisT_pl q (k + 1) _
theorem frm_drop {rs : List Rl} {k : Nat} (h : k < rs.length) : frmB (rs.drop k) = (relB (rs.getD k noRl).1 (rs.getD k noRl).2.1 (rs.getD k noRl).2.2 && frmB (rs.drop (k + 1))) := by
  rw [List.drop_eq_getElem_cons h, frmB_cons, List.getD_eq_getElem?_getD, List.getElem?_eq_getElem h]; rfl
theorem wr_drop {sep : ByteArray} {rs : List Rl} {k : Nat} (acc : ByteArray) (h : k < rs.length) : wrT sep k acc (rs.drop k) = wrT sep (k + 1) ((if k = 0 then acc else acc ++ sep) ++ txtB (rs.getD k noRl).1 (rs.getD k noRl).2.1 (rs.getD k noRl).2.2) (rs.drop (k + 1)) := by
  rw [List.drop_eq_getElem_cons h, wrT, List.getD_eq_getElem?_getD, List.getElem?_eq_getElem h]; rfl
/-- how much is written -/
theorem wrT_size (sep : ByteArray) (hs : sep.size ≤ 3) : ∀ (rs : List Rl) (k : Nat) (acc : ByteArray), acc.size ≤ (wrT sep k acc rs).size ∧ (wrT sep k acc rs).size ≤ acc.size + szR rs
  | [], k, acc => ⟨Nat.le_refl _, Nat.le_refl _⟩
  | r :: q, k, acc => by
    rw [wrT, szR]
    obtain ⟨h1, h2⟩ := wrT_size sep hs q (k + 1) ((if k = 0 then acc else acc ++ sep) ++ txtB r.1 r.2.1 r.2.2)
    have h3 := txtB_size r.1 r.2.1 r.2.2
    have h4 : acc.size ≤ (if k = 0 then acc else acc ++ sep).size ∧ (if k = 0 then acc else acc ++ sep).size ≤ acc.size + 3 := by
      split
      · omega
      · rw [ByteArray.size_append]; omega
    rw [ByteArray.size_append] at h1 h2
    omega
theorem szR_at : ∀ (rs : List Rl) (k : Nat), k < rs.length → (rs.getD k noRl).1.size + (rs.getD k noRl).2.2.size + 10 ≤ szR rs
  | [], k, h => by simp at h
  | r :: q, 0, h => by simp only [szR, List.getD_cons_zero]; omega
  | r :: q, k + 1, h => by
    have := szR_at q k (by simpa using h)
    simp only [szR, List.getD_cons_succ]; omega

set_option maxHeartbeats 3200000 in
set_option maxRecDepth 20000 in
theorem allFormed22 (v : Value) (rs : List Rl) (w : World) (hr : RdR w v rs) (hT : OpT w) (hz : szR rs ≤ 1099511627776) :
    Calls Tryd.prog 33 #[v] w fun e w' => e = .returned (.bool (frmB rs)) ∧ Below w.heap.size w w' := by
  have HR : Hid (RdR w v rs) := hr
  have hlen := hr.1
  obtain ⟨a, c, rfl, hc, hm, -⟩ := hr.at22
  have HF : Hid (∀ V k, k < rs.length → OpT V → Calls Tryd.prog 11 #[.agg #[.string (rs.getD k noRl).1, .int .i64 (rs.getD k noRl).2.1, .string (rs.getD k noRl).2.2]] V fun e w' => e = .returned (.bool (relB (rs.getD k noRl).1 (rs.getD k noRl).2.1 (rs.getD k noRl).2.2)) ∧ Below V.heap.size V w') := fun V k hk h => pFormed22 _ _ _ V (by have := szR_at rs k hk; omega) (by have := szR_at rs k hk; omega) h
  have HD : Hid (∀ k, k < rs.length → frmB (rs.drop k) = (relB (rs.getD k noRl).1 (rs.getD k noRl).2.1 (rs.getD k noRl).2.2 && frmB (rs.drop (k + 1)))) := fun k hk => frm_drop hk
  have HF0 : Hid (frmB rs = frmB (rs.drop 0)) := rfl
  have HE0 : Hid (frmB (rs.drop rs.length) = true) := by show _ = _; rw [List.drop_length]; rfl
  have HT : Hid (OpT w) := hT
  clear hr hT hz
  generalize frmB rs = F at *
  obtain ⟨N, hN⟩ : ∃ N, N = rs.length := ⟨_, rfl⟩
  rw [← hN] at hlen hc HF HD HE0 ⊢
  have HRw : Hid (∀ W, Below w.heap.size w W → ∀ k, k < N → ∃ b off, a = some ⟨b, off, none⟩ ∧ W.cell? ⟨b, off + k * 3, none⟩ = some (.string (rs.getD k noRl).1) ∧ W.cell? ⟨b, off + k * 3 + 1, none⟩ = some (.int .i64 (rs.getD k noRl).2.1) ∧ W.cell? ⟨b, off + k * 3 + 2, none⟩ = some (.string (rs.getD k noRl).2.2)) := fun W hb k hk => by
    obtain ⟨a', c', e', -, -, hcl⟩ := (HR.out.below22 hb).at22
    have e3 : a' = a := by injection e' with q1 q2 q3; exact q1.symm
    subst e3
    exact hcl k (by omega)
  clear HR hN
  go_enter Tryd.func33, Tryd.ntmps33
  go_wp2
  go_loopg [7] N (fun g i wr => ∃ k : Nat, k + g = N ∧ i = .int .i64 k ∧ Hid (F = frmB (rs.drop k)) ∧ Hid (Below w.heap.size w wr))
  case atStart => exact ⟨0, by omega, rfl, HF0.out, Below.refl _ _⟩
  case round =>
    obtain ⟨k, hk, rfl, HK, HB⟩ := hrel
    have HG : Hid (k + gk = N) := hk
    clear HF0
    by_cases hlt : k < N
    · obtain ⟨b, off, rfl, z0, z1, z2⟩ := HRw.out wr HB.out k hlt
      have HC := HF.out
      have HK2 : Hid (F = (relB (rs.getD k noRl).1 (rs.getD k noRl).2.1 (rs.getD k noRl).2.2 && frmB (rs.drop (k + 1)))) := by show _ = _; rw [HK.out, HD.out k hlt]
      have HCk : Hid (∀ V, OpT V → Calls Tryd.prog 11 #[.agg #[.string (rs.getD k noRl).1, .int .i64 (rs.getD k noRl).2.1, .string (rs.getD k noRl).2.2]] V fun e w' => e = .returned (.bool (relB (rs.getD k noRl).1 (rs.getD k noRl).2.1 (rs.getD k noRl).2.2)) ∧ Below V.heap.size V w') := fun V h => HC V k hlt h
      clear HC HF HD HK hk
      generalize rs.getD k noRl = r at *
      obtain ⟨n, o, v⟩ := r
      simp only at HCk HK2 z0 z1 z2
      have HBa : Hid (Below w.heap.size w (wr.alloc (.cells #[.string n, .int .i64 o, .string v] 34))) := Below.alloc HB.out HB.out.size _
      have HQ : Hid (Rq (wr.alloc (.cells #[.string n, .int .i64 o, .string v] 34)) wr.heap.size n o v) := Rq.newS _ _ _ _ _ rfl
      have HTa : Hid (OpT (wr.alloc (.cells #[.string n, .int .i64 o, .string v] 34))) := HT.out.blw HBa.out
      have y0 : wr.cell? ⟨b, off + k * 3, none⟩ = some (.string n) := z0
      have y1 : wr.cell? ⟨b, off + k * 3 + 1, none⟩ = some (.int .i64 o) := z1
      have y2 : wr.cell? ⟨b, off + k * 3 + 2, none⟩ = some (.string v) := z2
      clear z0 z1 z2 HB
      generalize relB n o v = q at *
      go_upto_region 4 with fail
      clear y0 y1 y2
      generalize wr.alloc (.cells #[.string n, .int .i64 o, .string v] 34) = wa at *
      have x0 := HQ.out.c0
      have x1 := HQ.out.c1
      have x2 := HQ.out.c2
      generalize wr.heap.size = D at *
      cases q
      · have HE : Hid (F = false) := by show _ = _; rw [HK2.out, Bool.false_and]
        clear HK2
        go_wp2_with (go_at_call 11; refine (HCk.out _ HTa.out).mono ?_; rintro e w9 ⟨rfl, b9⟩; have HB9 : Hid (Below w.heap.size w w9) := HBa.out.trans (b9.mono HBa.out.size); clear b9)
        go_ret
        exact ⟨ret_bool HE.out.symm, HB9.out⟩
      · have HE : Hid (F = frmB (rs.drop (k + 1))) := by show _ = _; rw [HK2.out, Bool.true_and]
        clear HK2
        go_wp2_with (go_at_call 11; refine (HCk.out _ HTa.out).mono ?_; rintro e w9 ⟨rfl, b9⟩; have HB9 : Hid (Below w.heap.size w w9) := HBa.out.trans (b9.mono HBa.out.size); clear b9)
        go_roundg (gk - 1)
        case measure => have := HG.out; omega
        case rel => exact ⟨k + 1, by have := HG.out; omega, by first | rfl | go_num, HE.out, HB9.out⟩
    · have HE : Hid (F = true) := by
        show _ = _
        have e : k = N := by omega
        rw [HK.out, e, HE0.out]
      clear HK hk
      go_wp2
      go_ret
      exact ⟨ret_bool HE.out.symm, HB.out⟩

end Go.Proofs.YtmfcaoacklbkoaaDoor
