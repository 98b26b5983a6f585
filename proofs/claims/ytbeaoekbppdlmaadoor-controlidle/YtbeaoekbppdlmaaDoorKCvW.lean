/-
  control.writeField, walked.
  KEEP: below len form out each rd mono nil own row set on app start grown at new one more take none some kept cell refl trans size map made look put blw
-/
import Derived.Test.YtbeaoekbppdlmaaDoorCvB
import Derived.Test.YtbeaoekbppdlmaaDoorKCvV
import Derived.Test.YtbeaoekbppdlmaaDoorKCtW
import Derived.Test.YtbeaoekbppdlmaaDoorJCvA
set_option linter.unusedSimpArgs false
set_option linter.unusedVariables false
namespace Go.Proofs.YtbeaoekbppdlmaaDoor
open Go Go.RowKit

/-- what is written of pieces, from number k on -/
def wpT : Nat → List (List UInt8) → List UInt8
  | _, [] => []
  | k, p :: r => (if k = 0 then [] else [10]) ++ ((if p = [] then [] else 32 :: p) ++ wpT (k + 1) r)
theorem wpT_cons (k : Nat) (p : List UInt8) (r : List (List UInt8)) : wpT k (p :: r) = (if k = 0 then [] else [10]) ++ ((if p = [] then [] else 32 :: p) ++ wpT (k + 1) r) := by cases k <;> rfl
def fldW (f : Fld) : List UInt8 := f.1 ++ (58 :: (wpT 0 (pcF f.2) ++ [10]))
theorem wpT_pieces : ∀ (r : List (List UInt8)) (k : Nat), pcsOk (k + 1) r = true → wpT (k + 1) r = pieceT r
  | [], k, _ => rfl
  | p :: r, k, h => by
    rw [pcsOk, Bool.and_eq_true] at h
    have hp : p ≠ [] := by
      intro e
      have := h.1
      unfold pcOk at this
      simp [e] at this
    rw [wpT_cons, if_neg (by omega), if_neg hp, wpT_pieces r (k + 1) h.2]
    simp [pieceT]
theorem fldW_eq {f : Fld} (h : valF f.2 = true) : fldW f = fldT f := by
  rw [valF_ok] at h
  unfold fldW fldT
  rw [pcF_cut] at h ⊢
  generalize (if hasN f.2 = true then pcF (cutN f.2).2 else []) = r at *
  rw [pcsOk, Bool.and_eq_true] at h
  rw [wpT_cons, if_pos rfl, wpT_pieces r 0 h.2]
  simp [hdT]
theorem wpT_drop {k : Nat} {l : List (List UInt8)} (h : k < l.length) : wpT k (l.drop k) = (if k = 0 then [] else [10]) ++ ((if l.getD k [] = [] then [] else 32 :: l.getD k []) ++ wpT (k + 1) (l.drop (k + 1))) := by
  rw [List.drop_eq_getElem_cons h, wpT_cons]; simp [List.getD_eq_getElem?_getD, h]
/-- the bytes of a text, as a builder holds them -/
def bL (l : List UInt8) : List Value := Lib.byteCells l
theorem bL_app (a b : List UInt8) : bL (a ++ b) = bL a ++ bL b := bytes_app a b
theorem bL_str (s : ByteArray) : Lib.strCells s = bL s.data.toList := rfl
theorem bL_len (l : List UInt8) : (bL l).length = l.length := by simp [bL, Lib.byteCells]

/-- a builder that has got T since w0 -/
structure Wst (B b : Nat) (w0 w : World) (T : List UInt8) : Prop where
  u : IsBd B b (bL T) w
  bel : Below B w0 w
  k : BdK b w0 w
theorem bd_below {B b : Nat} {w w' : World} {bs : List Value} (h : IsBd B b bs w) (hb : Below w.heap.size w w') : IsBd B b bs w' := by
  have key : ∀ p, Lib.BuilderAtF 53 5 B b p bs w → Lib.BuilderAtF 53 5 B b p bs w' := fun p h => by
    obtain ⟨hB, v, hbk, hown, hne⟩ := h
    refine ⟨hB, v, (hb.block b (Array.getElem?_eq_some_iff.1 hbk).1).trans hbk, ⟨hown.1, ?_⟩, hne⟩
    rcases hown.2 with hn | ⟨g, cap, cur, fz, hv, hbg, hg, rest⟩
    · exact .inl hn
    · exact .inr ⟨g, cap, cur, fz, hv, hbg, (hb.block g (Array.getElem?_eq_some_iff.1 hg).1).trans hg, rest⟩
  exact h.elim (fun x => .inl (key _ x)) (fun x => .inr (key _ x))
theorem bdk_below {b : Nat} {w w' : World} (hb : Below w.heap.size w w') : BdK b w w' := fun k o hk _ _ => (hb.block k (Array.getElem?_eq_some_iff.1 hk).1).trans hk
theorem Wst.blw {B b : Nat} {w0 w w' : World} {T : List UInt8} (h : Wst B b w0 w T) (hB : B ≤ w.heap.size) (hb : Below w.heap.size w w') : Wst B b w0 w' T :=
  ⟨bd_below h.u hb, h.bel.trans (hb.mono hB), h.k.trans (bdk_below hb)⟩
theorem Wst.base {B b : Nat} {w w0 w' : World} {T : List UInt8} (h : Wst B b w0 w' T) (h1 : Below B w w0) (h2 : BdK b w w0) : Wst B b w w' T := ⟨h.u, h1.trans h.bel, h2.trans h.k⟩
theorem Wst.refl {B b : Nat} {w : World} {T : List UInt8} (h : IsBd B b (bL T) w) : Wst B b w w T := ⟨h, Below.refl _ _, Lib.OthersKept.refl _ _ _⟩
theorem Wst.str {B b : Nat} {w0 w : World} {T : List UInt8} (h : Wst B b w0 w T) (s : List UInt8) (hl : T.length + s.length ≤ 140737488355328) (hB : B ≤ w.heap.size) :
    Calls Tryd.prog 37 #[.pointer (some ⟨b, 0, none⟩), .string ⟨s.toArray⟩] w fun e w' => e = .returned (.tuple #[.int .i64 (⟨s.toArray⟩ : ByteArray).size, .nilIface]) ∧ Wst B b w0 w' (T ++ s) := by
  refine (bString21 B b (bL T) ⟨s.toArray⟩ w h.u (by rw [bL_len, sizeL]; exact hl) hB).mono ?_
  rintro e w' ⟨rfl, h1, h2, h3⟩
  refine ⟨rfl, ?_, h.bel.trans h2, h.k.trans h3⟩
  rw [bL_app]
  rw [bL_str, strV_list] at h1
  exact .inr h1
theorem Wst.byte {B b : Nat} {w0 w : World} {T : List UInt8} (h : Wst B b w0 w T) (c : UInt8) (z : Int) (hz : z = c.toNat) (hl : T.length + 1 ≤ 140737488355328) (hB : B ≤ w.heap.size) :
    Calls Tryd.prog 21 #[.pointer (some ⟨b, 0, none⟩), .int .u8 z] w fun e w' => e = .returned .nilIface ∧ Wst B b w0 w' (T ++ [c]) := by
  subst hz
  refine (bByte21 B b (bL T) c.toNat w h.u (by rw [bL_len]; exact hl) hB).mono ?_
  rintro e w' ⟨rfl, h1, h2, h3⟩
  refine ⟨rfl, ?_, h.bel.trans h2, h.k.trans h3⟩
  rw [bL_app]
  exact .inr h1
theorem Fz2.bdk {W W' : World} {D b : Nat} {x y : List UInt8} (h : Fz2 W D x y) (hk : BdK b W W') (hne : D ≠ b) : Fz2 W' D x y :=
  hk D _ h (fun e => hne (by injection e)) (fun c fz e => by injection e with _ e2; exact absurd e2 (by decide))
theorem row_bdk {W W' : World} {g b : Nat} {cs : Array Value} (h : W.heap[g]? = some (.cells cs 9 (0, 0))) (hk : BdK b W W') (hne : g ≠ b) : W'.heap[g]? = some (.cells cs 9 (0, 0)) :=
  hk g _ h (fun e => hne (by injection e)) (fun c fz e => by injection e with _ e2; exact absurd e2 (by decide))

set_option maxHeartbeats 3200000 in
theorem wField21 (B b : Nat) (T f1 f2 : List UInt8) (w : World) (h : IsBd B b (bL T) w) (hlen : T.length + (fldW (f1, f2)).length ≤ 140737488355328) (hBw : B ≤ w.heap.size) (hs : f2.length < 4294967281) :
    Calls Tryd.prog 22 #[.pointer (some ⟨b, 0, none⟩), .agg #[.string ⟨f1.toArray⟩, .string ⟨f2.toArray⟩]] w fun e w' => e = .returned (.tuple #[]) ∧ Wst B b w w' (T ++ fldW (f1, f2)) := by
  have hbl : b < w.heap.size := h.elim (fun x => x.lt) (fun x => x.lt)
  obtain ⟨wa, hwa⟩ : ∃ wa, wa = w.alloc (.cells #[.string ⟨f1.toArray⟩, .string ⟨f2.toArray⟩] 50) := ⟨_, rfl⟩
  have HFz : Hid (Fz2 wa w.heap.size f1 f2) := by rw [hwa]; exact Fz2.mk1 _ _ _
  have hba : Below w.heap.size w wa := by rw [hwa]; exact Below.alloc (Below.refl _ _) (Nat.le_refl _) _
  have HWa : Hid (Wst B b wa wa T) := Wst.refl (bd_below h hba)
  have HEnd : Hid (∀ w' X, Wst B b wa w' X → Wst B b w w' X) := fun w' X h => h.base (hba.mono hBw) (bdk_below hba)
  have HBa : Hid (B ≤ wa.heap.size) := Nat.le_trans hBw hba.size
  have HBz : Hid (∀ w' X, Wst B b wa w' X → B ≤ w'.heap.size) := fun w' X h => Nat.le_trans HBa.out h.bel.size
  have hNe : w.heap.size ≠ b := by omega
  obtain ⟨S, hS⟩ : ∃ S, S = fldW (f1, f2) := ⟨_, rfl⟩
  have hSl : T.length + (f1.length + (1 + ((wpT 0 (pcF f2)).length + 1))) ≤ 140737488355328 := by
    have : (fldW (f1, f2)).length = f1.length + (1 + ((wpT 0 (pcF f2)).length + 1)) := by simp [fldW]; omega
    omega
  have HSp : Hid (∀ w, Calls Tryd.prog 38 #[.string ⟨f2.toArray⟩, .string ⟨#[10]⟩] w fun e w' => e = .returned (.slice (some ⟨w.heap.size, 0, none⟩) (spB ⟨f2.toArray⟩).length (spB ⟨f2.toArray⟩).length) ∧ w' = w.alloc (.cells ((spB ⟨f2.toArray⟩).map Value.string).toArray 9)) := fun w => split21 _ w (by rw [sizeL]; exact hs)
  have HAt : Hid (∀ k (hk : k < (spB ⟨f2.toArray⟩).length), (spB ⟨f2.toArray⟩)[k] = ⟨((pcF f2).getD k []).toArray⟩) := fun k hk => by
    have := (spB_at ⟨f2.toArray⟩ k hk).1
    rw [strV_list] at this
    rw [← this, ba_mk]
  have HLn : Hid ((spB ⟨f2.toArray⟩).length = (pcF f2).length) := by
    have := spB_len ⟨f2.toArray⟩
    rwa [strV_list] at this
  have hPl : (spB ⟨f2.toArray⟩).length ≤ 4294967282 := by
    have := Lib.countB_le ⟨#[10]⟩ (by decide) _ (⟨f2.toArray⟩ : ByteArray) (Nat.le_refl _)
    have h2 : (spB ⟨f2.toArray⟩).length = Lib.countB ⟨f2.toArray⟩ ⟨#[10]⟩ + 1 := Lib.splitB_all ⟨#[10]⟩ (by decide) 0 _ _ rfl
    have h3 := sizeL f2
    omega
  have HG0 : Hid (T ++ fldW (f1, f2) = ((T ++ f1) ++ [58]) ++ (wpT 0 ((pcF f2).drop 0) ++ [10])) := by show _ = _; simp [fldW]
  have HGl : Hid ((((T ++ f1) ++ [58]) ++ (wpT 0 ((pcF f2).drop 0) ++ [10])).length ≤ 140737488355328) := by show _ ≤ _; rw [← HG0.out, List.length_append]; exact hlen
  have hwn := hwa
  clear hS S
  go_enter Tryd.func22, Tryd.ntmps22
  go_wp2_with fail
  rw [← hwn]
  refine (HWa.out.str f1 (by omega) HBa.out).mono ?_
  rintro e w1 ⟨rfl, h1⟩
  have HW1 : Hid (Wst B b wa w1 (T ++ f1)) := h1
  clear h1 hwn hwa
  go_wp2_with fail
  refine (HW1.out.byte 58 58 rfl (by rw [List.length_append]; omega) (HBz.out _ _ HW1.out)).mono ?_
  rintro e w2 ⟨rfl, h2⟩
  have HW2 : Hid (Wst B b wa w2 ((T ++ f1) ++ [58])) := h2
  have HF2 : Hid (Fz2 w2 w.heap.size f1 f2) := HFz.out.bdk h2.k hNe
  have c1 := HF2.out.c1
  clear h2 HW1
  go_wp2_with fail
  refine (HSp.out _).mono ?_
  rintro e w3 ⟨rfl, h3⟩
  clear c1 HSp HF2 HFz
  have hwr : w3.heap[w2.heap.size]? = some (.cells ((spB ⟨f2.toArray⟩).map Value.string).toArray 9 (0, 0)) := by rw [h3]; exact World.alloc_heap_new _ _
  have HW3 : Hid (Wst B b wa w3 ((T ++ f1) ++ [58])) := HW2.out.blw (HBz.out _ _ HW2.out) (by rw [h3]; exact Below.alloc (Below.refl _ _) (Nat.le_refl _) _)
  have hn3 : w2.heap.size ≠ b := by
    have := (HW2.out.u.elim (fun x => x.lt) (fun x => x.lt) : b < w2.heap.size)
    omega
  have HRow : Hid (∀ w' X, Wst B b w3 w' X → ∀ k (hk : k < (spB ⟨f2.toArray⟩).length), w'.cell? ⟨w2.heap.size, k, none⟩ = some (.string ⟨((pcF f2).getD k []).toArray⟩)) := fun w' X hw k hk => by
    have hh := row_bdk hwr hw.k hn3
    have := HAt.out k hk
    simp [World.cell?, hh, hk, this]
  have HE3 : Hid (∀ w' X, Wst B b w3 w' X → Wst B b w w' X) := fun w' X h => HEnd.out _ _ (h.base HW3.out.bel HW3.out.k)
  have HB3 : Hid (∀ w' X, Wst B b w3 w' X → B ≤ w'.heap.size) := fun w' X h => Nat.le_trans (HBz.out _ _ HW3.out) h.bel.size
  have HW4 : Hid (Wst B b w3 w3 ((T ++ f1) ++ [58])) := Wst.refl HW3.out.u
  clear h3 hwr hn3 HW2 HW3 HEnd HBz HWa HBa HAt
  have hlT : ((T ++ f1) ++ [58]).length ≤ 140737488355328 := by have := HGl.out; rw [List.length_append] at this; omega
  generalize (T ++ f1) ++ [58] = T0 at *
  generalize pcF f2 = PS at *
  generalize spB ⟨f2.toArray⟩ = P at *
  generalize w2.heap.size = g at *
  generalize w.heap.size = D at *
  obtain ⟨GG, hGG⟩ : ∃ GG, GG = T0 ++ (wpT 0 (PS.drop 0) ++ [10]) := ⟨_, rfl⟩
  rw [← hGG] at HG0 HGl
  have HI0 : Hid (T0 ++ (wpT 0 (PS.drop 0) ++ [10]) = GG) := hGG.symm
  clear hGG
  go_wp2_with fail
  go_loopg [16] P.length (fun g i wr => ∃ (k : Nat) (X : List UInt8), k + g = P.length ∧ i = .int .i64 k ∧ Hid (X ++ (wpT k (PS.drop k) ++ [10]) = GG) ∧ Hid (Wst B b w3 wr X))
  case atStart => exact ⟨0, T0, by omega, rfl, HI0.out, HW4.out⟩
  case round =>
    obtain ⟨k, X, hk, rfl, HK, HX1⟩ := hrel
    have HG : Hid (k + gk = P.length) := hk
    clear HI0 HW4
    by_cases hlt : k < P.length
    · have hcell := HRow.out _ _ HX1.out k hlt
      have hX : X ++ (((if k = 0 then [] else [10]) ++ ((if PS.getD k [] = [] then [] else 32 :: PS.getD k []) ++ wpT (k + 1) (PS.drop (k + 1)))) ++ [10]) = GG := by rw [← wpT_drop (by rw [← HLn.out]; exact hlt)]; exact HK.out
      have HCl : Hid (∀ w' Y, Wst B b w3 w' Y → w'.cell? ⟨g, k, none⟩ = some (.string ⟨(PS.getD k []).toArray⟩)) := fun w' Y hw => HRow.out _ _ hw k hlt
      generalize PS.getD k [] = p at *
      have HX : Hid (X ++ (((if k = 0 then [] else [10]) ++ ((if p = [] then [] else 32 :: p) ++ wpT (k + 1) (PS.drop (k + 1)))) ++ [10]) = GG) := hX
      clear HK hX hk
      by_cases h0 : 0 < k
      · have HY : Hid ((X ++ [10]) ++ (((if p = [] then [] else 32 :: p) ++ wpT (k + 1) (PS.drop (k + 1))) ++ [10]) = GG) := by show _ = _; rw [← HX.out, if_neg (show ¬ k = 0 by omega)]; simp
        have hlX : X.length + 1 ≤ 140737488355328 := by have h1 := HGl.out; rw [← HY.out] at h1; simp at h1; omega
        clear HX
        by_cases hp : p = []
        · have HZ : Hid (X ++ [10] ++ (wpT (k + 1) (PS.drop (k + 1)) ++ [10]) = GG) := by show _ = _; rw [← HY.out, if_pos hp]; simp
          subst hp
          clear HY
          go_wp2_with (go_at_call 21; refine (HX1.out.byte 10 10 rfl hlX (HB3.out _ _ HX1.out)).mono ?_; rintro e w5 ⟨rfl, q5⟩; have HX2 : Hid (Wst B b w3 w5 (X ++ [10])) := q5; clear q5)
          all_goals
            go_roundg (gk - 1)
            case measure => have := HG.out; omega
            case rel => exact ⟨k + 1, X ++ [10], by have := HG.out; omega, by go_num, HZ.out, HX2.out⟩
        · have HZ : Hid (((X ++ [10] ++ [32]) ++ p) ++ (wpT (k + 1) (PS.drop (k + 1)) ++ [10]) = GG) := by show _ = _; rw [← HY.out, if_neg hp]; simp
          have hl1 : (X ++ [10]).length + 1 ≤ 140737488355328 := by have h1 := HGl.out; rw [← HZ.out] at h1; simp at h1 ⊢; omega
          have hl2 : ((X ++ [10]) ++ [32]).length + p.length ≤ 140737488355328 := by have h1 := HGl.out; rw [← HZ.out] at h1; simp at h1 ⊢; omega
          have hpl : ¬ (⟨p.toArray⟩ : ByteArray).toList = [] := fun e => hp (by rw [ByteArray.toList_eq] at e; simpa using e)
          have hpe : (⟨p.toArray⟩ : ByteArray).toList.isEmpty = false := by simpa using hpl
          have hpd : ¬ (⟨p.toArray⟩ : ByteArray).data = #[] := fun e => hp (by simpa using e)
          have HSt : Hid (∀ w', Wst B b w3 w' ((X ++ [10]) ++ [32]) → Calls Tryd.prog 37 #[.pointer (some ⟨b, 0, none⟩), .string ⟨p.toArray⟩] w' fun e w'' => e = .returned (.tuple #[.int .i64 (⟨p.toArray⟩ : ByteArray).size, .nilIface]) ∧ Wst B b w3 w'' (((X ++ [10]) ++ [32]) ++ p)) := fun w' hw => hw.str p hl2 (HB3.out _ _ hw)
          have HBy : Hid (∀ w', Wst B b w3 w' (X ++ [10]) → Calls Tryd.prog 21 #[.pointer (some ⟨b, 0, none⟩), .int .u8 32] w' fun e w'' => e = .returned .nilIface ∧ Wst B b w3 w'' ((X ++ [10]) ++ [32])) := fun w' hw => hw.byte 32 32 rfl hl1 (HB3.out _ _ hw)
          clear HY hp hl1 hl2
          generalize (⟨p.toArray⟩ : ByteArray) = PB at *
          go_wp2_with (first | (go_at_call 37; refine (HSt.out _ HX3.out).mono ?_; rintro e w7 ⟨rfl, q7⟩; have HX4 : Hid (Wst B b w3 w7 (((X ++ [10]) ++ [32]) ++ p)) := q7; clear q7) | (go_at_call 21; refine (HBy.out _ HX2.out).mono ?_; rintro e w6 ⟨rfl, q6⟩; have HX3 : Hid (Wst B b w3 w6 ((X ++ [10]) ++ [32])) := q6; clear q6) | (go_at_call 21; refine (HX1.out.byte 10 10 rfl hlX (HB3.out _ _ HX1.out)).mono ?_; rintro e w5 ⟨rfl, q5⟩; have HX2 : Hid (Wst B b w3 w5 (X ++ [10])) := q5; clear q5))
          all_goals
            go_roundg (gk - 1)
            case measure => have := HG.out; omega
            case rel => exact ⟨k + 1, _, by have := HG.out; omega, by go_num, HZ.out, HX4.out⟩
      · have HY : Hid (X ++ (((if p = [] then [] else 32 :: p) ++ wpT (k + 1) (PS.drop (k + 1))) ++ [10]) = GG) := by show _ = _; rw [← HX.out, if_pos (show k = 0 by omega)]; simp
        clear HX
        by_cases hp : p = []
        · have HZ : Hid (X ++ (wpT (k + 1) (PS.drop (k + 1)) ++ [10]) = GG) := by show _ = _; rw [← HY.out, if_pos hp]; simp
          subst hp
          clear HY
          go_wp2
          all_goals
            go_roundg (gk - 1)
            case measure => have := HG.out; omega
            case rel => exact ⟨k + 1, X, by have := HG.out; omega, by go_num, HZ.out, HX1.out⟩
        · have HZ : Hid (((X ++ [32]) ++ p) ++ (wpT (k + 1) (PS.drop (k + 1)) ++ [10]) = GG) := by show _ = _; rw [← HY.out, if_neg hp]; simp
          have hl1 : (X).length + 1 ≤ 140737488355328 := by have h1 := HGl.out; rw [← HZ.out] at h1; simp at h1 ⊢; omega
          have hl2 : ((X) ++ [32]).length + p.length ≤ 140737488355328 := by have h1 := HGl.out; rw [← HZ.out] at h1; simp at h1 ⊢; omega
          have hpl : ¬ (⟨p.toArray⟩ : ByteArray).toList = [] := fun e => hp (by rw [ByteArray.toList_eq] at e; simpa using e)
          have hpe : (⟨p.toArray⟩ : ByteArray).toList.isEmpty = false := by simpa using hpl
          have hpd : ¬ (⟨p.toArray⟩ : ByteArray).data = #[] := fun e => hp (by simpa using e)
          have HSt : Hid (∀ w', Wst B b w3 w' ((X) ++ [32]) → Calls Tryd.prog 37 #[.pointer (some ⟨b, 0, none⟩), .string ⟨p.toArray⟩] w' fun e w'' => e = .returned (.tuple #[.int .i64 (⟨p.toArray⟩ : ByteArray).size, .nilIface]) ∧ Wst B b w3 w'' (((X) ++ [32]) ++ p)) := fun w' hw => hw.str p hl2 (HB3.out _ _ hw)
          have HBy : Hid (∀ w', Wst B b w3 w' (X) → Calls Tryd.prog 21 #[.pointer (some ⟨b, 0, none⟩), .int .u8 32] w' fun e w'' => e = .returned .nilIface ∧ Wst B b w3 w'' ((X) ++ [32])) := fun w' hw => hw.byte 32 32 rfl hl1 (HB3.out _ _ hw)
          clear HY hp hl1 hl2
          generalize (⟨p.toArray⟩ : ByteArray) = PB at *
          go_wp2_with (first | (go_at_call 37; refine (HSt.out _ HX3.out).mono ?_; rintro e w7 ⟨rfl, q7⟩; have HX4 : Hid (Wst B b w3 w7 (((X) ++ [32]) ++ p)) := q7; clear q7) | (go_at_call 21; refine (HBy.out _ HX1.out).mono ?_; rintro e w6 ⟨rfl, q6⟩; have HX3 : Hid (Wst B b w3 w6 ((X) ++ [32])) := q6; clear q6))
          all_goals
            go_roundg (gk - 1)
            case measure => have := HG.out; omega
            case rel => exact ⟨k + 1, _, by have := HG.out; omega, by go_num, HZ.out, HX4.out⟩
    · have HE : Hid (X ++ [10] = GG) := by show _ = _; rw [← HK.out, List.drop_eq_nil_of_le (by rw [← HLn.out]; omega)]; rfl
      have hlX : X.length + 1 ≤ 140737488355328 := by have h1 := HGl.out; rw [← HE.out] at h1; simp at h1; omega
      clear HK hk
      go_wp2_with fail
      refine (HX1.out.byte 10 10 rfl hlX (HB3.out _ _ HX1.out)).mono ?_
      rintro e w5 ⟨rfl, h5⟩
      rw [HE.out] at h5
      have HF : Hid (Wst B b w w5 GG) := HE3.out _ _ h5
      clear h5 hlX
      go_wp2
      go_end0
      rw [HG0.out]
      exact ⟨rfl, HF.out⟩

end Go.Proofs.YtbeaoekbppdlmaaDoor
