/-
  Rows of fields in memory: a slice reads the fields fs. The document's Get, walked.
  KEEP: len below nil form rd mono on app start at new trans refl kept own row out grown rdz set one more lt size cell some none letL tail next step go add put del get look no yes e c f b k n m box
-/
import Derived.Test.YtbeaoekbppdlmaaDoorJCtA
import Derived.Test.YtbeaoekbppdlmaaDoorGrow
import Derived.RangeFuncRecord
set_option linter.unusedSimpArgs false
set_option linter.unusedVariables false
namespace Go.Proofs.YtbeaoekbppdlmaaDoor
open Go Go.RowKit

def big21 : Nat := 281474976710656
/-- the slice reads the fields fs -/
def RdG (w : World) (v : Value) (fs : List Fld) : Prop :=
  fs.length * 32 ≤ 140737488351232 ∧ (∀ f ∈ fs, f.1.length ≤ 281474976710656 ∧ f.2.length ≤ 281474976710656) ∧ ∃ a c, v = .slice a fs.length c ∧ fs.length ≤ c ∧ c ≤ maxLen ∧
    (fs ≠ [] → ∃ b off, a = some ⟨b, off, none⟩ ∧ b < w.heap.size ∧ ∀ j, j < fs.length → w.cell? ⟨b, off + j * 2, none⟩ = some (strV (fs.getD j ([], [])).1) ∧ w.cell? ⟨b, off + j * 2 + 1, none⟩ = some (strV (fs.getD j ([], [])).2))
theorem RdG.len {w : World} {v : Value} {fs : List Fld} (h : RdG w v fs) : fs.length * 32 ≤ 140737488351232 := h.1
theorem RdG.each {w : World} {v : Value} {fs : List Fld} (h : RdG w v fs) : ∀ f ∈ fs, f.1.length ≤ 281474976710656 ∧ f.2.length ≤ 281474976710656 := h.2.1
theorem RdG.belowB {B : Nat} {w w' : World} {v : Value} {fs : List Fld} (h : RdG w v fs) (hb : Below B w w') (hB : w.heap.size ≤ B) : RdG w' v fs := by
  obtain ⟨h1, he, a, c, rfl, hc, hm, h2⟩ := h
  refine ⟨h1, he, a, c, rfl, hc, hm, fun hne => ?_⟩
  obtain ⟨b, off, rfl, hlt, hcell⟩ := h2 hne
  have hlt2 : b < B := Nat.lt_of_lt_of_le hlt hB
  refine ⟨b, off, rfl, Nat.lt_of_lt_of_le hlt hb.size, fun j hj => ?_⟩
  obtain ⟨hd, hu⟩ := hcell j hj
  exact ⟨(hb.cell (p := ⟨b, off + j * 2, none⟩) hlt2).trans hd, (hb.cell (p := ⟨b, off + j * 2 + 1, none⟩) hlt2).trans hu⟩
theorem RdG.below {w w' : World} {v : Value} {fs : List Fld} (h : RdG w v fs) (hb : Below w.heap.size w w') : RdG w' v fs := h.belowB hb (Nat.le_refl _)
theorem RdG.nil (w : World) : RdG w (.slice none 0 0) [] := ⟨by simp, fun f hf => (by cases hf), none, 0, rfl, Nat.le_refl _, Nat.zero_le _, fun h => absurd rfl h⟩
theorem RdG.form {w : World} {v : Value} {fs : List Fld} (h : RdG w v fs) : ∃ a c, v = .slice a fs.length c ∧ fs.length ≤ c ∧ c ≤ maxLen ∧ ∀ k, k < fs.length → ∃ b off, a = some ⟨b, off, none⟩ ∧ b < w.heap.size ∧ w.cell? ⟨b, off + k * 2, none⟩ = some (strV (fs.getD k ([], [])).1) ∧ w.cell? ⟨b, off + k * 2 + 1, none⟩ = some (strV (fs.getD k ([], [])).2) := by
  obtain ⟨h1, he, a, c, rfl, hc, hm, h2⟩ := h
  refine ⟨a, c, rfl, hc, hm, fun k hk => ?_⟩
  obtain ⟨b, off, e, hb, hcell⟩ := h2 (by intro e; subst e; simp at hk)
  exact ⟨b, off, e, hb, hcell k hk⟩
/-- the first fields alone -/
theorem RdG.take {w : World} {a : Option Addr} {n c : Nat} {fs : List Fld} (h : RdG w (.slice a n c) fs) {k : Nat} (hk : k ≤ fs.length) : RdG w (.slice a k c) (fs.take k) := by
  obtain ⟨h1, he, a', c', e, hc, hm, h2⟩ := h
  injection e with e1 e2 e3
  subst e1 e2 e3
  have hl : (fs.take k).length = k := by rw [List.length_take]; omega
  refine ⟨by rw [hl]; omega, fun f hf => he f (List.mem_of_mem_take hf), a, c, by rw [hl], by rw [hl]; omega, hm, fun hne => ?_⟩
  obtain ⟨b, off, rfl, hb, hcell⟩ := h2 (fun e => by subst e; simp at hne)
  refine ⟨b, off, rfl, hb, fun j hj => ?_⟩
  have hj2 : j < k := by omega
  have := hcell j (by omega)
  rwa [show (fs.take k).getD j ([], []) = fs.getD j ([], []) by simp [List.getD_eq_getElem?_getD, List.getElem?_take, hj2]]

/-- a box of a stanza -/
def Bz (W : World) (D : Nat) (ln : Int) (v : Value) : Prop := W.heap[D]? = some (.cells #[.int .i64 ln, v] 35 (0, 0))
section
variable {W : World} {D : Nat} {ln : Int} {v : Value}
theorem Bz.lt (h : Bz W D ln v) : D < W.heap.size := (Array.getElem?_eq_some_iff.1 h).1
theorem Bz.c0 (h : Bz W D ln v) : W.cell? ⟨D, 0, none⟩ = some (.int .i64 ln) := by simp [World.cell?, show W.heap[D]? = _ from h]
theorem Bz.c1 (h : Bz W D ln v) : W.cell? ⟨D, 1, none⟩ = some v := by simp [World.cell?, show W.heap[D]? = _ from h]
theorem Bz.fz (h : Bz W D ln v) (k : Nat) : W.frozen? ⟨D, k, none⟩ = false := by simp [World.frozen?, show W.heap[D]? = _ from h]
theorem Bz.mk1 (W : World) (ln : Int) (v : Value) (D : Nat) (h : D = W.heap.size) : Bz (W.alloc (.cells #[.int .i64 ln, v] 35)) D ln v := by subst h; exact World.alloc_heap_new W _
theorem Bz.blw {B : Nat} {W' : World} (h : Bz W D ln v) (hb : Below B W W') (hD : D < B) : Bz W' D ln v := (hb.block D hD).trans h
end
theorem getD_drop {fs : List Fld} {k : Nat} (h : k < fs.length) : fs.drop k = fs.getD k ([], []) :: fs.drop (k + 1) := by
  rw [List.drop_eq_getElem_cons h]; simp [List.getD_eq_getElem?_getD, h]
theorem strV_list (T : List UInt8) : (⟨T.toArray⟩ : ByteArray).data.toList = T := by simp
/-- what Get answers -/
def gtV (o : Option (List UInt8)) : Value := match o with | none => .tuple #[.string ⟨#[]⟩, .bool false] | some v => .tuple #[strV v, .bool true]

set_option maxHeartbeats 3200000 in
theorem rGet21_any (ln : Int) (v : Value) (fs : List Fld) (t : ByteArray) (w : World) (hr : RdG w v fs) :
    Calls Tryd.prog 11 #[.agg #[.int .i64 ln, v], .string t] w fun e w' => e = .returned (gtV (getF fs t.data.toList)) ∧ Below w.heap.size w w' := by
  have hl := hr.len
  have hlen : fs.length * 32 ≤ 140737488351232 := hl
  have HR : Hid (RdG w v fs) := hr
  obtain ⟨a, c, rfl, hc, hm, _⟩ := hr.form
  obtain ⟨G, hG⟩ : ∃ G, G = getF fs t.data.toList := ⟨_, rfl⟩
  rw [← hG]
  have HG0 : Hid (G = getF (fs.drop 0) t.data.toList) := hG
  clear hG hr hl
  go_enter Tryd.func11, Tryd.ntmps11
  go_wp2
  have HZ : Hid (Bz (w.alloc (.cells #[.int .i64 ln, .slice a fs.length c] 35)) w.heap.size ln (.slice a fs.length c)) := Bz.mk1 _ _ _ _ rfl
  have HB0 : Hid (Below w.heap.size w (w.alloc (.cells #[.int .i64 ln, .slice a fs.length c] 35))) := Below.alloc (Below.refl _ _) (Nat.le_refl _) _
  generalize w.alloc (.cells #[.int .i64 ln, .slice a fs.length c] 35) = w1 at *
  go_loopg [6] fs.length (fun g i wr => ∃ k : Nat, k + g = fs.length ∧ i = .int .i64 k ∧ Hid (G = getF (fs.drop k) t.data.toList) ∧ Hid (Bz wr w.heap.size ln (.slice a fs.length c)) ∧ Hid (Below w.heap.size w wr))
  case atStart => exact ⟨0, by omega, rfl, HG0.out, HZ.out, HB0.out⟩
  case round =>
    obtain ⟨k, hk, rfl, HK, HZr, HB⟩ := hrel
    have HG : Hid (k + gk = fs.length) := hk
    have z0 := HZr.out.c0
    have z1 := HZr.out.c1
    clear HG0 HZ HB0
    by_cases hlt : k < fs.length
    · obtain ⟨a', c', e', _, _, hcell⟩ := (HR.out.belowB HB.out (Nat.le_refl _)).form
      have e3 : a' = a ∧ c' = c := by injection e' with q1 q2 q3; exact ⟨q1.symm, q3.symm⟩
      obtain ⟨rfl, rfl⟩ := e3
      obtain ⟨b, off, rfl, hb, hn, hv⟩ := hcell k hlt
      have hX : G = (if alkF (fs.getD k ([], [])).1 t.data.toList then some (fs.getD k ([], [])).2 else getF (fs.drop (k + 1)) t.data.toList) := by rw [HK.out, getD_drop hlt]; rfl
      have hsz := HR.out.each _ (getD_mem' (l := fs) (k := k) (d := ([], [])) hlt)
      generalize fs.getD k ([], []) = f at *
      have HAl' := rAlike21_any ⟨f.1.toArray⟩ t wr (by have := hsz.1; simp [ByteArray.size]; omega)
      rw [strV_list] at HAl'
      have HAl : Hid (Calls Tryd.prog 29 #[strV f.1, .string t] wr fun e w' => e = .returned (.bool (alkF f.1 t.data.toList)) ∧ Below wr.heap.size wr w') := HAl'
      unfold strV at hn HAl
      have HV : Hid (wr.cell? ⟨b, off + k * 2 + 1, none⟩ = some (strV f.2)) := hv
      have HX : Hid (G = (if alkF f.1 t.data.toList then some f.2 else getF (fs.drop (k + 1)) t.data.toList)) := hX
      clear e' hcell hsz HK HAl' hX hv hk
      generalize alkF f.1 t.data.toList = al at *
      generalize (⟨f.1.toArray⟩ : ByteArray) = S at *
      cases al
      · have HE : Hid (G = getF (fs.drop (k + 1)) t.data.toList) := HX.out
        clear HX HV
        go_wp2_with (go_at_call 29; refine HAl.out.mono ?_; rintro e w2 ⟨rfl, bel2⟩; have HZ2 : Hid (Bz w2 w.heap.size ln (.slice (some ⟨b, off, none⟩) fs.length c')) := HZr.out.blw bel2 HZr.out.lt; have HB2 : Hid (Below w.heap.size w w2) := HB.out.trans (bel2.mono HB.out.size); clear bel2)
        go_roundg (gk - 1)
        case measure => have := HG.out; omega
        case rel => exact ⟨k + 1, by have := HG.out; omega, by go_num, HE.out, HZ2.out, HB2.out⟩
      · have HE : Hid (G = some f.2) := HX.out
        clear HX
        go_wp2_with (go_at_call 29; refine HAl.out.mono ?_; rintro e w2 ⟨rfl, bel2⟩; have y1 := (HZr.out.blw bel2 HZr.out.lt).c1; have y2 := (bel2.cell (p := ⟨b, off + k * 2 + 1, none⟩) hb).trans HV.out; unfold strV at y2; have HB2 : Hid (Below w.heap.size w w2) := HB.out.trans (bel2.mono HB.out.size); clear bel2)
        go_returns
        exact ⟨by rw [HE.out]; rfl, HB2.out⟩
    · have HE : Hid (G = none) := by show _ = _; rw [HK.out, List.drop_eq_nil_of_le (by omega)]; rfl
      clear HK hk
      go_wp2
      go_returns
      exact ⟨by rw [HE.out]; rfl, HB.out⟩

end Go.Proofs.YtbeaoekbppdlmaaDoor
