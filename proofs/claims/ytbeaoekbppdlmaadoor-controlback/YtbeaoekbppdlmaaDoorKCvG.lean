/-
  control.Get, walked.
  KEEP: len below nil form rd mono rdz on app start at new trans refl kept own row ap out step each grown block Ap
-/
import Derived.Test.YtbeaoekbppdlmaaDoorKCvC
import Derived.Test.YtbeaoekbppdlmaaDoorKCtM
set_option linter.unusedSimpArgs false
set_option linter.unusedVariables false
namespace Go.Proofs.YtbeaoekbppdlmaaDoor
open Go Go.RowKit

/-- a field in a box -/
def Fz2 (W : World) (D : Nat) (a b : List UInt8) : Prop := W.heap[D]? = some (.cells #[.string ⟨a.toArray⟩, .string ⟨b.toArray⟩] 50 (0, 0))
theorem Fz2.lt {W : World} {D : Nat} {a b : List UInt8} (h : Fz2 W D a b) : D < W.heap.size := (Array.getElem?_eq_some_iff.1 h).1
theorem Fz2.c0 {W : World} {D : Nat} {a b : List UInt8} (h : Fz2 W D a b) : W.cell? ⟨D, 0, none⟩ = some (.string ⟨a.toArray⟩) := by simp [World.cell?, show W.heap[D]? = _ from h]
theorem Fz2.c1 {W : World} {D : Nat} {a b : List UInt8} (h : Fz2 W D a b) : W.cell? ⟨D, 1, none⟩ = some (.string ⟨b.toArray⟩) := by simp [World.cell?, show W.heap[D]? = _ from h]
theorem Fz2.mk1 (W : World) (a b : List UInt8) : Fz2 (W.alloc (.cells #[.string ⟨a.toArray⟩, .string ⟨b.toArray⟩] 50)) W.heap.size a b := World.alloc_heap_new W _
theorem Fz2.blw {W W' : World} {D : Nat} {a b : List UInt8} (h : Fz2 W D a b) (hb : Below W.heap.size W W') : Fz2 W' D a b := (hb.block D h.lt).trans h

set_option maxHeartbeats 3200000 in
theorem get21 (ln : Int) (v : Value) (fs : List Fld) (t : ByteArray) (w : World) (hr : RdG w v fs) (ht : t.size ≤ 281474976710656) :
    Calls Tryd.prog 10 #[.agg #[.int .i64 ln, v], .string t] w fun e w' => e = .returned (gtV (getF fs t.data.toList)) ∧ Below w.heap.size w w' := by
  have hl := hr.len
  have hlen : fs.length * 32 ≤ 140737488351232 := hl
  have HR : Hid (RdG w v fs) := hr
  obtain ⟨a, c, rfl, hc, hm, -⟩ := hr.form
  obtain ⟨G, hG⟩ : ∃ G, G = getF fs t.data.toList := ⟨_, rfl⟩
  rw [← hG]
  have HG0 : Hid (G = getF (fs.drop 0) t.data.toList) := hG
  clear hG hr hl
  go_enter Tryd.func10, Tryd.ntmps10
  go_wp2
  have HB0 : Hid (Below w.heap.size w (w.alloc (.cells #[.int .i64 ln, .slice a fs.length c] 35))) := Below.alloc (Below.refl _ _) (Nat.le_refl _) _
  generalize w.alloc (.cells #[.int .i64 ln, .slice a fs.length c] 35) = w1 at *
  go_loopg [11] fs.length (fun g i wr => ∃ k : Nat, k + g = fs.length ∧ i = .int .i64 k ∧ Hid (G = getF (fs.drop k) t.data.toList) ∧ Hid (Below w.heap.size w wr))
  case atStart => exact ⟨0, by omega, rfl, HG0.out, HB0.out⟩
  case round =>
    obtain ⟨k, hk, rfl, HK, HB⟩ := hrel
    have HG : Hid (k + gk = fs.length) := hk
    clear HG0 HB0
    by_cases hlt : k < fs.length
    · obtain ⟨a', c', e', -, -, hcell⟩ := (HR.out.belowB HB.out (Nat.le_refl _)).form
      have e3 : a' = a ∧ c' = c := by injection e' with q1 q2 q3; exact ⟨q1.symm, q3.symm⟩
      obtain ⟨rfl, rfl⟩ := e3
      obtain ⟨b, off, rfl, hb, hn, hv⟩ := hcell k hlt
      have hX : G = (if alkF (fs.getD k ([], [])).1 t.data.toList then some (fs.getD k ([], [])).2 else getF (fs.drop (k + 1)) t.data.toList) := by rw [HK.out, getD_drop hlt]; rfl
      have hsz := HR.out.each _ (getD_mem' (l := fs) (k := k) (d := ([], [])) hlt)
      generalize fs.getD k ([], []) = f at *
      obtain ⟨f1, f2⟩ := f
      have HAl' := fun W => alike21 ⟨f1.toArray⟩ t W (by have := hsz.1; simp [ByteArray.size]; omega)
      have HCl' := fun W => clone21 ⟨f2.toArray⟩ W (by have := hsz.2; simp [ByteArray.size]; omega)
      simp only [strV_list] at HAl'
      unfold strV at hn hv
      have HAl : Hid (∀ W, Calls Tryd.prog 27 #[.string ⟨f1.toArray⟩, .string t] W fun e w' => e = .returned (.bool (alkF f1 t.data.toList)) ∧ Below W.heap.size W w') := HAl'
      have HCl : Hid (∀ W, Calls Tryd.prog 28 #[.string ⟨f2.toArray⟩] W fun e w' => e = .returned (.string ⟨f2.toArray⟩) ∧ Below W.heap.size W w') := HCl'
      have HX : Hid (G = (if alkF f1 t.data.toList then some f2 else getF (fs.drop (k + 1)) t.data.toList)) := hX
      have hn : wr.cell? ⟨b, off + k * 2, none⟩ = some (.string ⟨f1.toArray⟩) := hn
      have hv : wr.cell? ⟨b, off + k * 2 + 1, none⟩ = some (.string ⟨f2.toArray⟩) := hv
      have HFz : Hid (Fz2 (wr.alloc (.cells #[.string ⟨f1.toArray⟩, .string ⟨f2.toArray⟩] 50)) wr.heap.size f1 f2) := Fz2.mk1 _ _ _
      have HBx : Hid (Below wr.heap.size wr (wr.alloc (.cells #[.string ⟨f1.toArray⟩, .string ⟨f2.toArray⟩] 50))) := Below.alloc (Below.refl _ _) (Nat.le_refl _) _
      clear e' hcell hsz HK HAl' HCl' hX hk
      generalize alkF f1 t.data.toList = al at *
      go_upto_region 4 with fail
      have hN := HFz.out.c0
      clear hn hv
      obtain ⟨D, hD⟩ : ∃ D, D = wr.heap.size := ⟨_, rfl⟩
      have HD : Hid (D = wr.heap.size) := hD
      generalize wr.alloc (.cells #[.string ⟨f1.toArray⟩, .string ⟨f2.toArray⟩] 50) = wa at *
      rw [← hD] at HFz hN ⊢
      clear hD
      go_wp2_with fail
      refine (HAl.out _).mono ?_
      rintro e w2 ⟨rfl, bel2⟩
      have HF2 : Hid (Fz2 w2 D f1 f2) := HFz.out.blw bel2
      have HB2 : Hid (Below w.heap.size w w2) := HB.out.trans ((HBx.out.trans (bel2.mono HBx.out.size)).mono HB.out.size)
      have hV := HF2.out.c1
      clear hN bel2 HAl HFz HBx
      cases al
      · have HE : Hid (G = getF (fs.drop (k + 1)) t.data.toList) := HX.out
        clear HX
        go_wp2
        go_roundg (gk - 1)
        case measure => have := HG.out; omega
        case rel => exact ⟨k + 1, by have := HG.out; omega, by go_num, HE.out, HB2.out⟩
      · have HE : Hid (G = some f2) := HX.out
        clear HX
        go_wp2_with fail
        refine (HCl.out _).mono ?_
        rintro e w3 ⟨rfl, bel3⟩
        have HB3 : Hid (Below w.heap.size w w3) := HB2.out.trans (bel3.mono HB2.out.size)
        clear bel3 hV
        go_wp2
        go_returns
        exact ⟨by rw [HE.out]; rfl, HB3.out⟩
    · have HE : Hid (G = none) := by show _ = _; rw [HK.out, List.drop_eq_nil_of_le (by omega)]; rfl
      clear HK hk
      go_wp2
      go_returns
      exact ⟨by rw [HE.out]; rfl, HB.out⟩

end Go.Proofs.YtbeaoekbppdlmaaDoor
