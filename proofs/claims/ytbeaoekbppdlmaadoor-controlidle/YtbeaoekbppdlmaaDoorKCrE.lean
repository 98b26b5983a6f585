/-
  The reader's endField, endStanza, walked.
  KEEP: below len form out each rd mono nil own row set on app start grown at new one more take none some kept cell refl trans size map made look put blw get step next box lt Ap old run_append_ap run_append_apk step_append_apk wpList_append_apk
-/
import Derived.Test.YtbeaoekbppdlmaaDoorJCvF
import Derived.Test.YtbeaoekbppdlmaaDoorAppK
import Derived.Test.YtbeaoekbppdlmaaDoorJCtR
set_option linter.unusedSimpArgs false
set_option linter.unusedVariables false
namespace Go.Proofs.YtbeaoekbppdlmaaDoor
open Go Go.RowKit

theorem conv_nil21 (w : World) : (convert 47 9 (.slice none 0 0)).run Tryd.prog w = .ok (.string ⟨#[]⟩) w := by
  rw [run_convert_bytes_string w 47 9 5 none 0 0 Tryd.underlying47 Tryd.underlying5 Tryd.underlying9]
  rfl
theorem convV21 {w : World} {v : Value} {T : List UInt8} (h : RdY w v T) : (convert 47 9 v).run Tryd.prog w = .ok (.string ⟨T.toArray⟩) w := by
  obtain ⟨h1, a, c, rfl, hc, hm, hn, h2⟩ := h
  cases a with
  | none =>
    have hc0 := hn rfl
    have hT : T = [] := List.length_eq_zero_iff.1 (by omega)
    subst hT; subst hc0
    exact conv_nil21 w
  | some a =>
    refine run_convert_bytes_back (P := Tryd.prog) w 47 9 5 a c T Tryd.underlying47 Tryd.underlying5 Tryd.underlying9 (fun j hj => ?_)
    obtain ⟨b, off, e, hlt, hcell⟩ := h2 (by intro e; subst e; simp at hj)
    obtain rfl : a = ⟨b, off, none⟩ := by simpa using e
    have hadd : (⟨b, off, none⟩ : Addr).add j = ⟨b, off + j, none⟩ := Addr.add_lit _ _ _
    rw [hadd, hcell j hj]
    simp [List.getD_eq_getElem?_getD, hj]
/-- the fields' row turns, and the box takes it -/
theorem rd_fld {B : Nat} {W Wa w1 : World} {b mp n : Nat} {T : List UInt8 → Int} {left text : List UInt8} {ln : Int} {name : List UInt8} {val v' : Value} {vs : List UInt8} {sl : Int} {sf : Value} {fs : List Fld} {all : Value} {L : List SG}
    (h : Rb W b left text ln name val sl sf mp all) (hm : RM B W b mp n T val vs sf fs all L) (ha : Below W.heap.size W Wa) (nm : List UInt8) (own : w1.ownsRow B 50 2 v' (fs.length + 1) (fldC fs ++ [.string ⟨nm.toArray⟩, .string ⟨vs.toArray⟩])) (ap : Ap Wa sf w1 v') :
    (∃ a' c', v' = .slice a' (fs.length + 1) c') ∧ Rb w1 b left text ln name val sl sf mp all ∧ (Rb (w1.setCell ⟨b, 6, none⟩ v') b left text ln name val sl v' mp all ∧ RM B (w1.setCell ⟨b, 6, none⟩ v') b mp n T val vs v' (fs ++ [(nm, vs)]) all L ∧ Below B W (w1.setCell ⟨b, 6, none⟩ v')) := by
  have hB : B ≤ W.heap.size := Nat.le_trans hm.hb (Nat.le_of_lt h.lt)
  have h1 : Rb w1 b left text ln name val sl sf mp all := (h.blw ha).grown ap.grown (fun e => (hm.blw ha).ne_box.2.2.1 e.symm)
  have og : OwnG B w1 v' (fs ++ [(nm, vs)]) := by
    unfold OwnG
    rw [fldC_snoc, List.length_append]
    exact own
  have m1 := (hm.blw ha).fldT og ap.grown ap.new
  have b1 : Below B W w1 := (ha.mono hB).grown ap.grown (Nat.le_trans hB ha.size) (fun q e => (World.ownsRow.lt hm.f q e).1)
  refine ⟨?_, h1, h1.s6 v', m1.box 6 v', b1.setCell hm.hb _⟩
  rcases own.2 with ⟨e, hn⟩ | ⟨g, cap, cur, e, _⟩
  · omega
  · exact ⟨_, _, e⟩

set_option maxHeartbeats 3200000 in
set_option maxRecDepth 100000 in
theorem endField21 (B : Nat) (W : World) (b mp n : Nat) (T : List UInt8 → Int) (left text : List UInt8) (ln : Int) (name : List UInt8) (val : Value) (vs : List UInt8) (sl : Int) (sf : Value) (fs : List Fld) (all : Value) (L : List SG)
    (h : Rb W b left text ln name val sl sf mp all) (hm : RM B W b mp n T val vs sf fs all L) (hn : name.length ≤ 281474976710656) (hv : vs.length ≤ 70368744177664) (hf : (fs.length + 1) * 32 ≤ 140737488355328) :
    Calls Tryd.prog 52 #[.pointer (some ⟨b, 0, none⟩)] W fun e w' => e = .returned (.tuple #[]) ∧ Below B W w' ∧ ∃ sf', Rb w' b left text ln name val sl sf' mp all ∧ RM B w' b mp n T val vs sf' (fs ++ [(name, vs)]) all L := by
  obtain ⟨i0, hi, hz0, hz1, hz2⟩ := info_parts infoG
  have HIn : Hid (Tryd.prog.info? 50 = some i0 ∧ i0.zero = some (.agg #[.string ⟨#[]⟩, .string ⟨#[]⟩]) ∧ i0.size = 2 ∧ i0.bytes = 32) := ⟨hi, hz0, hz1, hz2⟩
  clear hi hz0 hz1 hz2
  obtain ⟨av, cv, rfl⟩ := hm.v.form
  obtain ⟨af, cf, rfl⟩ := own_form21 hm.f
  have HH : Hid (Rb W b left text ln name (.slice av vs.length cv) sl (.slice af fs.length cf) mp all) := h
  have HM : Hid (RM B W b mp n T (.slice av vs.length cv) vs (.slice af fs.length cf) fs all L) := hm
  have HX : Hid (∀ Wa, Below W.heap.size W Wa → Rb Wa b left text ln name (.slice av vs.length cv) sl (.slice af fs.length cf) mp all ∧ (convert 47 9 (.slice av vs.length cv)).run Tryd.prog Wa = .ok (.string ⟨vs.toArray⟩) Wa) := fun Wa hb => ⟨h.blw hb, convV21 ((hm.blw hb).v.rd (by omega))⟩
  have HRow : Hid (∀ Wa, Below W.heap.size W Wa → (Wa.alloc (.cells #[.string ⟨name.toArray⟩, .string ⟨vs.toArray⟩] 50)).ownsRow B 50 2 (.slice af fs.length cf) fs.length (fldC fs)) := fun Wa hb => World.ownsRow.alloc (hm.blw hb).f _
  have HNw : Hid (∀ Wa : World, ∀ j u, [Value.string ⟨name.toArray⟩, Value.string ⟨vs.toArray⟩][j]? = some u → (Wa.alloc (.cells #[.string ⟨name.toArray⟩, .string ⟨vs.toArray⟩] 50)).cell? ((⟨Wa.heap.size, 0, none⟩ : Addr).add j) = some u) := fun Wa => two_newA _ _ _ _
  have HBs : Hid (∀ Wa, Below W.heap.size W Wa → B ≤ (Wa.alloc (.cells #[.string ⟨name.toArray⟩, .string ⟨vs.toArray⟩] 50)).heap.size) := fun Wa hb => by have h1 := h.lt; have h2 := hm.hb; have h3 := hb.size; simp; omega
  have HY : Hid (∀ Wa w1 v', Below W.heap.size W Wa → w1.ownsRow B 50 2 v' (fs.length + 1) (fldC fs ++ [.string ⟨name.toArray⟩, .string ⟨vs.toArray⟩]) → Ap (Wa.alloc (.cells #[.string ⟨name.toArray⟩, .string ⟨vs.toArray⟩] 50)) (.slice af fs.length cf) w1 v' → (∃ a' c', v' = .slice a' (fs.length + 1) c') ∧ Rb w1 b left text ln name (.slice av vs.length cv) sl (.slice af fs.length cf) mp all ∧ (Rb (w1.setCell ⟨b, 6, none⟩ v') b left text ln name (.slice av vs.length cv) sl v' mp all ∧ RM B (w1.setCell ⟨b, 6, none⟩ v') b mp n T (.slice av vs.length cv) vs v' (fs ++ [(name, vs)]) all L ∧ Below B W (w1.setCell ⟨b, 6, none⟩ v'))) := fun Wa w1 v' hb ho ha => rd_fld h hm (hb.alloc (Nat.le_trans (Nat.le_refl _) hb.size) _) name ho ha
  have HCl : Hid (∀ w, Calls Tryd.prog 28 #[.string ⟨name.toArray⟩] w fun e w' => e = .returned (.string ⟨name.toArray⟩) ∧ Below w.heap.size w w') := fun w => clone21 _ w (by rw [sizeL]; exact hn)
  have G0 : Hid (Below W.heap.size W W.drew) := (Below.refl _ _).drew
  have c3 := h.c3
  have c4 := h.c4
  have c6 := h.c6
  have f6 := h.fz 6
  have hcv := (HX.out _ (Below.refl _ _)).2
  have hcv2 := (HX.out _ G0.out).2
  have hlm : fs.length + 1 ≤ maxLen := by unfold maxLen; omega
  clear h hm hn hv
  go_enter Tryd.func52, Tryd.ntmps52
  go_wp2_with fail
  go_region_law (first
    | (refine step_append_apk rfl (.tmp 7) (.tmp 19) 33 rfl B 50 i0 (.agg #[.string ⟨#[]⟩, .string ⟨#[]⟩]) 2 32 Tryd.underlying33 HIn.out.1 HIn.out.2.1 HIn.out.2.2.1 HIn.out.2.2.2 rfl (by decide) (.slice af fs.length cf) fs.length (fldC fs) (by simp [Act.eval, Act.put]) (HRow.out _ G8.out) ⟨w8.heap.size, 0, none⟩ 1 1 [.string ⟨name.toArray⟩, .string ⟨vs.toArray⟩] (by simp [Act.eval, Act.put]) rfl (HNw.out _) (by simp [Value.oneCell']) hlm hf (HBs.out _ G8.out) ?_; intro v7 w7 own7 ap7; obtain ⟨⟨a7, c7, rfl⟩, q0, q1, q2, q3⟩ := HY.out _ w7 v7 G8.out own7 ap7; have HQ : Hid (Rb (w7.setCell ⟨b, 6, none⟩ (.slice a7 (fs.length + 1) c7)) b left text ln name (.slice av vs.length cv) sl (.slice a7 (fs.length + 1) c7) mp all ∧ RM B (w7.setCell ⟨b, 6, none⟩ (.slice a7 (fs.length + 1) c7)) b mp n T (.slice av vs.length cv) vs (.slice a7 (fs.length + 1) c7) (fs ++ [(name, vs)]) all L ∧ Below B W (w7.setCell ⟨b, 6, none⟩ (.slice a7 (fs.length + 1) c7))) := ⟨q1, q2, q3⟩; have s6 := q0.c6; have s6f := q0.fz 6; clear own7 ap7 q0 q1 q2 q3)
    | (go_wp2_with (go_at_call 28; refine (HCl.out _).mono ?_; rintro e w8 ⟨rfl, b8⟩; have G8 : Hid (Below W.heap.size W w8) := G0.out.trans b8; have t3 := (HX.out _ G8.out).1.c3; have t4 := (HX.out _ G8.out).1.c4; have t6 := (HX.out _ G8.out).1.c6; have t6f := (HX.out _ G8.out).1.fz 6; have tcv := (HX.out _ G8.out).2; have G9 : Hid (Below W.heap.size W (w8.alloc (.cells #[.string ⟨name.toArray⟩, .string ⟨vs.toArray⟩] 50))) := G8.out.alloc G8.out.size _; have u6 := (HX.out _ G9.out).1.c6; have u6f := (HX.out _ G9.out).1.fz 6; clear b8)))
  all_goals
    go_wp2
    go_end0
    obtain ⟨q1, q2, q3⟩ := HQ.out
    exact ⟨rfl, q3, _, q1, q2⟩

end Go.Proofs.YtbeaoekbppdlmaaDoor
