/-
  What holds of the reader at its labels, and from step to step. No walk here.
  KEEP: below len form out each rd mono nil own row set on app start grown at new one more take none some kept cell refl trans size map made look put blw get step next box lt Ap old weak
-/
import Derived.Test.YtbeaoekbppdlmaaDoorJCvF
import Derived.Test.YtbeaoekbppdlmaaDoorKCrE
set_option linter.unusedSimpArgs false
set_option linter.unusedVariables false
namespace Go.Proofs.YtbeaoekbppdlmaaDoor
open Go Go.RowKit

theorem RM.boxG {B : Nat} {W W' : World} {b mp n : Nat} {T : List UInt8 → Int} {val : Value} {vs : List UInt8} {sf : Value} {fs : List Fld} {all : Value} {L : List SG} (h : RM B W b mp n T val vs sf fs all L)
    (hr : ∃ cs f, W'.heap[b]? = some (.cells cs 66 f)) (hg : W.grownBy W' (some b)) : RM B W' b mp n T val vs sf fs all L := by
  obtain ⟨n1, n2, n3, n4, n5⟩ := h.ne_box
  have far : ∀ j, j < W.heap.size → j ≠ b → W'.heap[j]? = W.heap[j]? := fun j hj hn => hg.block j hj (fun e => hn (by injection e))
  have key : ∀ {v : Value} {m : Nat} {xs : List Value} {Ty : TypeId} {sz : Nat}, W.ownsRow B Ty sz v m xs → v.ownBlock ≠ some b → W'.ownsRow B Ty sz v m xs := fun hh hne => own_kept hh fun j e => far j (World.ownsRow.lt hh j e).2 (fun q => hne (q ▸ e))
  exact ⟨h.mi.kept (far _ h.mi.lt n1), key h.v n2, key h.f n3, ⟨key h.t.row n4, fun y hy => key (h.t.own y hy) (n5 y hy), h.t.ap⟩, h.ap, hr, h.hb, h.hm⟩
/-- the reader, and how much it holds at most -/
structure Inv (B : Nat) (W0 : World) (b mp M dn df dv : Nat) (w : World) (left text : List UInt8) (ln : Int) (nm : List UInt8) (val : Value) (vs : List UInt8) (sl : Int) (sf : Value) (fs : List Fld) (all : Value) (L : List SG) (n : Nat) (T : List UInt8 → Int) : Prop where
  rb : Rb w b left text ln nm val sl sf mp all
  rm : RM B w b mp n T val vs sf fs all L
  bel : Below B W0 w
  h0 : 0 ≤ ln
  hM : ln + left.length ≤ M
  hn : (n : Int) + dn ≤ ln
  hL : (L.length : Int) + df ≤ ln
  hf : (fs.length : Int) + df ≤ ln
  hnm : nm.length ≤ M
  hx : text.length + left.length ≤ M
  hv : vs.length + dv * (1 + text.length) + 2 * left.length ≤ 2 * M
  hs0 : 0 ≤ sl
  hs1 : sl ≤ ln
section
variable {B : Nat} {W0 : World} {b mp M dn df dv : Nat} {w : World} {left text : List UInt8} {ln : Int} {nm : List UInt8} {val : Value} {vs : List UInt8} {sl : Int} {sf : Value} {fs : List Fld} {all : Value} {L : List SG} {n : Nat} {T : List UInt8 → Int}
theorem Inv.weak {dn' df' : Nat} (h : Inv B W0 b mp M dn df dv w left text ln nm val vs sl sf fs all L n T) (h1 : dn' ≤ dn) (h2 : df' ≤ df) : Inv B W0 b mp M dn' df' 0 w left text ln nm val vs sl sf fs all L n T :=
  ⟨h.rb, h.rm, h.bel, h.h0, h.hM, by have := h.hn; omega, by have := h.hL; omega, by have := h.hf; omega, h.hnm, h.hx, by have := h.hv; omega, h.hs0, h.hs1⟩
theorem Inv.next (h : Inv B W0 b mp M dn df 0 w left text ln nm val vs sl sf fs all L n T) (hne : left ≠ []) {w' : World} (hr : Rb w' b (cutN left).2 (cutN left).1 (ln + 1) nm val sl sf mp all) (hg : w.grownBy w' (some b)) : Inv B W0 b mp M (dn + 1) (df + 1) 1 w' (cutN left).2 (cutN left).1 (ln + 1) nm val vs sl sf fs all L n T := by
  have hc := cut_lt left hne
  have hgl := congrArg List.length (cut_glue left)
  rw [List.length_append] at hgl
  have h1 : (cutN left).1.length + (cutN left).2.length ≤ left.length := by
    cases hn : hasN left
    · rcases at10 left with ⟨_, _, h3⟩ | ⟨k, _, _, h2, _⟩
      · rw [h3]; simp
      · rw [hn] at h2; cases h2
    · rw [hn, if_pos rfl, List.length_cons] at hgl; omega
  have hh := h.hM
  have hx := h.hx
  have hv := h.hv
  refine ⟨hr, h.rm.boxG ⟨_, _, hr⟩ hg, h.bel.grown hg (Nat.le_trans (Nat.le_trans h.rm.hb (Nat.le_of_lt h.rb.lt)) (Nat.le_refl _)) (fun q e => by injection e with e; rw [← e]; exact h.rm.hb), by have := h.h0; omega, by omega, by have := h.hn; omega, by have := h.hL; omega, by have := h.hf; omega, h.hnm, by omega, by omega, h.hs0, by have := h.hs1; omega⟩
/-- the stanza's line is set -/
theorem Inv.line (h : Inv B W0 b mp M dn df dv w left text ln nm val vs sl sf fs all L n T) : Inv B W0 b mp M dn df 0 (w.setCell ⟨b, 5, none⟩ (.int .i64 ln)) left text ln nm val vs ln sf fs all L n T :=
  ⟨h.rb.s5 ln, h.rm.box 5 _, h.bel.setCell h.rm.hb _, h.h0, h.hM, h.hn, h.hL, h.hf, h.hnm, h.hx, by have := h.hv; omega, h.h0, Int.le_refl _⟩
theorem Inv.begun (h : Inv B W0 b mp M 1 1 0 w left text ln nm val vs sl sf fs all L n T) {w' : World} {nm' vs' : List UInt8} {val' : Value} {T' : List UInt8 → Int} (hb : Below B w w') (hr : Rb w' b left text ln nm' val' sl sf mp all) (hm : RM B w' b mp (n + 1) T' val' vs' sf fs all L) (h1 : nm'.length ≤ text.length) (h2 : vs'.length ≤ text.length) :
    Inv B W0 b mp M 0 1 0 w' left text ln nm' val' vs' sl sf fs all L (n + 1) T' :=
  ⟨hr, hm, h.bel.trans hb, h.h0, h.hM, by have := h.hn; omega, h.hL, h.hf, by have := h.hx; omega, h.hx, by have := h.hx; omega, h.hs0, h.hs1⟩
theorem Inv.gone (h : Inv B W0 b mp M dn df 1 w left text ln nm val vs sl sf fs all L n T) {w' : World} {val' : Value} (hb : Below B w w') (hr : Rb w' b left text ln nm val' sl sf mp all) (hm : RM B w' b mp n T val' (vs ++ 10 :: trF text) sf fs all L) :
    Inv B W0 b mp M dn df 0 w' left text ln nm val' (vs ++ 10 :: trF text) sl sf fs all L n T :=
  ⟨hr, hm, h.bel.trans hb, h.h0, h.hM, h.hn, h.hL, h.hf, h.hnm, h.hx, by have := h.hv; have := trF_le text; simp only [List.length_append, List.length_cons]; omega, h.hs0, h.hs1⟩
theorem Inv.field (h : Inv B W0 b mp M dn (df + 1) dv w left text ln nm val vs sl sf fs all L n T) {w' : World} {sf' : Value} (hb : Below B w w') (hr : Rb w' b left text ln nm val sl sf' mp all) (hm : RM B w' b mp n T val vs sf' (fs ++ [(nm, vs)]) all L) :
    Inv B W0 b mp M dn df dv w' left text ln nm val vs sl sf' (fs ++ [(nm, vs)]) all L n T :=
  ⟨hr, hm, h.bel.trans hb, h.h0, h.hM, h.hn, by have := h.hL; omega, by have := h.hf; simp; omega, h.hnm, h.hx, h.hv, h.hs0, h.hs1⟩
theorem Inv.stanza (h : Inv B W0 b mp M dn df dv w left text ln nm val vs sl sf fs all L n T) (h1 : (L.length : Int) + 1 ≤ ln) {w' : World} {all' : Value} (hb : Below B w w') (hr : Rb w' b left text ln nm val 0 (.slice none 0 0) mp all') (hm : RM B w' b mp n T val vs (.slice none 0 0) [] all' (L ++ [(sl, sf, fs)])) :
    Inv B W0 b mp M 0 0 0 w' left text ln nm val vs 0 (.slice none 0 0) [] all' (L ++ [(sl, sf, fs)]) n T :=
  ⟨hr, hm, h.bel.trans hb, h.h0, h.hM, by have := h.hn; omega, by simp; omega, by have := h.h0; simp; omega, h.hnm, h.hx, by have := h.hv; omega, Int.le_refl _, h.h0⟩
end
/-- what run says -/
def RunQ (B : Nat) (W0 : World) (b : Nat) (Res : Except (Int × Int) (List Stz)) (e : Ending) (w' : World) : Prop :=
  (∃ c ln left text nm val sl sf mp all, Res = .error (c, ln) ∧ (c == 0) = false ∧ e = .returned (.int .i64 c) ∧ Rb w' b left text ln nm val sl sf mp all ∧ Below B W0 w') ∨
  (∃ ln left text nm val sl sf mp all L, Res = .ok (sgS L) ∧ e = .returned (.int .i64 0) ∧ Rb w' b left text ln nm val sl sf mp all ∧ OwnSt B w' all L ∧ Below B W0 w')
/-- between stanzas -/
def At0 (B : Nat) (W0 : World) (b mp M : Nat) (Res : Except (Int × Int) (List Stz)) (w : World) : Prop :=
  ∃ left text ln nm val vs all L n T, Inv B W0 b mp M 0 0 0 w left text ln nm val vs 0 (.slice none 0 0) [] all L n T ∧ Res = rdS (lnsF left []) (ln + 1) (sgS L) (0, []) ∧ ∀ x, T x ≤ ln
/-- at a line that begins a field -/
def At1 (B : Nat) (W0 : World) (b mp M : Nat) (Res : Except (Int × Int) (List Stz)) (w : World) : Prop :=
  ∃ left text ln nm val vs sl sf fs all L n T d, Inv B W0 b mp M 1 1 0 w left text ln nm val vs sl sf fs all L n T ∧ (Res = match stepP (d, fs) text ln with | .error e => .error (e, ln) | .ok st => rdS (lnsF left []) (ln + 1) (sgS L) st) ∧ Seen T sl fs ∧ isBl (text.headD 0) = false ∧ (fs = [] → sl = ln) ∧ (fs ≠ [] → d = sl)
/-- where a field is open -/
def At2 (B : Nat) (W0 : World) (b mp M : Nat) (Res : Except (Int × Int) (List Stz)) (w : World) : Prop :=
  ∃ left text ln nm val vs sl sf fs all L n T, Inv B W0 b mp M 0 1 0 w left text ln nm val vs sl sf fs all L n T ∧ Res = rdS (lnsF left []) (ln + 1) (sgS L) (sl, fs ++ [(nm, vs)]) ∧ Seen T sl (fs ++ [(nm, vs)])
def leftLen (b : Nat) (w : World) : Nat := match w.cell? ⟨b, 0, none⟩ with | some (.string s) => s.size | _ => 0
theorem left_len {w : World} {b : Nat} {left text : List UInt8} {ln : Int} {name : List UInt8} {val : Value} {sl : Int} {sf : Value} {mp : Nat} {all : Value} (h : Rb w b left text ln name val sl sf mp all) : leftLen b w = left.length := by
  unfold leftLen
  rw [h.c0]
  exact sizeL left

end Go.Proofs.YtbeaoekbppdlmaaDoor
