/-
  The document's Lines and Words, walked: rows of texts.
  KEEP: len below nil form rd mono on app start at new trans refl kept own row out grown rdz
-/
import Derived.Test.YtblkhkfjaggnfaaRdT
import Derived.Test.YtblkhkfjaggnfaaGrow
import Derived.Handy
import Derived.Lib.Hide
import Derived.Maps.AppendAt
import Derived.OwnWalk
import Derived.Deep.LoopGhost
import Derived.Deep.CutRange
set_option linter.unusedSimpArgs false
set_option linter.unusedVariables false
namespace Go.Proofs.Ytblkhkfjaggnfaa
open Go Go.RowKit

theorem infoS : (Try.prog.info? 9).map (fun i => (i.zero, i.size, i.bytes)) = some (some (.string ⟨#[]⟩), 1, 16) := by kernel_rfl
def strV (T : List UInt8) : Value := .string ⟨T.toArray⟩
/-- a row of texts of a call's own -/
def OwnL (B : Nat) (w : World) (v : Value) (ws : List (List UInt8)) : Prop := w.ownsRow B 9 1 v ws.length (ws.map strV)
theorem OwnL.nil (B : Nat) (w : World) : OwnL B w (.slice none 0 0) [] := World.ownsRow_nil _ _ _ _
theorem OwnL.below {B : Nat} {w w' : World} {v : Value} {ws : List (List UInt8)} (h : OwnL B w v ws) (hb : Below w.heap.size w w') : OwnL B w' v ws := World.ownsRow.kept h (grown_below hb) (one_or _)
theorem OwnL.form {B : Nat} {w : World} {v : Value} {ws : List (List UInt8)} (h : OwnL B w v ws) : ∃ a c, v = .slice a ws.length c ∧ ws.length ≤ c ∧ c ≤ maxLen ∧ ∀ k, k < ws.length → ∃ g, a = some ⟨g, 0, none⟩ ∧ g < w.heap.size ∧ w.cell? ⟨g, k, none⟩ = some (strV (ws.getD k [])) := by
  rcases h.2 with ⟨rfl, hn⟩ | ⟨g, cap, cur, rfl, hg, hh, hn, hm, hs, ht⟩
  · exact ⟨none, 0, by rw [hn], by omega, Nat.zero_le _, fun k hk => by omega⟩
  · refine ⟨_, cap, rfl, hn, hm, fun k hk => ⟨g, rfl, (Array.getElem?_eq_some_iff.1 hh).1, ?_⟩⟩
    rw [World.ownsRow.cellAt h k (by omega)]
    simp [hk, List.getD_eq_getElem?_getD]
theorem OwnL.one {B : Nat} {w : World} {v : Value} {ws : List (List UInt8)} {T : List UInt8} {s : ByteArray} (hs : s.data.toList = T) (h : w.ownsRow B 9 1 v (ws.length + 1) (ws.map strV ++ [.string s])) : OwnL B w v (ws ++ [T]) := by
  unfold OwnL
  have e : Value.string s = strV T := by unfold strV; congr 1; cases s; simp at hs; rw [← hs]
  rw [e] at h
  simpa using h
theorem ext_list (s : ByteArray) (f k : Nat) : (s.extract f k).data.toList = (s.data.toList.drop f).take (k - f) := by
  rw [ByteArray.data_extract, Array.toList_extract]
theorem ba_drop {s : ByteArray} {k : Nat} (h : k < s.size) : s.data.toList.drop k = s[k] :: s.data.toList.drop (k + 1) := by
  have hl : k < s.data.toList.length := by cases s; simpa [ByteArray.size] using h
  rw [List.drop_eq_getElem_cons hl]; rfl
theorem ba_len (s : ByteArray) : s.data.toList.length = s.size := by cases s; simp [ByteArray.size]
theorem cur_more {s : ByteArray} {f k : Nat} (h : k < s.size) (hf : f ≤ k) : (s.data.toList.drop f).take (k + 1 - f) = (s.data.toList.drop f).take (k - f) ++ [s[k]] := by
  have hl : k < s.data.toList.length := by rw [ba_len]; exact h
  rw [show k + 1 - f = (k - f) + 1 by omega, List.take_add_one, List.getElem?_drop, show f + (k - f) = k by omega, List.getElem?_eq_getElem hl]
  rfl
theorem cur_none {L : List UInt8} {f k : Nat} (hf : f ≤ k) (hk : k ≤ L.length) : ((L.drop f).take (k - f) = []) ↔ f = k := by
  constructor
  · intro h
    have := congrArg List.length h
    simp at this; omega
  · rintro rfl; simp

end Go.Proofs.Ytblkhkfjaggnfaa
