/-
  The document's Lines and Words, walked: rows of texts.
  KEEP: len below nil form rd mono on app start at new trans refl kept own row out grown rdz
-/
import Derived.Test.YtbeaoekbppdlmaaDoorJText
import Derived.Test.YtbeaoekbppdlmaaDoorGrow
import Derived.Handy
import Derived.Lib.Hide
import Derived.Maps.AppendAt
import Derived.OwnWalk
import Derived.Deep.LoopGhost
import Derived.Deep.CutRange
set_option linter.unusedSimpArgs false
set_option linter.unusedVariables false
namespace Go.Proofs.YtbeaoekbppdlmaaDoor
open Go Go.RowKit

theorem infoS : (Tryd.prog.info? 9).map (fun i => (i.zero, i.size, i.bytes)) = some (some (.string ⟨#[]⟩), 1, 16) := by kernel_rfl
def strV (T : List UInt8) : Value := .string ⟨T.toArray⟩
/-- a row of texts of a call's own -/
def OwnL (B : Nat) (w : World) (v : Value) (ws : List (List UInt8)) : Prop := w.ownsRow B 9 1 v ws.length (ws.map strV)
theorem OwnL.nil (B : Nat) (w : World) : OwnL B w (.slice none 0 0) [] := World.ownsRow_nil _ _ _ _
theorem OwnL.below {B : Nat} {w w' : World} {v : Value} {ws : List (List UInt8)} (h : OwnL B w v ws) (hb : Below w.heap.size w w') : OwnL B w' v ws := World.ownsRow.kept h (grown_below hb) (one_or _)
theorem OwnL.form {B : Nat} {w : World} {v : Value} {ws : List (List UInt8)} (h : OwnL B w v ws) : ∃ a c, v = .slice a ws.length c ∧ ws.length ≤ c ∧ c ≤ maxLen ∧ ∀ k, k < ws.length → ∃ g, a = some ⟨g, 0, none⟩ ∧ g < w.heap.size ∧ w.cell? ⟨g, k, none⟩ = some (strV (ws.getD k [])) := by
  rcases h.2 with ⟨rfl, hn⟩ | ⟨g, cap, cur, rfl, hg, hh, hn, hm, hs, ht⟩
  · exact ⟨none, 0, by rw [hn], by omega, Nat.zero_le _, fun k hk => by omega⟩
  · refine ⟨_, cap, rfl, hn, hm, fun k hk => ⟨g, rfl, (Array.getElem?_eq_some_iff.1 hh).1, ?_⟩⟩
    rw [World.ownsRow.cellAt h k (by omega)]
    simp [hk, List.getD_eq_getElem?_getD]
theorem OwnL.one {B : Nat} {w : World} {v : Value} {ws : List (List UInt8)} {T : List UInt8} {s : ByteArray} (hs : s.data.toList = T) (h : w.ownsRow B 9 1 v (ws.length + 1) (ws.map strV ++ [.string s])) : OwnL B w v (ws ++ [T]) := by
  unfold OwnL
  have e : Value.string s = strV T := by unfold strV; congr 1; cases s; simp at hs; rw [← hs]
  rw [e] at h
  simpa using h
theorem ext_list (s : ByteArray) (f k : Nat) : (s.extract f k).data.toList = (s.data.toList.drop f).take (k - f) := by
  rw [ByteArray.data_extract, Array.toList_extract]
theorem ba_drop {s : ByteArray} {k : Nat} (h : k < s.size) : s.data.toList.drop k = s[k] :: s.data.toList.drop (k + 1) := by
  have hl : k < s.data.toList.length := by cases s; simpa [ByteArray.size] using h
  rw [List.drop_eq_getElem_cons hl]; rfl
theorem ba_len (s : ByteArray) : s.data.toList.length = s.size := by cases s; simp [ByteArray.size]
theorem cur_more {s : ByteArray} {f k : Nat} (h : k < s.size) (hf : f ≤ k) : (s.data.toList.drop f).take (k + 1 - f) = (s.data.toList.drop f).take (k - f) ++ [s[k]] := by
  have hl : k < s.data.toList.length := by rw [ba_len]; exact h
  rw [show k + 1 - f = (k - f) + 1 by omega, List.take_add_one, List.getElem?_drop, show f + (k - f) = k by omega, List.getElem?_eq_getElem hl]
  rfl
theorem cur_none {L : List UInt8} {f k : Nat} (hf : f ≤ k) (hk : k ≤ L.length) : ((L.drop f).take (k - f) = []) ↔ f = k := by
  constructor
  · intro h
    have := congrArg List.length h
    simp at this; omega
  · rintro rfl; simp

set_option maxHeartbeats 3200000 in
set_option maxRecDepth 100000 in
theorem rLines_any (s : ByteArray) (w : World) (hs : s.size ≤ 1099511627776) :
    Calls Tryd.prog 45 #[.string s] w fun e w' => ∃ v, e = .returned v ∧ OwnL w.heap.size w' v (lnsF s.data.toList []) ∧ Below w.heap.size w w' := by
  obtain ⟨i0, hi, hz0, hz1, hz2⟩ := info_parts infoS
  go_enter Tryd.func45, Tryd.ntmps45
  go_wp2
  go_loopg [3, 4, 5] s.size (fun g u x i wr => ∃ (k f : Nat) (done : List (List UInt8)), k + g = s.size ∧ i = .int .i64 k ∧ x = .int .i64 f ∧ f ≤ k ∧ done.length ≤ k ∧ done ++ lnsF (s.data.toList.drop k) ((s.data.toList.drop f).take (k - f)) = lnsF s.data.toList [] ∧ OwnL w.heap.size wr u done ∧ Below w.heap.size w wr)
  case atStart => exact ⟨0, 0, [], by omega, rfl, rfl, by omega, by simp, by simp, OwnL.nil _ _, Below.refl _ _⟩
  case round =>
    obtain ⟨k, f, done, hk, rfl, rfl, hf, hd, hE, own, bel⟩ := hrel
    have HK : Hid (k + gk = s.size) := hk
    have HO : Hid (OwnL w.heap.size wr _ done) := own
    have hsb := bel.size
    have HE : Hid (done ++ lnsF (s.data.toList.drop k) ((s.data.toList.drop f).take (k - f)) = lnsF s.data.toList []) := hE
    clear hE own
    by_cases hlt : k < s.size
    · have HD : Hid (s.data.toList.drop k = s[k] :: s.data.toList.drop (k + 1)) := ba_drop hlt
      have HC : Hid ((s.data.toList.drop f).take (k + 1 - f) = (s.data.toList.drop f).take (k - f) ++ [s[k]]) := cur_more hlt hf
      have hyl : s[k].toNat < 256 := s[k].toNat_lt
      clear hk
      by_cases hb : s[k] = 10
      · have hb2 : ((s[k].toNat : Int) == 10) = true := by rw [hb]; rfl
        have HE2 : Hid ((done ++ [(s.data.toList.drop f).take (k - f)]) ++ lnsF (s.data.toList.drop (k + 1)) ((s.data.toList.drop (k + 1)).take (k + 1 - (k + 1))) = lnsF s.data.toList []) := by
          show _ = _
          rw [← HE.out, HD.out, lnsF, if_pos hb]; simp
        go_wp2_with (at_builtin; refine wpList_append_own _ rfl _ _ 61 rfl w.heap.size 9 i0 (.string ⟨#[]⟩) 1 16 Tryd.underlying61 hi hz0 hz1 hz2 rfl (by decide) _ done.length (done.map strV) rfl (World.ownsRow.alloc HO.out _) _ 1 1 [.string (s.extract f k)] rfl rfl (cell_one_new _ _ _) (by simp [Value.oneCell']) (by unfold maxLen; omega) (by omega) (by simp; omega) ?_; intro v2 w2 own2 gr2 hn2)
        go_roundg (gk - 1)
        case measure => have := HK.out; omega
        case rel => exact ⟨k + 1, k + 1, done ++ [(s.data.toList.drop f).take (k - f)], by have := HK.out; omega, by go_num, by go_num, by omega, by simp; omega, HE2.out, OwnL.one (ext_list s f k) own2, (bel.alloc hsb _).grown gr2 (by simp; omega) (fun q hq => (HO.out.lt q hq).1)⟩
      · have hb2 : ((s[k].toNat : Int) == 10) = false := beq_eq_false_iff_ne.2 (fun e => hb (UInt8.toNat_inj.1 ((by omega : s[k].toNat = 10).trans rfl)))
        have HE2 : Hid (done ++ lnsF (s.data.toList.drop (k + 1)) ((s.data.toList.drop f).take (k + 1 - f)) = lnsF s.data.toList []) := by
          show _ = _
          rw [← HE.out, HD.out, lnsF, if_neg hb, HC.out]
        go_wp2
        go_roundg (gk - 1)
        case measure => have := HK.out; omega
        case rel => exact ⟨k + 1, f, done, by have := HK.out; omega, by go_num, rfl, by omega, by omega, HE2.out, HO.out, bel⟩
    · obtain rfl : k = s.size := by omega
      have hL := ba_len s
      have hE := HE.out
      rw [List.drop_eq_nil_of_le (by omega), lnsF] at hE
      clear hk
      by_cases hfe : f = s.size
      · rw [if_pos ((cur_none hf (by omega)).2 hfe), List.append_nil] at hE
        have HE2 : Hid (done = lnsF s.data.toList []) := hE
        subst hfe
        clear hE HE hL
        go_wp2
        go_ret
        exact ⟨_, rfl, by rw [← HE2.out]; exact HO.out, bel⟩
      · rw [if_neg (fun h => hfe ((cur_none hf (by omega)).1 h))] at hE
        have HE2 : Hid (done ++ [(s.data.toList.drop f).take (s.size - f)] = lnsF s.data.toList []) := hE
        have hflt : f < s.size := by omega
        clear hE HE hL hfe
        go_wp2_with (at_builtin; refine wpList_append_own _ rfl _ _ 61 rfl w.heap.size 9 i0 (.string ⟨#[]⟩) 1 16 Tryd.underlying61 hi hz0 hz1 hz2 rfl (by decide) _ done.length (done.map strV) rfl (World.ownsRow.alloc HO.out _) _ 1 1 [.string (s.extract f s.size)] rfl rfl (cell_one_new _ _ _) (by simp [Value.oneCell']) (by unfold maxLen; omega) (by omega) (by simp; omega) ?_; intro v2 w2 own2 gr2 hn2)
        go_ret
        exact ⟨_, rfl, by rw [← HE2.out]; exact OwnL.one (ext_list s f s.size) own2, (bel.alloc hsb _).grown gr2 (by simp; omega) (fun q hq => (HO.out.lt q hq).1)⟩

end Go.Proofs.YtbeaoekbppdlmaaDoor
