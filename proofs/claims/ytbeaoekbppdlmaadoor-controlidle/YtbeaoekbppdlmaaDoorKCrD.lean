/-
  control.Read, walked whole.
  KEEP: below len form out each rd mono nil own row set on app start grown at new one more take none some kept cell refl trans size map made look put blw get step next box lt Ap old weak
-/
import Derived.Test.YtbeaoekbppdlmaaDoorKCrR
set_option linter.unusedSimpArgs false
set_option linter.unusedVariables false
namespace Go.Proofs.YtbeaoekbppdlmaaDoor
open Go Go.RowKit

set_option maxHeartbeats 3200000 in
set_option maxRecDepth 100000 in
theorem read21 (s : ByteArray) (w : World) (hs : s.size ≤ 274877906944) :
    Calls Tryd.prog 19 #[.string s] w fun e w' => RdAns w.heap.size w w' e (rdF21 s.data.toList) := by
  have hmk : (Instr.makeMap 59 none).run Tryd.prog w = .ok (.map (some w.heap.size)) (w.alloc (.map #[] 0)) := run_makeMap _ _
  have hsl := size20 s
  obtain ⟨W1, hW1⟩ : ∃ W1, W1 = (w.alloc (.map #[] 0)).alloc (.cells #[.string s, .string ⟨#[]⟩, .int .i64 0, .string ⟨#[]⟩, .slice none 0 0, .int .i64 0, .slice none 0 0, .map (some w.heap.size), .slice none 0 0] 66) := ⟨_, rfl⟩
  have hs0 : (w.alloc (.map #[] 0)).heap.size = w.heap.size + 1 := by simp
  have hb0 : Below w.heap.size w (w.alloc (.map #[] 0)) := Below.alloc (Below.refl _ _) (Nat.le_refl _) _
  have hb1 : Below (w.alloc (.map #[] 0)).heap.size (w.alloc (.map #[] 0)) W1 := by rw [hW1]; exact Below.alloc (Below.refl _ _) (Nat.le_refl _) _
  have hrb : Rb W1 (w.heap.size + 1) s.data.toList [] 0 [] (.slice none 0 0) 0 (.slice none 0 0) w.heap.size (.slice none 0 0) := by
    rw [hW1, ← hs0]
    unfold Rb
    rw [ba_mk]
    exact World.alloc_heap_new _ _
  have hmi : Mi W1 w.heap.size 0 (fun _ => 0) := (Mi.made w).blw hb1
  have hbel : Below w.heap.size w W1 := hb0.trans (hb1.mono (by omega))
  have hrm : RM w.heap.size W1 (w.heap.size + 1) w.heap.size 0 (fun _ => 0) (.slice none 0 0) [] (.slice none 0 0) [] (.slice none 0 0) [] := ⟨hmi, OwnT.nil _ _, OwnG.nil _ _, OwnSt.nil _ _, fun x hx => (by cases hx), ⟨_, _, hrb⟩, Nat.le_succ _, Nat.le_refl _⟩
  have hat : At0 w.heap.size w (w.heap.size + 1) w.heap.size s.size (rdF21 s.data.toList) W1 := ⟨s.data.toList, [], 0, [], _, [], _, [], 0, _, ⟨hrb, hrm, hbel, by omega, by omega, by omega, by simp, by simp, by simp, by simp, by simp, by omega, by omega⟩, rfl, fun x => by simp⟩
  have HRun : Hid (Calls Tryd.prog 35 #[.pointer (some ⟨w.heap.size + 1, 0, none⟩)] W1 (RunQ w.heap.size w (w.heap.size + 1) (rdF21 s.data.toList))) := run21 _ w W1 _ _ s.size _ (by omega) hat
  rw [hW1] at HRun
  clear hat hrm hbel hmi hrb hb1 hb0 hs0 hW1 W1
  generalize rdF21 s.data.toList = R at *
  go_enter Tryd.func19, Tryd.ntmps19
  go_wp2_with fail
  refine HRun.out.mono ?_
  rintro e w2 (⟨c, ln, left, text, nm, val, sl, sf, mp, all, hR, hc0, rfl, hr, hb⟩ | ⟨ln, left, text, nm, val, sl, sf, mp, all, L, hR, rfl, hr, ho, hb⟩)
  · have HR : Hid (R = .error (c, ln)) := hR
    have HB : Hid (Below w.heap.size w w2) := hb
    have hc1 : (c != 0) = true := by rw [bne, hc0]; rfl
    have hcn : ¬ c = 0 := by simpa using hc0
    have c2 := hr.c2
    clear hR hb hr HRun hmk
    go_upto_region 4 with fail
    go_quiet (fail)
    go_wp2
    go_returns
    rw [HR.out]
    exact ⟨rfl, HB.out.trans ⟨rfl, rfl, rfl, Nat.le_refl _, fun _ _ => rfl⟩⟩
  · have HR : Hid (R = .ok (sgS L)) := hR
    have HB : Hid (Below w.heap.size w w2) := hb
    have HO : Hid (OwnSt w.heap.size w2 all L) := ho
    have c8 := hr.c8
    clear hR hb hr HRun hmk ho
    go_wp2
    go_returns
    rw [HR.out]
    exact ⟨_, L, rfl, HO.out, rfl, HB.out⟩

end Go.Proofs.YtbeaoekbppdlmaaDoor
