/-
  learn: coverer.
  KEEP: len below nil form rd mono one more grown lt size cell some none of ofNat add out step row get at mk new made look put del kept drew alloc has same other map rde take lit lev lstB pre ws cells bnd on start app set box bel rz tidy ms reason c f
-/
import Derived.Test.YtkchabdlpeifjaaKLnCy
import Derived.Test.YtkchabdlpeifjaaJLnK
set_option linter.unusedSimpArgs false
set_option linter.unusedVariables false
namespace Go.Proofs.Ytkchabdlpeifjaa
open Go Go.RowKit
theorem run_store_func15 {P : Program} {w : World} {a : Addr} {m : Mode} (fn : Fn) (x y : Array Value) : (store a (.func fn x y) m).run P w = stored P w a (.func fn x y) m := run_store P w a _ m rfl
attribute [local go_sem] run_store_func15
theorem covered_all (w0 : World) (X : Nat) (a : Option Addr) (t : List Ent) (c g gs ns : Nat) (cl : List Int) : ∀ p, p < t.length → CvC w0 X a t c g gs ns cl p := by
  intro p
  induction p using Nat.strongRecOn with
  | _ p ih => exact fun hp => covered_at w0 X a t c g gs ns cl p hp fun q hq => ih q hq (by omega)
/-- the coverer, its marks right -/
def CvA (w0 W : World) (X : Nat) (a : Option Addr) (t : List Ent) (c g gs ns : Nat) (cl : List Int) : Prop := ∃ M, Cv w0 W X a t c g gs ns cl M ∧ InP t M ∧ Rgt t (fun x => cl.contains x) M t.length
theorem CvA.below {w0 W W' : World} {X : Nat} {a : Option Addr} {t : List Ent} {c g gs ns : Nat} {cl : List Int} (h : CvA w0 W X a t c g gs ns cl) (hb : Below W.heap.size W W') : CvA w0 W' X a t c g gs ns cl := by
  obtain ⟨M, h1, h2, h3⟩ := h
  exact ⟨M, h1.below hb, h2, h3⟩
theorem covered_any (w0 W : World) (X : Nat) (a : Option Addr) (t : List Ent) (c g gs ns : Nat) (cl : List Int) (p : Nat) (h : CvA w0 W X a t c g gs ns cl) (hp : p < t.length) :
    Calls Try.prog 55 #[.int .i64 (p : Int), .pointer (some ⟨X + 4, 0, none⟩), .pointer (some ⟨X, 0, none⟩), .pointer (some ⟨X + 2, 0, none⟩), .pointer (some ⟨X + 5, 0, none⟩)] W fun e w' => e = .returned (.bool (covB t (fun x => cl.contains x) p)) ∧ CvA w0 w' X a t c g gs ns cl ∧ W.grownBy w' (some (X + 3)) := by
  obtain ⟨M, h1, h2, h3⟩ := h
  refine (covered_all w0 X a t c g gs ns cl p hp W M h1 h2 (fun r hr m hm => h3 r (by omega) m hm)).mono fun e w' ⟨k1, M', k2, k3, k4, k5, k6⟩ => ⟨k1, ⟨M', k2, k3, fun r hr m hm => ?_⟩, k6⟩
  by_cases e : r < p + 1
  · exact k4 r e m hm
  · rw [k5 _ (by omega)] at hm
    exact h3 r hr m hm
theorem Cv.start {w : World} {a : Option Addr} {t : List Ent} {c g gs ns : Nat} {cl : List Int} (h : Rz w a t c g t) (hs : Mi w gs ns (fsI cl)) :
    ∃ w1, ((((((w.alloc (.cells #[.slice a t.length c, .map (some g)] 45)).alloc (.cells #[.map (some gs)] 43)).alloc (.cells #[gvV w.heap.size] 48)).alloc (.map #[] 0)).alloc (.cells #[.map (some (w.heap.size + 3))] 43)).alloc (.cells #[cvV w.heap.size] 48)) = w1 ∧ CvA w w1 w.heap.size a t c g gs ns cl := by
  refine ⟨_, rfl, fun _ => none, ?_, fun q hq => (by cases hq), fun r _ m hm => (by cases hm)⟩
  have s1 : (w.alloc (.cells #[.slice a t.length c, .map (some g)] 45)).heap.size = w.heap.size + 1 := by simp
  generalize hw1 : w.alloc (.cells #[.slice a t.length c, .map (some g)] 45) = w1 at *
  have o1 : Bx2 w1 w.heap.size 45 (.slice a t.length c) (.map (some g)) := by rw [← hw1]; exact Bx2.new _ _ _ _
  have k1 : Below w.heap.size w w1 := by rw [← hw1]; exact below_box _ _
  have o2 := Bo1.new w1 43 (.map (some gs))
  rw [s1] at o2
  have s2 : (w1.alloc (.cells #[.map (some gs)] 43)).heap.size = w.heap.size + 2 := by simp [s1]
  have k2 := below_box w1 (.cells #[.map (some gs)] 43)
  generalize w1.alloc (.cells #[.map (some gs)] 43) = w2 at *
  have o3 := Bo1.new w2 48 (gvV w.heap.size)
  rw [s2] at o3
  have s3 : (w2.alloc (.cells #[gvV w.heap.size] 48)).heap.size = w.heap.size + 3 := by simp [s2]
  have k3 := below_box w2 (.cells #[gvV w.heap.size] 48)
  generalize w2.alloc (.cells #[gvV w.heap.size] 48) = w3 at *
  have o4 := Mi.made w3
  rw [s3] at o4
  have s4 : (w3.alloc (.map #[] 0)).heap.size = w.heap.size + 4 := by simp [s3]
  have k4 := below_box w3 (.map #[] 0)
  generalize w3.alloc (.map #[] 0) = w4 at *
  have o5 := Bo1.new w4 43 (.map (some (w.heap.size + 3)))
  rw [s4] at o5
  have s5 : (w4.alloc (.cells #[.map (some (w.heap.size + 3))] 43)).heap.size = w.heap.size + 5 := by simp [s4]
  have k5 := below_box w4 (.cells #[.map (some (w.heap.size + 3))] 43)
  generalize w4.alloc (.cells #[.map (some (w.heap.size + 3))] 43) = w5 at *
  have o6 := Bo1.new w5 48 (cvV w.heap.size)
  rw [s5] at o6
  have k6 := below_box w5 (.cells #[cvV w.heap.size] 48)
  have e56 := Below.step k5 k6
  have e46 := Below.step k4 e56
  have e36 := Below.step k3 e46
  have e26 := Below.step k2 e36
  have o4' : Mi (w5.alloc (.cells #[cvV w.heap.size] 48)) (w.heap.size + 3) t.length (fun _ => none) := by
    obtain ⟨D, d1, d2⟩ := o4.below e56
    exact ⟨D, d1.mono (by omega), d2⟩
  exact ⟨h, hs, rfl, Below.step k1 e26, o1.below e26, o2.below e36, o3.below e46, o5.below k6, o6, o4'⟩
set_option maxRecDepth 100000 in
set_option maxHeartbeats 3200000 in
theorem coverer_any (w : World) (a : Option Addr) (t : List Ent) (c g gs ns : Nat) (cl : List Int) (h : Rz w a t c g t) (hs : Mi w gs ns (fsI cl)) :
    Calls Try.prog 41 #[rV a t.length c g, .map (some gs)] w fun e w' => e = .returned (cvV w.heap.size) ∧ CvA w w' w.heap.size a t c g gs ns cl := by
  have hbn := h.bnd
  obtain ⟨w1, hw1, hS⟩ := Cv.start (cl := cl) h hs
  obtain ⟨X, hX⟩ : ∃ X, w.heap.size = X := ⟨_, rfl⟩
  rw [hX] at hw1 hS ⊢
  have HS : Hid (CvA w w1 X a t c g gs ns cl) := hS
  have HW1 : Hid (((((((w.alloc (.cells #[.slice a t.length c, .map (some g)] 45)).alloc (.cells #[.map (some gs)] 43)).alloc (.cells #[gvV X] 48)).alloc (.map #[] 0)).alloc (.cells #[.map (some (X + 3))] 43)).alloc (.cells #[cvV X] 48)) = w1) := hw1
  have hmake : ∀ W : World, (Instr.makeMap 43 none).run Try.prog W = .ok (.map (some W.heap.size)) (W.alloc (.map #[] 0)) := fun W => rfl
  clear h hs hS hw1
  go_enter Try.func41, Try.ntmps41
  go_upto_region 5 with fail
  simp only [Nat.add_assoc, Nat.reduceAdd]
  rw [HW1.out]
  clear HW1 hmake
  have b0 : w1.cell? ⟨X, 0, none⟩ = some (.slice a t.length c) := by obtain ⟨M, h1, _⟩ := HS.out; exact h1.box.c0
  have b5 : w1.cell? ⟨X + 5, 0, none⟩ = some (cvV X) := by obtain ⟨M, h1, _⟩ := HS.out; exact h1.cf.c
  by_cases hN : (65536 : Int) < (t.length : Int)
  · go_wp2_with fail
    go_loopg [19] t.length (fun g' i wr => ∃ k : Nat, k + g' = t.length ∧ i = .int .i64 k ∧ Hid (CvA w wr X a t c g gs ns cl))
    case atStart => exact ⟨0, by omega, rfl, HS.out⟩
    case round =>
      obtain ⟨k, hk, rfl, HC⟩ := hrel
      have HK : Hid (k + gk = t.length) := hk
      have c5 : wr.cell? ⟨X + 5, 0, none⟩ = some (cvV X) := by obtain ⟨M, h1, _⟩ := HC.out; exact h1.cf.c
      by_cases hlt : k < t.length
      · have HCv : Hid (Calls Try.prog 55 #[.int .i64 (k : Int), .pointer (some ⟨X + 4, 0, none⟩), .pointer (some ⟨X, 0, none⟩), .pointer (some ⟨X + 2, 0, none⟩), .pointer (some ⟨X + 5, 0, none⟩)] wr fun e w' => ∃ q, e = .returned (.bool q) ∧ CvA w w' X a t c g gs ns cl) := (covered_any w wr X a t c g gs ns cl k HC.out hlt).mono fun e w' ⟨h1, h2, _⟩ => ⟨_, h1, h2⟩
        clear hk
        go_wp2_with (go_at_call 55; refine HCv.out.mono ?_; rintro e w5 ⟨q, rfl, h5⟩; have H5 : Hid (CvA w w5 X a t c g gs ns cl) := h5; clear h5)
        go_roundg (gk - 1)
        case measure => have := HK.out; omega
        case rel => exact ⟨k + 1, by have := HK.out; omega, by go_num, H5.out⟩
      · clear hk
        go_wp2_with fail
        go_ret
        exact ⟨rfl, HC.out⟩
  · go_wp2_with fail
    go_ret
    exact ⟨rfl, HS.out⟩
end Go.Proofs.Ytkchabdlpeifjaa
