/-
  The document's text, Write, WriteList of relations, walked.
  KEEP: lisF head22 put22 cellAt22 OwnR OwnRs St22 LsAns blw Ap put_app step_append_apk len below nil form rd mono on app start at new trans refl kept own row out grown rdz set one more lt size cell some none letL tail next step go add put del get look no yes e c f b k n m box take each block shape os tape output setCell heap alloc addr last blk drew keep done
-/
import Derived.Test.YtmanjignognplaaDoorRlG
set_option linter.unusedSimpArgs false
set_option linter.unusedVariables false
namespace Go.Proofs.YtmanjignognplaaDoor
open Go Go.RowKit

theorem sgF_size (o : Int) : (sgF o).size ≤ 2 := by
  unfold sgF
  repeat' split
  all_goals decide
/-- a relation's text -/
def txtB (n : ByteArray) (o : Int) (v : ByteArray) : ByteArray := if o = 0 then n else ((((n ++ ⟨#[32, 40]⟩) ++ sgF o) ++ ⟨#[32]⟩) ++ v) ++ ⟨#[41]⟩
theorem cat22 (x y : ByteArray) (h : x.size + y.size ≤ 9223372036854775807) (w : World) : (Op.stringOp .add x y).run Tryd.prog w = .ok (.string (x ++ y)) w := run_string_add_sum w x y h
set_option maxHeartbeats 3200000 in
set_option maxRecDepth 20000 in
theorem rText22_any (n : ByteArray) (o : Int) (v : ByteArray) (w : World) (hn : n.size ≤ 1099511627776) (hv : v.size ≤ 1099511627776) :
    Calls Tryd.prog 37 #[.agg #[.string n, .int .i64 o, .string v]] w fun e w' => e = .returned (.string (txtB n o v)) ∧ Below w.heap.size w w' := by
  have HS : Hid (∀ V, Calls Tryd.prog 25 #[.int .i64 o] V fun e w' => e = .returned (.string (sgF o)) ∧ w' = V) := fun V => rSign22o_any o V
  have HT : Hid (txtB n o v = if o = 0 then n else ((((n ++ ⟨#[32, 40]⟩) ++ sgF o) ++ ⟨#[32]⟩) ++ v) ++ ⟨#[41]⟩) := rfl
  have hg := sgF_size o
  generalize txtB n o v = T at *
  go_enter Tryd.func37, Tryd.ntmps37
  go_upto_region 1 with fail
  have HBa : Hid (Below w.heap.size w (w.alloc (.cells #[.string n, .int .i64 o, .string v] 23))) := Below.alloc (Below.refl _ _) (Nat.le_refl _) _
  have HQ : Hid (Rq (w.alloc (.cells #[.string n, .int .i64 o, .string v] 23)) w.heap.size n o v) := Rq.newS _ _ _ _ _ rfl
  generalize w.alloc (.cells #[.string n, .int .i64 o, .string v] 23) = W at *
  have c0 := HQ.out.c0
  have c1 := HQ.out.c1
  have c2 := HQ.out.c2
  by_cases h0 : o = 0
  · subst h0
    have HE : Hid (T = n) := HT.out
    clear HT
    go_wp2
    go_ret
    exact ⟨by rw [HE.out]; rfl, HBa.out⟩
  · have d0 : (o == 0) = false := by simpa using h0
    have HE0 : T = ((((n ++ ⟨#[32, 40]⟩) ++ sgF o) ++ ⟨#[32]⟩) ++ v) ++ ⟨#[41]⟩ := by rw [HT.out, if_neg h0]
    clear HT h0
    generalize sgF o = G at *
    have s1 : (n ++ (⟨#[32, 40]⟩ : ByteArray)).size = n.size + 2 := ByteArray.size_append
    have k1 := cat22 n ⟨#[32, 40]⟩ (by show n.size + 2 ≤ _; omega)
    generalize n ++ (⟨#[32, 40]⟩ : ByteArray) = t1 at *
    have s2 : (t1 ++ G).size = t1.size + G.size := ByteArray.size_append
    have k2 := cat22 t1 G (by omega)
    generalize t1 ++ G = t2 at *
    have s3 : (t2 ++ (⟨#[32]⟩ : ByteArray)).size = t2.size + 1 := ByteArray.size_append
    have k3 := cat22 t2 ⟨#[32]⟩ (by show t2.size + 1 ≤ _; omega)
    generalize t2 ++ (⟨#[32]⟩ : ByteArray) = t3 at *
    have s4 : (t3 ++ v).size = t3.size + v.size := ByteArray.size_append
    have k4 := cat22 t3 v (by omega)
    generalize t3 ++ v = t4 at *
    have k5 := cat22 t4 ⟨#[41]⟩ (by show t4.size + 1 ≤ _; omega)
    generalize t4 ++ (⟨#[41]⟩ : ByteArray) = t5 at *
    have HE : Hid (T = t5) := HE0
    clear HE0 s1 s2 s3 s4 hg
    go_wp2_with fail
    go_cut [2] from 8 to 19 (fun p wx => p = .string t5 ∧ wx = W.drew)
    case first =>
      go_region_law (go_wp2_with (go_at_call 25; refine (HS.out _).mono ?_; rintro e w8 ⟨rfl, h8⟩; have h8s := h8.symm; clear h8; subst h8s))
      all_goals
        go_wp2_with fail
        go_meet
        exact ⟨rfl, rfl⟩
    case rest =>
      obtain ⟨rfl, rfl⟩ := hcut
      go_wp2
      go_ret
      exact ⟨by rw [HE.out]; rfl, HBa.out.drew⟩
end Go.Proofs.YtmanjignognplaaDoor
