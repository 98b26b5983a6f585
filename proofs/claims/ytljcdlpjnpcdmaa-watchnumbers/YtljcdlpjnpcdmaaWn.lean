/-
  watch, at one small formula: how it lies; the questions.
  KEEP: set on app at below new trans refl start ap kept rd rds mono lt add none own nil put len pos setF setV putL putR other neV same_any
-/
import Derived.Test.YtljcdlpjnpcdmaaTrW
import Derived.Test.YtljcdlpjnpcdmaaAppK
import Derived.Test.YtljcdlpjnpcdmaaTidy
import Derived.Test.YtljcdlpjnpcdmaaShape
import Derived.BigQuiet
set_option linter.unusedSimpArgs false
set_option linter.unusedVariables false
namespace Go.Proofs.Ytljcdlpjnpcdmaa
open Go Go.RowKit

def TyW (W : World) (g : Nat) (e : TypeId) : Prop := ∃ c f, W.heap[g]? = some (.cells c e f)
theorem TyW.unique {W : World} {g : Nat} {e e' : TypeId} (h : TyW W g e) (h' : TyW W g e') : e = e' := by
  obtain ⟨c, f, h⟩ := h
  obtain ⟨c', f', h'⟩ := h'
  rw [h] at h'
  injection h' with h'
  injection h'
theorem row_tyW {W : World} {B e s n : Nat} {v : Value} {xs : List Value} (h : W.ownsRow B e s v n xs) {k : Nat} (hk : some k = v.ownBlock) : TyW W k e := by
  rcases h.2 with ⟨rfl, _⟩ | ⟨g, cap, cur, rfl, _, hg, _⟩
  · simp [Value.ownBlock] at hk
  · have : k = g := by simpa [Value.ownBlock] using hk
    subst this
    exact ⟨_, _, hg⟩
/-- the box of a Watch -/
def BxW (W : World) (b : Nat) (C Wt Bl R : Value) (gone : Int) (D : Value) (st : Int) (cl : Bool) : Prop :=
  W.heap[b]? = some (.cells #[.int .i64 2, C, Wt, .slice none 0 0, Bl, R, .int .i64 gone, D, .int .i64 st, .bool cl] 58 (0, 0))
section
variable {W W' : World} {b : Nat} {C Wt Bl R D : Value} {gone st : Int} {cl : Bool}
theorem BxW.cell (h : BxW W b C Wt Bl R gone D st cl) (j : Nat) (x : Value) (hx : #[Value.int .i64 2, C, Wt, .slice none 0 0, Bl, R, .int .i64 gone, D, .int .i64 st, .bool cl][j]? = some x) : W.cell? ⟨b, j, none⟩ = some x := by
  simp [World.cell?, show W.heap[b]? = _ from h]; simpa using hx
theorem BxW.fz (h : BxW W b C Wt Bl R gone D st cl) (j : Nat) : W.frozen? ⟨b, j, none⟩ = false := by simp [World.frozen?, show W.heap[b]? = _ from h]
theorem BxW.lt (h : BxW W b C Wt Bl R gone D st cl) : b < W.heap.size := (Array.getElem?_eq_some_iff.1 h).1
theorem BxW.ty (h : BxW W b C Wt Bl R gone D st cl) : TyW W b 58 := ⟨_, _, h⟩
theorem BxW.below (h : BxW W b C Wt Bl R gone D st cl) (hb : Below W.heap.size W W') : BxW W' b C Wt Bl R gone D st cl := (hb.block b h.lt).trans h
end
/-- the rows of the Watch of two variables and the clause [1] -/
structure Nr (B : Nat) (W : World) (C Wt Bl R D lit late : Value) (p q z : Int) (wl rl tl : List Int) : Prop where
  c : W.ownsRow B 75 3 C 1 [lit, .int .i64 p, .int .i64 q]
  l : W.ownsRow B 21 1 lit 1 [.int .i32 0]
  w : W.ownsRow B 21 1 Wt wl.length (wl.map (Value.int .i32))
  b : W.ownsRow B 21 1 Bl 4 [.int .i32 z, .int .i32 0, .int .i32 0, .int .i32 0]
  r : W.ownsRow B 21 1 R rl.length (rl.map (Value.int .i32))
  d : W.ownsRow B 52 2 D 1 [.int .i64 0, late]
  t : W.ownsRow B 21 1 late tl.length (tl.map (Value.int .i32))
  ap : (∀ g, lit.ownBlock = some g → Bl.ownBlock ≠ some g) ∧ (∀ g, Wt.ownBlock = some g → Bl.ownBlock ≠ some g)
section
variable {B : Nat} {W W' : World} {C Wt Bl R D lit late : Value} {p q z : Int} {wl rl tl : List Int}
theorem Nr.kept (h : Nr B W C Wt Bl R D lit late p q z wl rl tl) (hk : ∀ k, k < W.heap.size → (¬ TyW W k 58) → W'.heap[k]? = W.heap[k]?) : Nr B W' C Wt Bl R D lit late p q z wl rl tl := by
  have go : ∀ {e s n : Nat} {v : Value} {xs : List Value}, 58 ≠ e → W.ownsRow B e s v n xs → W'.ownsRow B e s v n xs := fun hne hr => row_kept hr fun k e1 => hk k (hr.lt k e1.symm).2 (fun ht => hne (ht.unique (row_tyW hr e1)))
  exact ⟨go (by decide) h.c, go (by decide) h.l, go (by decide) h.w, go (by decide) h.b, go (by decide) h.r, go (by decide) h.d, go (by decide) h.t, h.ap⟩
theorem Nr.below (h : Nr B W C Wt Bl R D lit late p q z wl rl tl) (hb : Below W.heap.size W W') : Nr B W' C Wt Bl R D lit late p q z wl rl tl := h.kept fun k hk _ => hb.block k hk
/-- a cell of the box is set -/
theorem Nr.box {b : Nat} (h : Nr B W C Wt Bl R D lit late p q z wl rl tl) (hb : TyW W b 58) (j : Nat) (x : Value) : Nr B (W.setCell ⟨b, j, none⟩ x) C Wt Bl R D lit late p q z wl rl tl :=
  h.kept fun k hk hn => (grown_set W ⟨b, j, none⟩ x).block k hk (fun e => hn (by simp at e; exact e ▸ hb))
end
theorem no_ty {W : World} {b k : Nat} {e e' : TypeId} (h : TyW W b e) (hne : e ≠ e') (h' : TyW W k e') : k ≠ b := fun x => by subst x; exact hne (h.unique h')
/-- literals of the Watch's variables -/
theorem wHas_any (b : Nat) (n l : Int) (w : World) (hc : w.cell? ⟨b, 0, none⟩ = some (.int .i64 n)) :
    Calls Try.prog 22 #[.pointer (some ⟨b, 0, none⟩), .int .i64 l] w fun e w' => e = .returned (.bool (fmd l && decide (varOf l ≤ n))) ∧ Below w.heap.size w w' := by
  have HFo : Hid (∀ W, Calls Try.prog 38 #[.int .i64 l] W fun e w' => e = .returned (.bool (fmd l)) ∧ w' = W) := fun W => formed_any _ _
  have HVa : Hid (∀ W, Calls Try.prog 39 #[.int .i64 l] W fun e w' => e = .returned (.int .i64 (varOf l)) ∧ w' = W) := fun W => var_any _ _
  cases hf : fmd l
  · rw [hf] at HFo
    go_enter Try.func22, Try.ntmps22
    go_upto_region 1 with fail
    go_quiet (first | (go_at_call 38; exact Calls.quiet_of_same (HFo.out _)) | (go_at_call 39; exact Calls.quiet_of_same (HVa.out _)))
    all_goals
      go_wp2
      go_ret
      exact ⟨rfl, below_drewN _ _⟩
  · rw [hf] at HFo
    go_enter Try.func22, Try.ntmps22
    go_upto_region 1 with fail
    go_quiet (first | (go_at_call 38; exact Calls.quiet_of_same (HFo.out _)) | (go_at_call 39; exact Calls.quiet_of_same (HVa.out _)))
    all_goals
      go_wp2
      go_ret
      exact ⟨rfl, below_drewN _ _⟩
end Go.Proofs.Ytljcdlpjnpcdmaa
