/-
  lits.Resolvents: the sequence that it answers.
-/
import Derived.Test.YthplkllphpnaoabRes
set_option linter.unusedSimpArgs false
set_option linter.unusedVariables false
namespace Go.Proofs.Ythplkllphpnaoab
open Go Go.RowKit Go.Shelf

attribute [local go_sem] Oper.semAt_some

/-- all resolvents of two lists, as the document orders them; none of lists that aren't sound -/
def resAll (a b : List Int) : List (Int × List Int) := if a.all fmd && b.all fmd then resOn (tid a) (tid b) (tid a) else []

/-- a function value is an iterator that gives R, in a world -/
def GivesV (lo : Nat) (R : List (Int × List Int)) (f : Value) (w : World) : Prop :=
  ∃ gf lb, f = .func (.func gf) #[] lb ∧ (∀ args w, (callFunc gf args).run Try.prog w = .ok (.enter gf args) w) ∧
    ∀ n, 1 ≤ n → SeqV Fence.wide n Try.prog gf lb (fun x : Itm => #[.int .i64 x.1, x.2.1]) (fun m => VV m R) (Mid lo w.heap.size) (fun xs => xs.map Itm.proj = R) (fun pre => pre.map Itm.proj <+: R) w
/-- the same, what it yields newer each time -/
def GivesW (lo : Nat) (R : List (Int × List Int)) (f : Value) (w : World) : Prop :=
  ∃ gf lb, f = .func (.func gf) #[] lb ∧ (∀ args w, (callFunc gf args).run Try.prog w = .ok (.enter gf args) w) ∧
    ∀ n, 1 ≤ n → SeqW Fence.wide n Try.prog gf lb (fun x : Itm => #[.int .i64 x.1, x.2.1]) (fun m => VV m R) (Mid lo w.heap.size) (fun xs => xs.map Itm.proj = R) (fun pre => pre.map Itm.proj <+: R) w
theorem GivesW.toV {lo : Nat} {R : List (Int × List Int)} {f : Value} {w : World} (h : GivesW lo R f w) : GivesV lo R f w := by
  obtain ⟨gf, lb, e, h1, h2⟩ := h
  exact ⟨gf, lb, e, h1, fun n hn => (h2 n hn).toV (VV_mono _)⟩

theorem none_in (n : Nat) (l : Nat) (W : World) :
    CallsIn Fence.wide n Try.prog 46 #[.func (.yield l) #[] #[]] W fun e W' => (∃ v, e = .returned v) ∧ W' = W := by
  refine callsIn_of_wp Try.func46 rfl trivial ?_ rfl
  simp only [Try.ntmps46, List.size_toArray, List.length_cons, List.length_nil, Nat.reduceAdd, Nat.reduceSub, Array.replicate_succ, Array.replicate_zero, List.push_toArray, List.append_toArray, List.nil_append, List.cons_append]
  gi_wp2
  go_end0
  exact ⟨⟨_, rfl⟩, rfl⟩

theorem resolvents_anyW (va vb : Value) (a b : List Int) (w : World) (ha : Rd w va a) (hb : Rd w vb b) :
    Calls Try.prog 22 #[va, vb] w fun e w' => ∃ f, e = .returned f ∧ GivesW w.heap.size (resAll a b) f w' ∧ Below w.heap.size w w' := by
  have HN : Hid (∀ lo w, GivesW lo [] (.func (.func 46) #[] #[]) w) := fun lo w =>
    ⟨_, #[], rfl, enters_of Try.func46 (by kernel_rfl) rfl, fun n hn l J Jx W hW hJ hJx hY h0 => (none_in n l W).mono fun e W' ⟨hv, hw⟩ => ⟨hv, .inl ⟨[], rfl, by rw [hw]; exact h0⟩⟩⟩
  cases hfa : a.all fmd
  · have er : resAll a b = [] := by unfold resAll; rw [hfa]; rfl
    rw [er]
    go_enter Try.func22, Try.ntmps22
    go_wp2_with fail
    refine (sound_any va a w ha).mono ?_
    rintro e wx ⟨rfl, hwx⟩
    rw [hwx, hfa]
    clear hwx wx
    go_wp2
    go_ret
    exact ⟨_, rfl, HN.out _ _, Below.refl _ _⟩
  cases hfb : b.all fmd
  · have er : resAll a b = [] := by unfold resAll; rw [hfb]; simp
    rw [er]
    go_enter Try.func22, Try.ntmps22
    go_wp2_with fail
    refine (sound_any va a w ha).mono ?_
    rintro e wx ⟨rfl, hwx⟩
    rw [hwx, hfa]
    clear hwx wx
    go_wp2_with fail
    refine (sound_any vb b w hb).mono ?_
    rintro e wx ⟨rfl, hwx⟩
    rw [hwx, hfb]
    clear hwx wx
    go_wp2
    go_ret
    exact ⟨_, rfl, HN.out _ _, Below.refl _ _⟩
  · have er : resAll a b = resOn (tid a) (tid b) (tid a) := by unfold resAll; rw [hfa, hfb]; rfl
    rw [er]
    go_enter Try.func22, Try.ntmps22
    go_wp2_with fail
    refine (sound_any va a w ha).mono ?_
    rintro e wx ⟨rfl, hwx⟩
    rw [hwx, hfa]
    clear hwx wx
    go_wp2_with fail
    refine (sound_any vb b w hb).mono ?_
    rintro e wx ⟨rfl, hwx⟩
    rw [hwx, hfb]
    clear hwx wx
    go_wp2_with fail
    refine (tidy_any va a w ha).mono ?_
    rintro e w1 ⟨v1, rfl, own1, bel1⟩
    go_wp2_with fail
    refine (tidy_any vb b w1 (hb.below bel1)).mono ?_
    rintro e w2 ⟨v2, rfl, own2, bel2⟩
    have o1 := own1.below bel2
    go_wp2_with fail
    refine (on_seqW w.heap.size v1 v2 v1 (tid a) (tid b) (tid a) w2 (Nat.le_trans bel1.size bel2.size) (tid_rises a) (tid_rises b) (tid8 a) o1 (own2.mono bel1.size) o1).mono ?_
    rintro e w3 ⟨lb, rfl, bel3, hseq⟩
    go_wp2
    go_ret
    exact ⟨_, rfl, ⟨_, lb, rfl, enters_of Try.func62 (by kernel_rfl) rfl, hseq⟩, Below.step (Below.step bel1 bel2) bel3⟩
theorem resolvents_any (va vb : Value) (a b : List Int) (w : World) (ha : Rd w va a) (hb : Rd w vb b) :
    Calls Try.prog 22 #[va, vb] w fun e w' => ∃ f, e = .returned f ∧ GivesV w.heap.size (resAll a b) f w' ∧ Below w.heap.size w w' :=
  (resolvents_anyW va vb a b w ha hb).mono fun e w' ⟨f, he, hg, hb⟩ => ⟨f, he, hg.toV, hb⟩

end Go.Proofs.Ythplkllphpnaoab
