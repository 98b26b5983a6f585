/-
  cnf.Models, walked: a sequence of the models that satisfy.
-/
import Derived.Test.YtfklgfdkpmfdnaaDoorIterM
import Derived.Test.YtfklgfdkpmfdnaaDoorTidyW
import Derived.Test.YtfklgfdkpmfdnaaDoorCopy
import Derived.Handy
import Derived.Laws.EntriesVeiled
set_option linter.unusedSimpArgs false
set_option linter.unusedVariables false
namespace Go.Proofs.YtfklgfdkpmfdnaaDoor
open Go Go.RowKit Go.Shelf Go.Joins

/-- the models that Models gives -/
def modF (n : Int) (css : List (List Int)) : List (List Bool) := if frm n css && decide (n ≤ 16) then mods n.toNat css else []
theorem mods_tidy (n : Nat) (css : List (List Int)) (h : frm n css = true) : mods n (tdK css css.length) = mods n css := by
  unfold mods modsTo
  refine List.filter_congr ?_
  intro m hm
  obtain ⟨j, _, rfl⟩ := List.mem_map.1 hm
  refine sat_tidy (fun z hz => ?_)
  simp only [frm, Bool.and_eq_true] at h
  rw [bt_len]
  exact List.all_eq_true.1 h.2 z hz
/-- a sequence of models: what its contract says, in whatever world that keeps the blocks from lo on -/
def GivesB (lo : Nat) (R : List (List Bool)) (f : Value) (w : World) : Prop :=
  ∃ gf lb, f = .func (.func gf) #[] lb ∧ (∀ args w, (callFunc gf args).run Tryd.prog w = .ok (.enter gf args) w) ∧
    ∀ k, 1 ≤ k → ∀ N, SeqN Fence.wide k Tryd.prog gf lb (fun x : Itb => #[x.1]) (VB R) (Mid lo w.heap.size) (fun xs => xs.map Prod.snd = R) (fun pre => pre.map Prod.snd <+: R) N w
theorem ownsRow_within {base lo hi : Nat} {e size : Nat} {w w' : World} {v : Value} {n : Nat} {xs : List Value} (h : w.ownsRow base e size v n xs) (hm : Mid lo hi w w') (hl : lo ≤ base) (hh : w.heap.size ≤ hi) : w'.ownsRow base e size v n xs := by
  refine ⟨h.1, ?_⟩
  rcases h.2 with hn | ⟨g, cap, cur, hv, hb', hg, r⟩
  · exact .inl hn
  · exact .inr ⟨g, cap, cur, hv, hb', by rw [hm.block g (Nat.le_trans hl hb') (Nat.lt_of_lt_of_le (Array.getElem?_eq_some_iff.1 hg).1 hh)]; exact hg, r⟩
theorem OwnF.within {base lo hi : Nat} {w w' : World} {s : Value} {css : List (List Int)} (h : OwnF base w s css) (hm : Mid lo hi w w') (hl : lo ≤ base) (hh : w.heap.size ≤ hi) : OwnF base w' s css := by
  obtain ⟨L, hL, rfl⟩ := h
  exact ⟨L, ⟨ownsRow_within hL.row hm hl hh, fun x hx => ownsRow_within (hL.own x hx) hm hl hh, hL.ap⟩, rfl⟩

set_option maxHeartbeats 1600000 in
theorem none_in (k l : Nat) (W : World) : CallsIn Fence.wide k Tryd.prog 32 #[.func (.yield l) #[] #[]] W fun e W' => (∃ v, e = .returned v) ∧ W' = W := by
  refine callsIn_of_wp Tryd.func32 rfl trivial ?_ rfl
  simp only [Tryd.ntmps32, List.size_toArray, List.length_cons, List.length_nil, Nat.reduceAdd, Nat.reduceSub, Array.replicate_succ, Array.replicate_zero, List.push_toArray, List.append_toArray, List.nil_append, List.cons_append]
  gi_wp2
  go_end0
  exact ⟨⟨_, rfl⟩, rfl⟩
theorem gives_none (lo : Nat) (w : World) : GivesB lo [] (.func (.func 32) #[] #[]) w :=
  ⟨_, #[], rfl, enters_of Tryd.func32 (by kernel_rfl) rfl, fun k hk N l J Jx W hN hW hJ hJx hJ2 hY h0 => (none_in k l W).mono fun e W' ⟨hv, hw⟩ => ⟨hv, .inl ⟨[], rfl, by rw [hw]; exact h0⟩⟩⟩

set_option maxRecDepth 100000 in
set_option maxHeartbeats 1600000 in
theorem models_any (n : Int) (s : Value) (css : List (List Int)) (w : World) (hr : Rds w s css) (ht : Tens w) :
    Calls Tryd.prog 7 #[.agg #[.int .i64 n, s]] w fun e w' => ∃ f, e = .returned f ∧ GivesB w.heap.size (modF n css) f w' ∧ Below w.heap.size w w' := by
  have hl := hr.len
  have HX : Hid (Bx w n s css (w.alloc (.cells #[.int .i64 n, s] 24))) := Bx.new hr _
  have HT : Hid (Tens w) := ht
  have HB2 : Hid (Bx2 (w.alloc (.cells #[.int .i64 n, s] 24)) w.heap.size 24 (.int .i64 n) s) := Bx2.new _ _ _ _
  have H8 : Hid (∀ z ∈ css, z.length * 8 ≤ 140737488351232) := rds_each hr
  obtain ⟨a, c, rfl, hc, hm, _⟩ := hr.form
  clear hr ht
  cases hf : frm n css
  · have HR : Hid (modF n css = []) := by unfold modF Hid; rw [hf]; rfl
    go_enter Tryd.func7, Tryd.ntmps7
    go_wp2_with fail
    refine (cnfFormed_any n _ css _ HX.out.rd).mono ?_
    rw [hf]
    rintro e w1 ⟨rfl, bel1⟩
    have HX1 : Hid (Bx w n (.slice a css.length c) css w1) := HX.out.on bel1
    go_wp2
    go_ret
    exact ⟨_, rfl, by rw [HR.out]; exact gives_none _ _, HX1.out.bel⟩
  have HF : Hid (frm n css = true) := hf
  cases h16 : decide (n ≤ 16)
  · have HR : Hid (modF n css = []) := by unfold modF Hid; rw [h16]; simp
    have hgt : decide (16 < n) = true := by simp at h16 ⊢; omega
    go_enter Tryd.func7, Tryd.ntmps7
    go_wp2_with fail
    refine (cnfFormed_any n _ css _ HX.out.rd).mono ?_
    rw [hf]
    rintro e w1 ⟨rfl, bel1⟩
    have HX1 : Hid (Bx w n (.slice a css.length c) css w1) := HX.out.on bel1
    have c0 := HX1.out.c0
    go_wp2
    go_ret
    exact ⟨_, rfl, by rw [HR.out]; exact gives_none _ _, HX1.out.bel⟩
  have hgt : decide (16 < n) = false := by simp at h16 ⊢; omega
  have hn16 : n ≤ 16 := of_decide_eq_true h16
  have HN : Hid (n ≤ 16) := hn16
  go_enter Tryd.func7, Tryd.ntmps7
  go_wp2_with fail
  refine (cnfFormed_any n _ css _ HX.out.rd).mono ?_
  rw [hf]
  rintro e w1 ⟨rfl, bel1⟩
  have HX1 : Hid (Bx w n (.slice a css.length c) css w1) := HX.out.on bel1
  have c0 := HX1.out.c0
  have c1 := HX1.out.c1
  have b1 := HB2.out.below bel1
  clear HX hf h16 hn16 HB2
  go_wp2_with fail
  refine (cnfTidy_any n _ css w1 HX1.out.rd (HT.out.below HX1.out.bel)).mono ?_
  rw [show tdF n css = (n, tdK css css.length, 0) by unfold tdF; rw [HF.out]; rfl]
  rintro e w2 ⟨s', rfl, own2, bel2⟩
  obtain ⟨a2, c2, rfl⟩ := ownf_form own2
  have b2 := b1.below bel2
  have f0 := b2.f0
  have f1 := b2.f1
  have g0 := b2.c0
  have g1 := b2.c1
  have b3 := (b2.set0 (.int .i64 n)).set1 (.slice a2 (tdK css css.length).length c2)
  have own3 := (own2.set b2 (by decide) (by decide) 0 (.int .i64 n)).set (b2.set0 (.int .i64 n)) (by decide) (by decide) 1 (.slice a2 (tdK css css.length).length c2)
  have hs1 := b1.lt
  have HBel : Hid (Below w.heap.size w ((w2.setCell ⟨w.heap.size, 0, none⟩ (.int .i64 n)).setCell ⟨w.heap.size, 1, none⟩ (.slice a2 (tdK css css.length).length c2))) := below_set (below_set ((HX1.out.bel).trans (bel2.mono HX1.out.bel.size)) (Nat.le_refl _) _ _) (Nat.le_refl _) _ _
  have hln := tdK_len css css.length
  have H3 : Hid (OwnF w1.heap.size ((w2.setCell ⟨w.heap.size, 0, none⟩ (.int .i64 n)).setCell ⟨w.heap.size, 1, none⟩ (.slice a2 (tdK css css.length).length c2)) (.slice a2 (tdK css css.length).length c2) (tdK css css.length)) := own3
  have HB3 : Hid (Bx2 ((w2.setCell ⟨w.heap.size, 0, none⟩ (.int .i64 n)).setCell ⟨w.heap.size, 1, none⟩ (.slice a2 (tdK css css.length).length c2)) w.heap.size 24 (.int .i64 n) (.slice a2 (tdK css css.length).length c2)) := b3
  clear own2 own3 b3 b2 b1 c0 c1 bel2
  go_wp2
  go_ret
  generalize (w2.setCell ⟨w.heap.size, 0, none⟩ (.int .i64 n)).setCell ⟨w.heap.size, 1, none⟩ (.slice a2 (tdK css css.length).length c2) = w3 at *
  refine ⟨_, rfl, ?_, HBel.out⟩
  have hnr : 0 ≤ n := by have := HF.out; simp only [frm, Bool.and_eq_true, decide_eq_true_eq] at this; exact this.1.1
  have hn16 := HN.out
  obtain ⟨nn, rfl⟩ : ∃ nn : Nat, n = nn := ⟨n.toNat, by omega⟩
  have eR : modF nn css = mods nn (tdK css css.length) := by
    unfold modF; rw [HF.out, decide_eq_true hn16, mods_tidy nn css HF.out]; rfl
  rw [eR]
  refine ⟨_, _, rfl, enters_of Tryd.func34 (by kernel_rfl) rfl, fun k hk N l J Jx W hN hW hJ hJx hJ2 hY h0 => ?_⟩
  have hB := HB3.out
  have hlt := hB.lt
  have d0 := (hW.cell (p := ⟨w.heap.size, 0, none⟩) (Nat.le_refl _) hlt).trans hB.c0
  have d1 := (hW.cell (p := ⟨w.heap.size, 1, none⟩) (Nat.le_refl _) hlt).trans hB.c1
  exact iterM_in k hk l w.heap.size w.heap.size w3.heap.size nn N (by omega) _ (tdK css css.length) (frm_tidy HF.out) W hN J Jx hJ hJ2 hY (by rw [← hN]; exact hW.size) hlt (Nat.le_refl _) d0 d1
    (fun W' hm => (H3.out.within (hW.trans hm) (by omega) (Nat.le_refl _)).rds (by omega) (fun z hz => by obtain ⟨c', rfl⟩ := tdK_tid css _ z hz; have := tid_len c'; omega)) h0

end Go.Proofs.YtfklgfdkpmfdnaaDoor
