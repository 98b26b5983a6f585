/-
  depotlaw02.turn and turned, walked.
  KEEP: set on app at below new trans refl start ap kept rd rds mono lt add none own nil put len pos setF setV putL putR other neV same_any row
-/
import Derived.Test.YtlbpdiemanhfkaaDoorLrO
import Derived.Test.YtlbpdiemanhfkaaDoorCopy
import Derived.Deep.RegionHeld
set_option linter.unusedSimpArgs false
set_option linter.unusedVariables false
namespace Go.Proofs.YtlbpdiemanhfkaaDoor
open Go Go.RowKit Go.Shelf

def cutN (n : Nat) : Value → Value
  | .slice a m k => .slice a (m - n) k
  | v => v
def ngv (x : Int) : Int := wrap64 (-x)
/-- a list that is turned, with what stands behind it -/
def tnC (T : List Int) (x : Cls) : Cls := (x.1, (x.2.take (x.2.length - T.length)).map ngv ++ T)
/-- rows whose lists can be turned -/
structure Tn (B : Nat) (W : World) (a : Option Addr) (css : List (List Int)) (T : List Int) (L : List Cls) : Prop where
  cell : ∀ k (hk : k < L.length), ∃ gw, a = some ⟨gw, 0, none⟩ ∧ gw < W.heap.size ∧ W.cell? ⟨gw, k, none⟩ = some (cutN T.length (L[k]).1) ∧ ∀ x ∈ L, some gw ≠ x.1.ownBlock
  own : ∀ x ∈ L, Own B W x.1 x.2
  ap : ApartC L
  ls : L.map Prod.snd = css.map (· ++ T)
def TnB (L : List Cls) (q : Nat) : Prop := ∃ x ∈ L, some q = x.1.ownBlock
/-- as far as turn has come -/
structure TkR (B : Nat) (w W : World) (css : List (List Int)) (T : List Int) (L : List Cls) (k : Nat) : Prop where
  f : Fr (TnB L) w W
  o : ∀ (i : Nat) (hi : i < L.length), Own B W (L[i]).1 ((if i < k then (css.getD i []).map ngv else css.getD i []) ++ T)
theorem Tn.at {B : Nat} {W : World} {a : Option Addr} {css : List (List Int)} {T : List Int} {L : List Cls} (h : Tn B W a css T L) {i : Nat} (hi : i < L.length) : (L[i]).2 = css.getD i [] ++ T ∧ i < css.length := by
  have h1 := congrArg List.length h.ls
  simp only [List.length_map] at h1
  have h2 := congrArg (fun l => l[i]?) h.ls
  simp only [List.getElem?_map, List.getElem?_eq_getElem hi, List.getElem?_eq_getElem (show i < css.length by omega), Option.map_some, Option.some.injEq] at h2
  refine ⟨?_, by omega⟩
  rw [h2, List.getD_eq_getElem?_getD, List.getElem?_eq_getElem (by omega)]
  rfl
theorem TkR.start {B : Nat} {w : World} {a : Option Addr} {css : List (List Int)} {T : List Int} {L : List Cls} (h : Tn B w a css T L) : TkR B w w css T L 0 :=
  ⟨Fr.refl _ _, fun i hi => by
    have := h.own _ (List.getElem_mem hi)
    rw [(h.at hi).1] at this
    simpa using this⟩
theorem TkR.step {B : Nat} {w W W' : World} {css : List (List Int)} {T : List Int} {L : List Cls} {k : Nat} (h : TkR B w W css T L k) (hap : ApartC L) (hk : k < L.length) (hz : Own B W' (L[k]).1 ((css.getD k []).map ngv ++ T)) (hg : W.grownBy W' (L[k]).1.ownBlock) : TkR B w W' css T L (k + 1) := by
  refine ⟨h.f.grown hg fun g e => ⟨L[k], List.getElem_mem hk, e.symm⟩, fun i hi => ?_⟩
  by_cases e : i = k
  · subst e; simpa using hz
  · have h2 := h.o i hi
    have e2 : (i < k + 1) = (i < k) := by apply propext; omega
    simp only [e2]
    refine World.ownsRow.kept h2 hg ?_
    have hp := List.pairwise_iff_getElem.1 hap
    rcases Nat.lt_or_gt_of_ne e with h3 | h3
    · exact hp i k hi hk h3
    · rcases hp k i hk hi h3 with h4 | h4
      · cases hv : (L[i]).1.ownBlock with
        | none => exact .inl rfl
        | some g => exact .inr (by rw [h4]; simp)
      · exact .inr (Ne.symm h4)
theorem tn_ls {css : List (List Int)} {T : List Int} {L : List Cls} (h : L.map Prod.snd = css.map (· ++ T)) : (L.map (tnC T)).map Prod.snd = (css.map (·.map ngv)).map (· ++ T) := by
  have e : (L.map (tnC T)).map Prod.snd = (L.map Prod.snd).map (fun y => (y.take (y.length - T.length)).map ngv ++ T) := by simp [tnC, Function.comp_def]
  rw [e, h]
  simp [Function.comp_def]
theorem tn_ap {T : List Int} {L : List Cls} (h : ApartC L) : ApartC (L.map (tnC T)) := List.pairwise_map.2 h
theorem TkR.done {B : Nat} {w W : World} {a : Option Addr} {css : List (List Int)} {T : List Int} {L : List Cls} (h : TkR B w W css T L L.length) (hn : Tn B w a css T L) : Tn B W a (css.map (·.map ngv)) T (L.map (tnC T)) := by
  refine ⟨fun k hk => ?_, fun x hx => ?_, tn_ap hn.ap, tn_ls hn.ls⟩
  · have hk' : k < L.length := by simpa using hk
    obtain ⟨gw, h1, h2, h3, h4⟩ := hn.cell k hk'
    refine ⟨gw, h1, Nat.lt_of_lt_of_le h2 h.f.size, ?_, fun x hx => ?_⟩
    · have := h.f.block gw h2 (fun ⟨x, hx, e⟩ => h4 x hx e)
      have e2 : W.cell? ⟨gw, k, none⟩ = w.cell? ⟨gw, k, none⟩ := by unfold World.cell?; rw [this]
      rw [e2, h3]
      simp [tnC]
    · obtain ⟨y, hy, rfl⟩ := List.mem_map.1 hx
      exact h4 y hy
  · obtain ⟨y, hy, rfl⟩ := List.mem_map.1 hx
    obtain ⟨i, hi, rfl⟩ := List.getElem_of_mem hy
    have h1 := h.o i hi
    rw [if_pos hi] at h1
    have h2 := (hn.at hi).1
    show Own B W (L[i]).1 (((L[i]).2.take ((L[i]).2.length - T.length)).map ngv ++ T)
    rw [h2]
    simpa using h1
/-- a list of which the first j are turned -/
def tnJ (z : List Int) (j : Nat) : List Int := (z.take j).map ngv ++ z.drop j
theorem tnJ_len (z : List Int) (j : Nat) : (tnJ z j).length = z.length := by simp [tnJ]; omega
theorem tnJ_at {z : List Int} {j : Nat} (T : List Int) (h : j < z.length) : (tnJ z j ++ T)[j]? = some (z.getD j 0) := by
  rw [List.getElem?_append_left (by rw [tnJ_len]; exact h)]
  unfold tnJ
  rw [List.getElem?_append_right (by simp; omega)]
  simp [show min j z.length = j by omega, List.getD_eq_getElem?_getD, h]
theorem tnJ_set {z : List Int} {j : Nat} (T : List Int) (h : j < z.length) : (tnJ z j ++ T).set j (ngv (z.getD j 0)) = tnJ z (j + 1) ++ T := by
  rw [List.set_append_left _ _ (by rw [tnJ_len]; exact h)]
  congr 1
  unfold tnJ
  rw [List.set_append_right _ _ (by simp; omega)]
  rw [List.take_succ_eq_append_getElem h, List.map_append, List.append_assoc]
  congr 1
  rw [List.drop_eq_getElem_cons h, show j - ((z.take j).map ngv).length = 0 by simp; omega, List.set_cons_zero]
  simp only [List.getD_eq_getElem?_getD, List.getElem?_eq_getElem h, Option.getD_some, List.map_cons, List.map_nil, List.singleton_append]
theorem tnJ_all (z : List Int) : tnJ z z.length = z.map ngv := by simp [tnJ]
theorem cell_kept {W W' : World} {row : Option Nat} {g : Nat} {j : Nat} {x : Value} (hg : W.grownBy W' row) (hne : some g ≠ row) (hc : W.cell? ⟨g, j, none⟩ = some x) : W'.cell? ⟨g, j, none⟩ = some x := by
  have h1 := World.block_lt_of_cell? W _ hc
  have h2 := hg.block g h1 hne
  rw [← hc]; unfold World.cell?; rw [h2]
end Go.Proofs.YtlbpdiemanhfkaaDoor
