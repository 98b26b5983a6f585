/-
  depotlaw02.turn and turned, walked.
  KEEP: set on app at below new trans refl start ap kept rd rds mono lt add none own nil put len pos setF setV putL putR other neV same_any row
-/
import Derived.Test.YtbnnoajpmmbpbaaLrO
import Derived.Test.YtbnnoajpmmbpbaaCopy
import Derived.Deep.RegionHeld
set_option linter.unusedSimpArgs false
set_option linter.unusedVariables false
namespace Go.Proofs.Ytbnnoajpmmbpbaa
open Go Go.RowKit Go.Shelf

def cutN (n : Nat) : Value → Value
  | .slice a m k => .slice a (m - n) k
  | v => v
def ngv (x : Int) : Int := wrap64 (-x)
/-- a list that is turned, with what stands behind it -/
def tnC (T : List Int) (x : Cls) : Cls := (x.1, (x.2.take (x.2.length - T.length)).map ngv ++ T)
/-- rows whose lists can be turned -/
structure Tn (B : Nat) (W : World) (a : Option Addr) (css : List (List Int)) (T : List Int) (L : List Cls) : Prop where
  cell : ∀ k (hk : k < L.length), ∃ gw, a = some ⟨gw, 0, none⟩ ∧ gw < W.heap.size ∧ W.cell? ⟨gw, k, none⟩ = some (cutN T.length (L[k]).1) ∧ ∀ x ∈ L, some gw ≠ x.1.ownBlock
  own : ∀ x ∈ L, Own B W x.1 x.2
  ap : ApartC L
  ls : L.map Prod.snd = css.map (· ++ T)
def TnB (L : List Cls) (q : Nat) : Prop := ∃ x ∈ L, some q = x.1.ownBlock
/-- as far as turn has come -/
structure Tk (B : Nat) (w W : World) (css : List (List Int)) (T : List Int) (L : List Cls) (k : Nat) : Prop where
  f : Fr (TnB L) w W
  o : ∀ (i : Nat) (hi : i < L.length), Own B W (L[i]).1 ((if i < k then (css.getD i []).map ngv else css.getD i []) ++ T)
theorem Tn.at {B : Nat} {W : World} {a : Option Addr} {css : List (List Int)} {T : List Int} {L : List Cls} (h : Tn B W a css T L) {i : Nat} (hi : i < L.length) : (L[i]).2 = css.getD i [] ++ T ∧ i < css.length := by
  have h1 := congrArg List.length h.ls
  simp only [List.length_map] at h1
  have h2 := congrArg (fun l => l[i]?) h.ls
  simp only [List.getElem?_map, List.getElem?_eq_getElem hi, List.getElem?_eq_getElem (show i < css.length by omega), Option.map_some, Option.some.injEq] at h2
  refine ⟨?_, by omega⟩
  rw [h2, List.getD_eq_getElem?_getD, List.getElem?_eq_getElem (by omega)]
  rfl
theorem Tk.start {B : Nat} {w : World} {a : Option Addr} {css : List (List Int)} {T : List Int} {L : List Cls} (h : Tn B w a css T L) : Tk B w w css T L 0 :=
  ⟨Fr.refl _ _, fun i hi => by
    have := h.own _ (List.getElem_mem hi)
    rw [(h.at hi).1] at this
    simpa using this⟩
theorem Tk.step {B : Nat} {w W W' : World} {css : List (List Int)} {T : List Int} {L : List Cls} {k : Nat} (h : Tk B w W css T L k) (hap : ApartC L) (hk : k < L.length) (hz : Own B W' (L[k]).1 ((css.getD k []).map ngv ++ T)) (hg : W.grownBy W' (L[k]).1.ownBlock) : Tk B w W' css T L (k + 1) := by
  refine ⟨h.f.grown hg fun g e => ⟨L[k], List.getElem_mem hk, e.symm⟩, fun i hi => ?_⟩
  by_cases e : i = k
  · subst e; simpa using hz
  · have h2 := h.o i hi
    have e2 : (i < k + 1) = (i < k) := by apply propext; omega
    simp only [e2]
    refine World.ownsRow.kept h2 hg ?_
    have hp := List.pairwise_iff_getElem.1 hap
    rcases Nat.lt_or_gt_of_ne e with h3 | h3
    · exact hp i k hi hk h3
    · rcases hp k i hk hi h3 with h4 | h4
      · cases hv : (L[i]).1.ownBlock with
        | none => exact .inl rfl
        | some g => exact .inr (by rw [h4]; simp)
      · exact .inr (Ne.symm h4)
theorem tn_ls {css : List (List Int)} {T : List Int} {L : List Cls} (h : L.map Prod.snd = css.map (· ++ T)) : (L.map (tnC T)).map Prod.snd = (css.map (·.map ngv)).map (· ++ T) := by
  have e : (L.map (tnC T)).map Prod.snd = (L.map Prod.snd).map (fun y => (y.take (y.length - T.length)).map ngv ++ T) := by simp [tnC, Function.comp_def]
  rw [e, h]
  simp [Function.comp_def]
theorem tn_ap {T : List Int} {L : List Cls} (h : ApartC L) : ApartC (L.map (tnC T)) := List.pairwise_map.2 h
theorem Tk.done {B : Nat} {w W : World} {a : Option Addr} {css : List (List Int)} {T : List Int} {L : List Cls} (h : Tk B w W css T L L.length) (hn : Tn B w a css T L) : Tn B W a (css.map (·.map ngv)) T (L.map (tnC T)) := by
  refine ⟨fun k hk => ?_, fun x hx => ?_, tn_ap hn.ap, tn_ls hn.ls⟩
  · have hk' : k < L.length := by simpa using hk
    obtain ⟨gw, h1, h2, h3, h4⟩ := hn.cell k hk'
    refine ⟨gw, h1, Nat.lt_of_lt_of_le h2 h.f.size, ?_, fun x hx => ?_⟩
    · have := h.f.block gw h2 (fun ⟨x, hx, e⟩ => h4 x hx e)
      have e2 : W.cell? ⟨gw, k, none⟩ = w.cell? ⟨gw, k, none⟩ := by unfold World.cell?; rw [this]
      rw [e2, h3]
      simp [tnC]
    · obtain ⟨y, hy, rfl⟩ := List.mem_map.1 hx
      exact h4 y hy
  · obtain ⟨y, hy, rfl⟩ := List.mem_map.1 hx
    obtain ⟨i, hi, rfl⟩ := List.getElem_of_mem hy
    have h1 := h.o i hi
    rw [if_pos hi] at h1
    have h2 := (hn.at hi).1
    show Own B W (L[i]).1 (((L[i]).2.take ((L[i]).2.length - T.length)).map ngv ++ T)
    rw [h2]
    simpa using h1
/-- a list of which the first j are turned -/
def tnJ (z : List Int) (j : Nat) : List Int := (z.take j).map ngv ++ z.drop j
theorem tnJ_len (z : List Int) (j : Nat) : (tnJ z j).length = z.length := by simp [tnJ]; omega
theorem tnJ_at {z : List Int} {j : Nat} (T : List Int) (h : j < z.length) : (tnJ z j ++ T)[j]? = some (z.getD j 0) := by
  rw [List.getElem?_append_left (by rw [tnJ_len]; exact h)]
  unfold tnJ
  rw [List.getElem?_append_right (by simp; omega)]
  simp [show min j z.length = j by omega, List.getD_eq_getElem?_getD, h]
theorem tnJ_set {z : List Int} {j : Nat} (T : List Int) (h : j < z.length) : (tnJ z j ++ T).set j (ngv (z.getD j 0)) = tnJ z (j + 1) ++ T := by
  rw [List.set_append_left _ _ (by rw [tnJ_len]; exact h)]
  congr 1
  unfold tnJ
  rw [List.set_append_right _ _ (by simp; omega)]
  rw [List.take_succ_eq_append_getElem h, List.map_append, List.append_assoc]
  congr 1
  rw [List.drop_eq_getElem_cons h, show j - ((z.take j).map ngv).length = 0 by simp; omega, List.set_cons_zero]
  simp only [List.getD_eq_getElem?_getD, List.getElem?_eq_getElem h, Option.getD_some, List.map_cons, List.map_nil, List.singleton_append]
theorem tnJ_all (z : List Int) : tnJ z z.length = z.map ngv := by simp [tnJ]
theorem cell_kept {W W' : World} {row : Option Nat} {g : Nat} {j : Nat} {x : Value} (hg : W.grownBy W' row) (hne : some g ≠ row) (hc : W.cell? ⟨g, j, none⟩ = some x) : W'.cell? ⟨g, j, none⟩ = some x := by
  have h1 := World.block_lt_of_cell? W _ hc
  have h2 := hg.block g h1 hne
  rw [← hc]; unfold World.cell?; rw [h2]
set_option maxRecDepth 100000 in
set_option maxHeartbeats 6400000 in
theorem turn_any (B : Nat) (a : Option Addr) (c : Nat) (css : List (List Int)) (T : List Int) (L : List Cls) (w : World) (h : Tn B w a css T L) (hc : css.length ≤ c) (hc2 : css.length ≤ 2147483648) (hz : ∀ z ∈ css, z.length * 8 ≤ 140737488355328) :
    Calls Try.prog 11 #[.slice a css.length c] w fun e w' => (∃ v, e = .returned v) ∧ Fr (TnB L) w w' ∧ Tn B w' a (css.map (·.map ngv)) T (L.map (tnC T)) := by
  have HN : Hid (Tn B w a css T L ∧ (∀ z ∈ css, z.length * 8 ≤ 140737488355328)) := ⟨h, hz⟩
  have HLn : Hid (L.length = css.length) := by show L.length = css.length; have h5 := congrArg List.length h.ls; simpa using h5
  clear h hz
  go_enter Try.func11, Try.ntmps11
  go_wp2
  go_loopg [2] css.length (fun q i' wr => ∃ k : Nat, k + q = css.length ∧ i' = .int .i64 k ∧ Tk B w wr css T L k)
  case atStart => exact ⟨0, by omega, rfl, Tk.start HN.out.1⟩
  case round =>
    obtain ⟨k, hk, rfl, htk⟩ := hrel
    have HK : Hid (k + gk = css.length) := hk
    have HT : Hid (Tk B w wr css T L k) := htk
    clear hk htk
    by_cases hlt : k < css.length
    · have hkL : k < L.length := by rw [HLn.out]; exact hlt
      obtain ⟨gw, rfl, hgw, kc0, hng⟩ := HN.out.1.cell k hkL
      have hbl := HT.out.f.block gw hgw (fun ⟨x, hx, e⟩ => hng x hx e)
      have kc : wr.cell? ⟨gw, k, none⟩ = some (cutN T.length (L[k]).1) := by rw [← kc0]; unfold World.cell?; rw [hbl]
      have ho := HT.out.o k hkL
      rw [if_neg (by omega)] at ho
      obtain ⟨au, cu, eu⟩ := own_form ho
      have hgu : some gw ≠ (L[k]).1.ownBlock := hng _ (List.getElem_mem hkL)
      have HSt : Hid (∀ W', Own B W' (L[k]).1 ((css.getD k []).map ngv ++ T) → wr.grownBy W' (L[k]).1.ownBlock → Tk B w W' css T L (k + 1)) := fun W' h1 h2 => HT.out.step HN.out.1.ap hkL h1 h2
      have HZ : Hid ((css.getD k []).length * 8 ≤ 140737488355328) := HN.out.2 _ (getD_inR hlt)
      have HLT : Hid (k < css.length) := hlt
      rw [eu] at kc ho hgu
      simp only [eu] at HSt
      clear hbl kc0 hng eu hgw HT
      generalize css.getD k [] = z at *
      rw [show cutN T.length (.slice au (z ++ T).length cu) = .slice au z.length cu by simp [cutN]] at kc
      rw [List.length_append] at ho hgu HSt
      have HO : Hid (Own B wr (.slice au (z.length + T.length) cu) (tnJ z 0 ++ T)) := (by simpa [tnJ] using ho : Own B wr (.slice au (z.length + T.length) cu) (tnJ z 0 ++ T))
      have HGu : Hid (some gw ≠ (Value.slice au (z.length + T.length) cu).ownBlock) := hgu
      have HKc : Hid (wr.cell? ⟨gw, k, none⟩ = some (.slice au z.length cu)) := kc
      have hzl := HZ.out
      clear ho hgu kc
      go_wp2
      generalize wr = wk at *
      generalize gk = G at *
      go_loopg [3] z.length (fun q j' wr => ∃ j : Nat, j + q = z.length ∧ j' = .int .i64 j ∧ Own B wr (.slice au (z.length + T.length) cu) (tnJ z j ++ T) ∧ wk.grownBy wr (Value.slice au (z.length + T.length) cu).ownBlock)
      case atStart => exact ⟨0, by omega, rfl, HO.out, ⟨rfl, rfl, rfl, Nat.le_refl _, fun _ _ _ => rfl⟩⟩
      case round =>
        obtain ⟨j, hj, rfl, ho, hg⟩ := hrel
        have HJ : Hid (j + gk = z.length) := hj
        have kc := cell_kept hg HGu.out HKc.out
        by_cases hjz : j < z.length
        · obtain ⟨g, cap, e, hcap, -, -⟩ := row_some ho (by rw [List.length_append, tnJ_len]; omega)
          rw [List.length_append, tnJ_len] at e hcap
          injection e with e1 _ e3
          subst e1; subst e3
          have hcu : z.length ≤ cu := by omega
          have ho' : wr.ownsRow B 3 1 (.slice (some ⟨g, 0, none⟩) (z.length + T.length) cu) (z.length + T.length) ((tnJ z j ++ T).map (Value.int .i64)) := by
            have := ho
            unfold Own at this
            rw [show (tnJ z j ++ T).length = z.length + T.length by rw [List.length_append, tnJ_len]] at this
            exact this
          have q1 := row_cell ho' (j := j) (x := .int .i64 (z.getD j 0)) (by rw [List.getElem?_map, tnJ_at T hjz]; rfl)
          have q2 := row_fz ho' j
          have SX : Hid (Own B (wr.setCell ⟨g, j, none⟩ (.int .i64 (wrap64 (-(z.getD j 0))))) (.slice (some ⟨g, 0, none⟩) (z.length + T.length) cu) (tnJ z (j + 1) ++ T)) := by
            rw [← tnJ_set T hjz]
            exact own_store ho (by rw [List.length_append, tnJ_len])
          have SG : Hid (wk.grownBy (wr.setCell ⟨g, j, none⟩ (.int .i64 (wrap64 (-(z.getD j 0))))) (some g)) := hg.trans (grown_setCell wr ⟨g, j, none⟩ _)
          have HJT : Hid (j < z.length) := hjz
          clear ho ho' hg hj HKc HO HGu HSt
          generalize z.getD j 0 = x at *
          go_wp2
          go_region
          all_goals
            go_wp2
            go_roundg (gk - 1)
            case measure => have := HJ.out; have := HJT.out; omega
            case rel => exact ⟨j + 1, by have := HJ.out; have := HJT.out; omega, by go_num, SX.out, ⟨SG.out.os, SG.out.tape, SG.out.output, SG.out.size, SG.out.block⟩⟩
        · obtain rfl : j = z.length := by omega
          have HK2 : Hid (Tk B w wr css T L (k + 1)) := HSt.out wr (by rw [← tnJ_all]; exact ho) hg
          clear ho hg hj
          go_wp2
          go_roundg (G - 1)
          case measure => have := HK.out; have := HLT.out; omega
          case rel => exact ⟨k + 1, by have := HK.out; have := HLT.out; omega, by go_num, HK2.out⟩
    · obtain rfl : k = css.length := by have := HK.out; omega
      have HF : Hid (Fr (TnB L) w wr ∧ Tn B wr a (css.map (·.map ngv)) T (L.map (tnC T))) := ⟨HT.out.f, by have h5 := HT.out; rw [← HLn.out] at h5; exact h5.done HN.out.1⟩
      go_wp2
      go_end0
      exact ⟨⟨_, rfl⟩, HF.out⟩
end Go.Proofs.Ytbnnoajpmmbpbaa
