/-
  joined: UnR OnM FwM FwA FwB FwC FwD FwE FwU OnH
-/
import Derived.Test.YtjajafeaengnjaaGreatDoorJUnT
import Derived.Test.YtjajafeaengnjaaGreatDoorKAppK
import Derived.WalkMore
import Derived.Deep.LoopGhost
import Derived.Test.YtjajafeaengnjaaGreatDoorJUnC
import Derived.Deep.RegionLaw
import Derived.Deep.RegionHeld
import Derived.Deep.CutRange
set_option linter.unusedSimpArgs false
set_option linter.unusedVariables false
namespace Go.Proofs.YtjajafeaengnjaaGreatDoor
open Go Go.RowKit

/-- how much there is to do -/
def mes (css : List (List Int)) (L : List Int) : Nat := (css.flatten.filter fun x => decide (x ∉ L)).length
def qn (N : Nat) (Q : Nat → Bool) : Nat := ((List.range N).filter Q).length
def mea (css : List (List Int)) (L : List Int) (Q : Nat → Bool) : Nat := mes css L * (css.length + 1) + qn css.length Q
theorem qn_le (N : Nat) (Q : Nat → Bool) : qn N Q ≤ N := Nat.le_trans (List.length_filter_le _ _) (by simp)
theorem filter_lt {α : Type} {p q : α → Bool} : ∀ {l : List α} {x : α}, (∀ y ∈ l, q y = true → p y = true) → x ∈ l → p x = true → q x = false → (l.filter q).length < (l.filter p).length
  | [], x, _, h, _, _ => by simp at h
  | y :: r, x, hpq, hx, hp, hq => by
    have hle : (r.filter q).length ≤ (r.filter p).length := by
      clear hx
      induction r with
      | nil => simp
      | cons z r ih =>
        have ih := ih fun y hy => hpq y (by rcases List.mem_cons.1 hy with e | e
                                            · exact List.mem_cons.2 (.inl e)
                                            · exact List.mem_cons.2 (.inr (List.mem_cons_of_mem _ e)))
        have hz := hpq z (by simp)
        rw [List.filter_cons, List.filter_cons]
        cases h1 : q z
        · cases h2 : p z
          · simpa using ih
          · simp; omega
        · rw [hz h1]; simp; omega
    rcases List.mem_cons.1 hx with e | e
    · subst e
      rw [List.filter_cons, List.filter_cons, if_pos hp, if_neg (by rw [hq]; simp)]
      simp; omega
    · have ih := filter_lt (fun y hy => hpq y (List.mem_cons_of_mem _ hy)) e hp hq
      have hy := hpq y (by simp)
      rw [List.filter_cons, List.filter_cons]
      cases h1 : q y
      · cases h2 : p y
        · simpa using ih
        · simp; omega
      · rw [hy h1]; simp; omega
theorem mea_skip {css : List (List Int)} {L : List Int} {Q : Nat → Bool} {k : Nat} (hk : k < css.length) (hq : Q k = true) : mea css L (qdel Q k) < mea css L Q := by
  have : qn css.length (qdel Q k) < qn css.length Q := filter_lt (x := k) (fun y _ hy => (qdel_at.1 hy).1) (List.mem_range.2 hk) hq (by simp [qdel])
  unfold mea; omega
theorem mea_put {css : List (List Int)} {L : List Int} {Q Q' : Nat → Bool} {k : Nat} {l : Int} (hk : k < css.length) (hl : l ∈ css.getD k []) (hL : l ∉ L) : mea css (L ++ [l]) Q' < mea css L Q := by
  have h1 : mes css (L ++ [l]) < mes css L := filter_lt (x := l) (fun y _ hy => by
    rw [decide_eq_true_eq] at hy ⊢
    exact fun h2 => hy (List.mem_append.2 (.inl h2))) (List.mem_flatten.2 ⟨_, getD_in hk, hl⟩) (decide_eq_true hL) (by simp)
  have h2 := qn_le css.length Q'
  unfold mea
  have h3 : (mes css (L ++ [l]) + 1) * (css.length + 1) ≤ mes css L * (css.length + 1) := Nat.mul_le_mul_right _ h1
  rw [Nat.succ_mul] at h3
  omega
theorem Pth.new {css : List (List Int)} : ∀ {L : List Int} {cs : List (Int × Nat)}, Pth css L cs → (cs.map Prod.fst).Nodup ∧ (∀ x ∈ cs.map Prod.fst, x ∉ L) ∧ (∀ x ∈ cs.map Prod.fst, ∃ c ∈ css, x ∈ c)
  | L, [], _ => ⟨by simp, by simp, by simp⟩
  | L, c :: cs, h => by
    obtain ⟨h1, h2, h3⟩ := Pth.new h.2.2
    obtain ⟨u1, u2, u3, u4⟩ := h.1.unit h.2.1
    rw [List.map_cons]
    refine ⟨List.nodup_cons.2 ⟨fun h4 => h2 _ h4 (by simp), h1⟩, fun x hx => ?_, fun x hx => ?_⟩
    · rcases List.mem_cons.1 hx with e | e
      · subst e; exact u3
      · exact fun h5 => h2 x e (List.mem_append.2 (.inl h5))
    · rcases List.mem_cons.1 hx with e | e
      · subst e; exact ⟨_, getD_in h.1.lt, u1⟩
      · exact h3 x e
theorem lits_few {zs : List Int} (hn : zs.Nodup) (hf : ∀ x ∈ zs, fmd x = true) : zs.length ≤ 2097152 := by
  have : zs.length = (tid zs).length := nodup_len6 hn ((tid_rising zs).imp (fun h => by intro e; subst e; omega)) fun x => by
    rw [mem_tid]; exact ⟨fun h => ⟨h, hf x h⟩, fun h => h.1⟩
  rw [this]; exact tid_len zs
theorem Pth.few {css : List (List Int)} {L : List Int} {cs : List (Int × Nat)} {n : Nat} (h : Pth css L cs) (hf : Fit css n) : cs.length ≤ 2097152 := by
  obtain ⟨h1, h2, h3⟩ := h.new
  have := lits_few h1 fun x hx => by obtain ⟨c, hc, hxc⟩ := h3 x hx; exact (hf.lit c hc x hxc).1
  simpa using this
theorem Pth.snocL {css : List (List Int)} {L : List Int} {cs : List (Int × Nat)} {k : Nat} {l : Int} : L ++ (cs ++ [(l, k)]).map Prod.fst = (L ++ cs.map Prod.fst) ++ [l] := by simp
theorem twc_snoc (cs : List (Int × Nat)) (l : Int) (k : Nat) : twc (cs ++ [(l, k)]) = twc cs ++ [.int .i64 l, .int .i64 (k : Int)] := by simp [twc]
/-- what run answers -/
structure Ran (w0 w : World) (b : Nat) (s : Sz) (n : Nat) (css : List (List Int)) (L : List Int) (cs0 : List (Int × Nat)) (W : World) (cs : List (Int × Nat)) (Q : Nat → Bool) (u : Value) : Prop where
  pth : Pth css L cs
  cw : Cw w0 W b { s with S := u } n css (L ++ cs.map Prod.fst) Q (cs0 ++ cs)
  mo : Mo w (s.own b) W (({ s with S := u } : Sz).own b)
theorem Ran.below {w0 w : World} {b : Nat} {s : Sz} {n : Nat} {css : List (List Int)} {L : List Int} {cs0 : List (Int × Nat)} {W W' : World} {cs : List (Int × Nat)} {Q : Nat → Bool} {u : Value} (h : Ran w0 w b s n css L cs0 W cs Q u) (hb : Below W.heap.size W W') : Ran w0 w b s n css L cs0 W' cs Q u := ⟨h.pth, h.cw.below hb, h.mo.trans (Mo.below hb)⟩
/-- a clause, as far as it was looked at -/
def Sc (L c : List Int) (j : Nat) (o : Int) : Prop := (∀ m ∈ c.take j, m ∉ L) ∧ ((o = 0 ∧ ∀ m ∈ c.take j, -m ∈ L) ∨ (o ≠ 0 ∧ o ∈ c.take j ∧ -o ∉ L))
theorem Sc.start (L c : List Int) : Sc L c 0 0 := ⟨by simp, .inl ⟨rfl, by simp⟩⟩
theorem mem_take_more {c : List Int} {j : Nat} (hj : j < c.length) {x : Int} : x ∈ c.take (j + 1) ↔ x ∈ c.take j ∨ x = c.getD j 0 := by
  rw [List.take_succ_eq_append_getElem hj, List.mem_append, List.mem_singleton, List.getD_eq_getElem?_getD, List.getElem?_eq_getElem hj]; rfl
theorem Sc.no {L c : List Int} {j : Nat} {o : Int} (h : Sc L c j o) (hj : j < c.length) (h1 : c.getD j 0 ∉ L) (h2 : -(c.getD j 0) ∈ L) : Sc L c (j + 1) o := by
  refine ⟨fun m hm => ?_, ?_⟩
  · rcases (mem_take_more hj).1 hm with a | a
    · exact h.1 m a
    · rw [a]; exact h1
  · rcases h.2 with ⟨a, b⟩ | ⟨a, b, d⟩
    · refine .inl ⟨a, fun m hm => ?_⟩
      rcases (mem_take_more hj).1 hm with e | e
      · exact b m e
      · rw [e]; exact h2
    · exact .inr ⟨a, (mem_take_more hj).2 (.inl b), d⟩
theorem Sc.yes {L c : List Int} {j : Nat} {o : Int} (h : Sc L c j o) (hj : j < c.length) (h0 : c.getD j 0 ≠ 0) (h1 : c.getD j 0 ∉ L) (h2 : -(c.getD j 0) ∉ L) : Sc L c (j + 1) (c.getD j 0) := by
  refine ⟨fun m hm => ?_, .inr ⟨h0, (mem_take_more hj).2 (.inr rfl), h2⟩⟩
  rcases (mem_take_more hj).1 hm with a | a
  · exact h.1 m a
  · rw [a]; exact h1

theorem Tryz.infoCause : (Tryz.prog.info? 143).map (fun i => (i.zero, i.size, i.bytes)) = some (some (.agg #[.int .i64 0, .int .i64 0]), 2, 16) := by kernel_rfl

set_option maxHeartbeats 4000000 in
theorem uRun_any (w0 : World) (b : Nat) (s : Sz) (n : Nat) (css : List (List Int)) (L : List Int) (Q : Nat → Bool) (cs0 : List (Int × Nat)) (w : World) (h : Cw w0 w b s n css L Q cs0) (hr : Rds w0 s.C css) (hc : Con L) (hi : Inv css L Q) (hD : Deb w0) (h0 : cs0.length ≤ 2097152) :
    Calls Tryz.prog 114 #[.pointer (some ⟨b, 0, none⟩)] w fun e w' => ∃ e0 cs Q' u, e = .returned (.int .i64 e0) ∧ Clo css L cs e0 ∧ Ran w0 w b s n css L cs0 w' cs Q' u ∧ (e0 = -1 → ∀ k, Q' k = false) := by
  have HR : Hid (Rds w0 s.C css) := hr
  have HC : Hid (Con L ∧ Deb w0 ∧ cs0.length ≤ 2097152 ∧ Fit css n) := ⟨hc, hD, h0, h.fit⟩
  have H0 : Hid (Ran w0 w b s n css L cs0 w [] Q s.S ∧ Inv css L Q) := ⟨⟨trivial, by simpa using h, Mo.refl _ _⟩, hi⟩
  obtain ⟨ac, cc, eC, l1, l2, hAT⟩ := hr.form
  have HEC : Hid (s.C = .slice ac css.length cc) := eC
  have hN := h.fit.num
  clear h hr hc hi hD h0 eC
  go_enter Tryz.func114, Tryz.ntmps114
  go_wp2
  go_step3
  go_wp2
  go_step3
  go_wp2
  go_loopg [] (mea css L Q) (fun g wr => ∃ cs Q' u, g = mea css (L ++ cs.map Prod.fst) Q' ∧ Ran w0 w b s n css L cs0 wr cs Q' u ∧ Inv css (L ++ cs.map Prod.fst) Q')
  case atStart => exact ⟨[], Q, s.S, by simp, H0.out.1, by simpa using H0.out.2⟩
  case round =>
    obtain ⟨cs, Q', u, hg, hran, hinv⟩ := hrel
    have HInv : Hid (Inv css (L ++ cs.map Prod.fst) Q') := hinv
    clear hinv
    have HG : Hid (gk = mea css (L ++ cs.map Prod.fst) Q') := hg
    have HRan : Hid (Ran w0 w b s n css L cs0 wr cs Q' u) := hran
    clear hg
    obtain ⟨F, P, hz, -⟩ := hran.cw.z
    have b5 := hz.c5
    have hwq := hz.w
    have hbel := hran.cw.bel
    have HD : Hid (Deb wr) := HC.out.2.1.below hbel
    clear hran hz
    by_cases hem : emp Q' = true
    · have HF : Hid (∀ k, Q' k = false) := (emp_iff Q').1 hem
      go_wp2_with fail
      refine (wNone_any _ _ _ _ _ wr hwq).mono ?_
      rintro e w1 ⟨rfl, hw1⟩
      obtain rfl : wr = w1 := hw1.symm
      rw [hem]
      clear hw1
      have HFin : Hid (∃ e0 cs Q' u, (-1 : Int) = e0 ∧ Clo css L cs e0 ∧ Ran w0 w b s n css L cs0 wr cs Q' u ∧ (e0 = -1 → ∀ k, Q' k = false)) := ⟨-1, cs, Q', u, rfl, ⟨HRan.out.pth, .inl ⟨rfl, HInv.out.calm HF.out⟩⟩, HRan.out, fun _ => HF.out⟩
      go_wp2
      rw [Exit.noGoto_ret]
      go_ret
      obtain ⟨e0, cs, Q', u, rfl, r⟩ := HFin.out
      exact ⟨_, cs, Q', u, rfl, r⟩
    · have hem : emp Q' = false := by simpa using hem
      obtain ⟨k, hk, hle⟩ := has_least (fun h2 => by have := (emp_iff Q').2 h2; rw [hem] at this; cases this)
      have HK : Hid (Q' k = true ∧ ∀ j, Q' j = true → k ≤ j) := ⟨hk, hle⟩
      have hkN : k < css.length := (HInv.out.sub k hk).1
      go_wp2_with fail
      refine (wNone_any _ _ _ _ _ wr hwq).mono ?_
      rintro e w1 ⟨rfl, hw1⟩
      obtain rfl : wr = w1 := hw1.symm
      rw [hem]
      clear hw1
      go_wp2_with fail
      refine (wTake_any _ _ _ _ _ k wr hwq hk hle (by omega) HD.out).mono ?_
      rintro e w1 ⟨rfl, hw1, hm1⟩
      have HS1 : Hid (Cw w0 w1 b { s with S := u } n css (L ++ cs.map Prod.fst) (qdel Q' k) (cs0 ++ cs) ∧ Mo w (s.own b) w1 (({ s with S := u } : Sz).own b)) := by
        obtain ⟨F, P, hz, hp⟩ := HRan.out.cw.z
        obtain ⟨z1, m1⟩ := hz.putW hw1 hm1
        exact ⟨⟨Mo.bel HRan.out.cw.bel (fun k hk => (HRan.out.cw.lt k hk).1) m1, HRan.out.cw.fit, F, P, z1, hp⟩, HRan.out.mo.trans m1⟩
      clear hw1 hm1 hwq b5 HD hbel hk hle hem
      obtain ⟨F, P, hz, -⟩ := HS1.out.1.z
      have b0 := hz.c0
      clear hz
      have b0' : w1.cell? ⟨b, 0, none⟩ = some (.slice ac css.length cc) := b0.trans (congrArg some HEC.out)
      clear b0
      obtain ⟨bC, oC, uC, rfl, kC, hrd⟩ := hAT k hkN
      have kC1 : w1.cell? ⟨bC, oC + k, none⟩ = some uC := (HS1.out.1.bel.cell (p := ⟨bC, oC + k, none⟩) (World.block_lt_of_cell? w0 _ kC)).trans kC
      have hcm := getD_in hkN
      have hclen : (css.getD k []).length ≤ 1073741824 := HC.out.2.2.2.len _ hcm
      have HLit : Hid (∀ m ∈ css.getD k [], fmd m = true ∧ idx m < n) := HC.out.2.2.2.lit _ hcm
      have HKN : Hid (k < css.length) := hkN
      obtain ⟨ax, cx, rfl, x1, x2, hcx⟩ := hrd.form
      have HCX : Hid (∀ (W : World) (j : Nat), Below w0.heap.size w0 W → j < (css.getD k []).length → ∃ bb off, ax = some ⟨bb, off, none⟩ ∧ W.cell? ⟨bb, off + j, none⟩ = some (.int .i64 ((css.getD k []).getD j 0))) := fun W j hW hj => by
        obtain ⟨bb, off, e, hc⟩ := hcx j hj
        exact ⟨bb, off, e, (hW.cell (p := ⟨bb, off + j, none⟩) (World.block_lt_of_cell? w0 _ hc)).trans hc⟩
      have HLL : Hid (L ++ cs.map Prod.fst = L ++ cs.map Prod.fst) := rfl
      clear hrd hcx hcm kC
      generalize hcc : css.getD k [] = c at *
      have HCC : Hid (css.getD k [] = c) := hcc
      clear hcc HLL
      go_wp2
      go_loopg [4, 26] c.length (fun g o' j' wx => ∃ (j : Nat) (o : Int), j + g = c.length ∧ o' = .int .i64 o ∧ j' = .int .i64 j ∧ Sc (L ++ cs.map Prod.fst) c j o ∧ Cw w0 wx b { s with S := u } n css (L ++ cs.map Prod.fst) (qdel Q' k) (cs0 ++ cs) ∧ Mo w (s.own b) wx (({ s with S := u } : Sz).own b))
      case atStart => exact ⟨0, 0, by omega, rfl, rfl, Sc.start _ _, HS1.out.1, HS1.out.2⟩
      case round =>
        obtain ⟨j, o, hj, rfl, rfl, hsc, hcw, hmo⟩ := hrel
        have HJ : Hid (j + gk = c.length) := hj
        have HSc : Hid (Sc (L ++ cs.map Prod.fst) c j o) := hsc
        have HCw : Hid (Cw w0 wr b { s with S := u } n css (L ++ cs.map Prod.fst) (qdel Q' k) (cs0 ++ cs) ∧ Mo w (s.own b) wr (({ s with S := u } : Sz).own b)) := ⟨hcw, hmo⟩
        clear hj hsc hcw hmo b0' kC1
        by_cases hlt : j < c.length
        · obtain ⟨bb, off, rfl, kc⟩ := HCX.out wr j HCw.out.1.bel hlt
          have hm := HLit.out (c.getD j 0) (getD_mem' hlt)
          have HMem : Hid (c.getD j 0 ∈ c) := getD_mem' hlt
          generalize hme : c.getD j 0 = m at *
          have HME : Hid (c.getD j 0 = m) := hme
          have HLT : Hid (j < c.length) := hlt
          have hmr := fmd_range hm.1
          have hwn : IntKind.i64.wrap (-m) = -m := by rw [IntKind.wrap_i64]; omega
          have HM : Hid (fmd m = true ∧ idx m < n) := hm
          have HMn : Hid (fmd (-m) = true ∧ idx (-m) < n) := ⟨fmd_neg hm.1, idx_neg_lt hm.1 HC.out.2.2.2.ev hm.2⟩
          clear hm hme
          go_wp2_with fail
          refine (uHolds_any w0 b { s with S := u } n css (L ++ cs.map Prod.fst) (qdel Q' k) (cs0 ++ cs) m wr HCw.out.1 HM.out.1 HM.out.2).mono ?_
          rintro e w2 ⟨rfl, bel2⟩
          have HC2 : Hid (Cw w0 w2 b { s with S := u } n css (L ++ cs.map Prod.fst) (qdel Q' k) (cs0 ++ cs) ∧ Mo w (s.own b) w2 (({ s with S := u } : Sz).own b)) := ⟨HCw.out.1.below bel2, HCw.out.2.trans (Mo.below bel2)⟩
          clear bel2 kc
          by_cases hin : m ∈ L ++ cs.map Prod.fst
          · have hd : decide (m ∈ L ++ cs.map Prod.fst) = true := decide_eq_true hin
            rw [hd]
            have HT : Hid (∃ m ∈ css.getD k [], m ∈ L ++ cs.map Prod.fst) := by rw [HCC.out]; exact ⟨_, HMem.out, hin⟩
            clear hd hin
            go_wp2
            go_roundg (mea css (L ++ cs.map Prod.fst) (qdel Q' k))
            case measure => rw [HG.out]; exact mea_skip HKN.out HK.out.1
            case rel => exact ⟨cs, qdel Q' k, u, rfl, ⟨HRan.out.pth, HC2.out.1, HC2.out.2⟩, HInv.out.skip HT.out⟩
          · have hd : decide (m ∈ L ++ cs.map Prod.fst) = false := decide_eq_false hin
            rw [hd]
            have HIn : Hid (m ∉ L ++ cs.map Prod.fst) := hin
            clear hd hin
            go_wp2_with fail
            refine (uHolds_any w0 b { s with S := u } n css (L ++ cs.map Prod.fst) (qdel Q' k) (cs0 ++ cs) (-m) w2 HC2.out.1 HMn.out.1 HMn.out.2).mono ?_
            rintro e w3 ⟨rfl, bel3⟩
            have HC3 : Hid (Cw w0 w3 b { s with S := u } n css (L ++ cs.map Prod.fst) (qdel Q' k) (cs0 ++ cs) ∧ Mo w (s.own b) w3 (({ s with S := u } : Sz).own b)) := ⟨HC2.out.1.below bel3, HC2.out.2.trans (Mo.below bel3)⟩
            clear bel3
            by_cases hin : -m ∈ L ++ cs.map Prod.fst
            · have hd : decide (-m ∈ L ++ cs.map Prod.fst) = true := decide_eq_true hin
              rw [hd]
              have HS : Hid (Sc (L ++ cs.map Prod.fst) c (j + 1) o) := HSc.out.no HLT.out (by rw [HME.out]; exact HIn.out) (by rw [HME.out]; exact hin)
              clear hd hin
              go_wp2
              go_roundg (gk - 1)
              case measure => have := HJ.out; have := HLT.out; omega
              case rel => exact ⟨j + 1, o, by have := HJ.out; have := HLT.out; omega, rfl, by go_num, HS.out, HC3.out.1, HC3.out.2⟩
            · have hd : decide (-m ∈ L ++ cs.map Prod.fst) = false := decide_eq_false hin
              rw [hd]
              have HS : Hid (Sc (L ++ cs.map Prod.fst) c (j + 1) m) := by
                have := HSc.out.yes HLT.out (by rw [HME.out]; exact hmr.1) (by rw [HME.out]; exact HIn.out) (by rw [HME.out]; exact hin)
                rw [HME.out] at this
                exact this
              clear hd hin
              go_wp2
              go_roundg (gk - 1)
              case measure => have := HJ.out; have := HLT.out; omega
              case rel => exact ⟨j + 1, m, by have := HJ.out; have := HLT.out; omega, rfl, by go_num, HS.out, HC3.out.1, HC3.out.2⟩
        · have hje : j = c.length := by have := HJ.out; omega
          have hsc := HSc.out
          unfold Sc at hsc
          rw [hje, List.take_length] at hsc
          obtain ⟨hno, ho⟩ := hsc
          clear hje
          rcases ho with ⟨rfl, hall⟩ | ⟨ho0, hoc, hon⟩
          · have HA : Hid (At css (L ++ cs.map Prod.fst) k 0) := HInv.out.fls HK.out.1 HK.out.2 (by rw [HCC.out]; exact hno) (by rw [HCC.out]; exact hall)
            clear hno hall
            have HFin : Hid (∃ e0 cs Q' u, (k : Int) = e0 ∧ Clo css L cs e0 ∧ Ran w0 w b s n css L cs0 wr cs Q' u ∧ (e0 = -1 → ∀ k, Q' k = false)) := ⟨k, cs, qdel Q' k, u, rfl, ⟨HRan.out.pth, .inr ⟨k, rfl, HA.out⟩⟩, ⟨HRan.out.pth, HCw.out.1, HCw.out.2⟩, fun h2 => by omega⟩
            go_wp2
            rw [Exit.noGoto_ret]
            go_ret
            obtain ⟨e0, cs, Q', u, rfl, r⟩ := HFin.out
            exact ⟨_, cs, Q', u, rfl, r⟩
          · have HA : Hid (At css (L ++ cs.map Prod.fst) k o) := HInv.out.unit HK.out.1 HK.out.2 (by rw [HCC.out]; exact hno) (by rw [HCC.out]; exact hoc) hon
            have HO : Hid (o ∈ css.getD k [] ∧ -o ∉ L ++ cs.map Prod.fst ∧ o ∉ L ++ cs.map Prod.fst ∧ fmd o = true) := ⟨by rw [HCC.out]; exact hoc, hon, hno o hoc, (HLit.out o hoc).1⟩
            have ho1 : (o == 0) = false := by simpa using ho0
            have HO0 : Hid (o ≠ 0) := ho0
            clear hno hoc hon
            go_wp2_with fail
            refine (uPut_any w0 b _ n css _ _ _ o wr HCw.out.1 HO.out.2.2.2).mono ?_
            rintro e w2 ⟨rfl, Q2, hc2, hn2, hm2⟩
            have HC2 : Hid (Cw w0 w2 b { s with S := u } n css (L ++ cs.map Prod.fst ++ [o]) Q2 (cs0 ++ cs) ∧ Mo w (s.own b) w2 (({ s with S := u } : Sz).own b) ∧ Inv css (L ++ cs.map Prod.fst ++ [o]) Q2) := ⟨hc2, HCw.out.2.trans hm2, HInv.out.took HO.out.1 hn2⟩
            clear hc2 hn2 hm2
            obtain ⟨F, P, hz, hp⟩ := HC2.out.1.z
            have b6 := hz.c6
            have z6 := hz.fz 6
            have HZ : Hid (Cz w0.heap.size w2 b { s with S := u } n css.length (inLs n (L ++ cs.map Prod.fst ++ [o])) (lefts css (L ++ cs.map Prod.fst ++ [o])) F P Q2 (cs0 ++ cs) ∧ Pls css n F P ∧ P.length ≤ 2147483648) := ⟨hz, hp⟩
            obtain ⟨aS, cS, eS⟩ := row_form' hz.c
            have eS : u = .slice aS (cs0 ++ cs).length cS := eS
            have HES : Hid (u = .slice aS (cs0 ++ cs).length cS) := eS
            have b6 : w2.cell? ⟨b, 6, none⟩ = some u := b6
            have hlen : (cs0 ++ cs).length ≤ 4194304 := by rw [List.length_append]; have h1 := HC.out.2.2.1; have h2 := HRan.out.pth.few HC.out.2.2.2; omega
            have HLen : Hid ((cs0 ++ cs).length ≤ 4194304) := hlen
            clear hz hp eS hlen
            obtain ⟨iC, hiC, hC⟩ : ∃ i, Tryz.prog.info? 143 = some i ∧ (i.zero, i.size, i.bytes) = (some (.agg #[.int .i64 0, .int .i64 0]), 2, 16) := by
              have := Tryz.infoCause
              cases hh : Tryz.prog.info? 143 with
              | none => rw [hh] at this; simp at this
              | some i => rw [hh] at this; exact ⟨i, rfl, by simpa using this⟩
            have hC0 : iC.zero = some (.agg #[.int .i64 0, .int .i64 0]) := congrArg (fun p => p.1) hC
            have hC1 : iC.size = 2 := congrArg (fun p => p.2.1) hC
            have hC2 : iC.bytes = 16 := congrArg (fun p => p.2.2) hC
            have HI : Hid (Tryz.prog.info? 143 = some iC ∧ iC.zero = some (.agg #[.int .i64 0, .int .i64 0]) ∧ iC.size = 2 ∧ iC.bytes = 16) := ⟨hiC, hC0, hC1, hC2⟩
            clear hiC hC hC0 hC1 hC2
            subst eS
            have HB2 : Hid (∀ j x, #[Value.int .i64 o, Value.int .i64 (k : Int)].toList[j]? = some x → (w2.alloc (.cells #[.int .i64 o, .int .i64 (k : Int)] 143)).cell? ((⟨w2.heap.size, 0, none⟩ : Addr).add j) = some x) := fun j x hx => by
              rw [Addr.add_lit]
              have hh := World.alloc_heap_new w2 (.cells #[.int .i64 o, .int .i64 (k : Int)] 143)
              show (match (w2.alloc (.cells #[.int .i64 o, .int .i64 (k : Int)] 143)).heap[w2.heap.size]? with | some (Obj.cells c elem frozen) => c[0 + j]? | x => none) = _
              rw [hh]
              simpa using hx
            have HZ2 : Hid (Cz w0.heap.size (w2.alloc (.cells #[.int .i64 o, .int .i64 (k : Int)] 143)) b { s with S := .slice aS (cs0 ++ cs).length cS } n css.length (inLs n (L ++ cs.map Prod.fst ++ [o])) (lefts css (L ++ cs.map Prod.fst ++ [o])) F P Q2 (cs0 ++ cs) ∧ Mo w (s.own b) (w2.alloc (.cells #[.int .i64 o, .int .i64 (k : Int)] 143)) (({ s with S := .slice aS (cs0 ++ cs).length cS } : Sz).own b) ∧ w0.heap.size ≤ (w2.alloc (.cells #[.int .i64 o, .int .i64 (k : Int)] 143)).heap.size) := ⟨HZ.out.1.below (below_box _ _), HC2.out.2.1.trans (Mo.below (below_box _ _)), Nat.le_trans HC2.out.1.bel.size (below_box _ _).size⟩
            have hl63 : (cs0 ++ cs).length + 1 ≤ maxLen := by have := HLen.out; unfold maxLen; omega
            have hl48 : ((cs0 ++ cs).length + 1) * 16 ≤ 140737488355328 := by have := HLen.out; omega
            have HRow : Hid ((w2.alloc (.cells #[.int .i64 o, .int .i64 (k : Int)] 143)).ownsRow w0.heap.size 143 2 (.slice aS (cs0 ++ cs).length cS) (cs0 ++ cs).length (twc (cs0 ++ cs))) := HZ2.out.1.c
            have HPut : Hid (∀ v8 w8, w8.ownsRow w0.heap.size 143 2 v8 ((cs0 ++ cs).length + 1) (twc (cs0 ++ cs) ++ [.int .i64 o, .int .i64 (k : Int)]) → Ap (w2.alloc (.cells #[.int .i64 o, .int .i64 (k : Int)] 143)) (.slice aS (cs0 ++ cs).length cS) w8 v8 →
                (∃ a8 c8, v8 = .slice a8 ((cs0 ++ cs).length + 1) c8) ∧ w8.cell? ⟨b, 6, none⟩ = some (.slice aS (cs0 ++ cs).length cS) ∧ w8.frozen? ⟨b, 6, none⟩ = false ∧
                Cw w0 (w8.setCell ⟨b, 6, none⟩ v8) b { s with S := v8 } n css (L ++ cs.map Prod.fst ++ [o]) Q2 (cs0 ++ (cs ++ [(o, k)])) ∧ Mo w (s.own b) (w8.setCell ⟨b, 6, none⟩ v8) (({ s with S := v8 } : Sz).own b)) := fun v8 w8 own8 ap8 => by
              have own9 : w8.ownsRow w0.heap.size 143 2 v8 (cs0 ++ (cs ++ [(o, k)])).length (twc (cs0 ++ (cs ++ [(o, k)]))) := by
                have e9 : (cs0 ++ (cs ++ [(o, k)])).length = (cs0 ++ cs).length + 1 := by simp only [List.length_append, List.length_cons, List.length_nil]; omega
                rw [e9, ← List.append_assoc, twc_snoc]
                exact own8
              obtain ⟨z9, m9⟩ := HZ2.out.1.putS ap8.grown ap8.new own9
              have ht : ∀ x, (Value.slice aS (cs0 ++ cs).length cS).ownBlock = some x → Ty _ x 143 := fun x e => row_ty HRow.out e.symm
              have hbx := box_other HZ2.out.1.box ap8.grown ht (by decide)
              refine ⟨row_form' own8, by simp [World.cell?, hbx], by simp [World.frozen?, hbx], ⟨Mo.bel HC2.out.1.bel (fun k hk => (HC2.out.1.lt k hk).1) ((Mo.below (below_box _ _)).trans m9), HC2.out.1.fit, F, P, z9, HZ.out.2⟩, HZ2.out.2.1.trans m9⟩
            have HBas : Hid (w0.heap.size ≤ (w2.alloc (.cells #[.int .i64 o, .int .i64 (k : Int)] 143)).heap.size) := HZ2.out.2.2
            clear HZ HZ2 HES HLen
            generalize hM : (cs0 ++ cs).length = M at *
            clear hM
            generalize htw : twc (cs0 ++ cs) = tw at *
            clear htw
            go_wp2_with (at_builtin; refine wpList_append_apk rfl _ _ 121 rfl w0.heap.size 143 iC (.agg #[.int .i64 0, .int .i64 0]) 2 16 Tryz.underlying121 HI.out.1 HI.out.2.1 HI.out.2.2.1 HI.out.2.2.2 rfl (by decide) (.slice aS M cS) M tw rfl HRow.out ⟨w2.heap.size, 0, none⟩ 1 1 [.int .i64 o, .int .i64 (k : Int)] rfl rfl HB2.out (by simp [Value.oneCell']) hl63 hl48 HBas.out ?_; intro v8 w8 own8 ap8; have HF8 : Hid (_ ∧ _) := (HPut.out v8 w8 own8 ap8).2.2.2; obtain ⟨⟨a8, c8, hv8⟩, q1, q2, -⟩ := HPut.out v8 w8 own8 ap8; subst hv8; clear own8 ap8)
            go_roundg (mea css (L ++ cs.map Prod.fst ++ [o]) Q2)
            case measure => rw [HG.out]; exact mea_put HKN.out HO.out.1 HO.out.2.2.1
            case rel => exact ⟨cs ++ [(o, k)], Q2, _, by rw [Pth.snocL (css := css)], ⟨HRan.out.pth.snoc HA.out HO0.out, by rw [Pth.snocL (css := css)]; exact HF8.out.1, HF8.out.2⟩, by rw [Pth.snocL (css := css)]; exact HC2.out.2.2⟩
end Go.Proofs.YtjajafeaengnjaaGreatDoor
set_option linter.unusedSimpArgs false
set_option linter.unusedVariables false
namespace Go.Proofs.YtjajafeaengnjaaGreatDoor
open Go Go.RowKit

structure Sy where
  C : Value
  I : Value
  E : Value
  F : Value
  P : Value
  M : Value
  R : Value
def Sy.own (s : Sy) (b k : Nat) : Prop := k = b ∨ some k = s.I.ownBlock ∨ some k = s.E.ownBlock ∨ some k = s.F.ownBlock ∨ some k = s.P.ownBlock ∨ some k = s.M.ownBlock ∨ some k = s.R.ownBlock
def i64s (xs : List Int) : List Value := xs.map (Value.int .i64)
def nats (xs : List Nat) : List Int := xs.map fun (x : Nat) => (x : Int)
/-- as it lies -/
structure Oz (B : Nat) (W : World) (b : Nat) (s : Sy) (n N : Nat) (A : List Bool) (E : List Int) (F : List Nat) (P : List (Nat × Nat)) (M : List Int) (R : List Nat) : Prop where
  box : W.heap[b]? = some (.cells #[s.C, s.I, s.E, s.F, s.P, s.M, s.R] 147 (0, 0))
  hb : B ≤ b
  i : W.ownsRow B 4 1 s.I n (A.map Value.bool)
  e : W.ownsRow B 21 1 s.E N (i32s E)
  f : W.ownsRow B 21 1 s.F n (i32s (nats F))
  p : W.ownsRow B 158 2 s.P P.length (twp P)
  m : W.ownsRow B 3 1 s.M M.length (i64s M)
  r : W.ownsRow B 21 1 s.R R.length (i32s (nats R))
  ef : ∀ k, some k = s.E.ownBlock → some k ≠ s.F.ownBlock
  er : ∀ k, some k = s.E.ownBlock → some k ≠ s.R.ownBlock
  fr : ∀ k, some k = s.F.ownBlock → some k ≠ s.R.ownBlock
section
variable {B : Nat} {W W' : World} {b : Nat} {s : Sy} {n N : Nat} {A : List Bool} {E : List Int} {F : List Nat} {P : List (Nat × Nat)} {M : List Int} {R : List Nat}
theorem Oz.ty (h : Oz B W b s n N A E F P M R) : Ty W b 147 := ⟨_, _, h.box⟩
theorem Oz.blt (h : Oz B W b s n N A E F P M R) : b < W.heap.size := (Array.getElem?_eq_some_iff.1 h.box).1
theorem Oz.lt (h : Oz B W b s n N A E F P M R) : ∀ k, s.own b k → B ≤ k ∧ k < W.heap.size := by
  rintro k (rfl | hk | hk | hk | hk | hk | hk)
  · exact ⟨h.hb, h.blt⟩
  · exact h.i.lt k hk.symm
  · exact h.e.lt k hk.symm
  · exact h.f.lt k hk.symm
  · exact h.p.lt k hk.symm
  · exact h.m.lt k hk.symm
  · exact h.r.lt k hk.symm
theorem Oz.kept (h : Oz B W b s n N A E F P M R) (hk : ∀ k, s.own b k → W'.heap[k]? = W.heap[k]?) : Oz B W' b s n N A E F P M R :=
  ⟨(hk b (.inl rfl)).trans h.box, h.hb, row_kept h.i fun k e => hk k (.inr (.inl e)), row_kept h.e fun k e => hk k (.inr (.inr (.inl e))), row_kept h.f fun k e => hk k (.inr (.inr (.inr (.inl e)))), row_kept h.p fun k e => hk k (.inr (.inr (.inr (.inr (.inl e))))), row_kept h.m fun k e => hk k (.inr (.inr (.inr (.inr (.inr (.inl e)))))), row_kept h.r fun k e => hk k (.inr (.inr (.inr (.inr (.inr (.inr e)))))), h.ef, h.er, h.fr⟩
theorem Oz.below (h : Oz B W b s n N A E F P M R) (hb : Below W.heap.size W W') : Oz B W' b s n N A E F P M R := h.kept fun k hk => hb.block k (h.lt k hk).2
theorem Oz.cell (h : Oz B W b s n N A E F P M R) (j : Nat) (x : Value) (hx : #[s.C, s.I, s.E, s.F, s.P, s.M, s.R][j]? = some x) : W.cell? ⟨b, j, none⟩ = some x := by simp [World.cell?, h.box]; simpa using hx
theorem Oz.c0 (h : Oz B W b s n N A E F P M R) : W.cell? ⟨b, 0, none⟩ = some s.C := h.cell 0 _ rfl
theorem Oz.c1 (h : Oz B W b s n N A E F P M R) : W.cell? ⟨b, 1, none⟩ = some s.I := h.cell 1 _ rfl
theorem Oz.c2 (h : Oz B W b s n N A E F P M R) : W.cell? ⟨b, 2, none⟩ = some s.E := h.cell 2 _ rfl
theorem Oz.c3 (h : Oz B W b s n N A E F P M R) : W.cell? ⟨b, 3, none⟩ = some s.F := h.cell 3 _ rfl
theorem Oz.c4 (h : Oz B W b s n N A E F P M R) : W.cell? ⟨b, 4, none⟩ = some s.P := h.cell 4 _ rfl
theorem Oz.c5 (h : Oz B W b s n N A E F P M R) : W.cell? ⟨b, 5, none⟩ = some s.M := h.cell 5 _ rfl
theorem Oz.c6 (h : Oz B W b s n N A E F P M R) : W.cell? ⟨b, 6, none⟩ = some s.R := h.cell 6 _ rfl
theorem Oz.fz (h : Oz B W b s n N A E F P M R) (j : Nat) : W.frozen? ⟨b, j, none⟩ = false := by simp [World.frozen?, h.box]
/-- a row of another block stays -/
theorem row_off {row : Option Nat} {e sz m : Nat} {v : Value} {xs : List Value} (h : W.ownsRow B e sz v m xs) (hg : W.grownBy W' row) (hne : ∀ k, some k = v.ownBlock → some k ≠ row) : W'.ownsRow B e sz v m xs :=
  row_kept h fun k hk => hg.block k (h.lt k hk.symm).2 fun e1 => hne k hk e1
theorem Oz.setI (h : Oz B W b s n N A E F P M R) {g cap k : Nat} (hv : s.I = .slice (some ⟨g, 0, none⟩) n cap) (hk : k < n) (z : Bool) : Oz B (W.setCell ⟨g, k, none⟩ (.bool z)) b s n N (A.set k z) E F P M R ∧ Mo W (s.own b) (W.setCell ⟨g, k, none⟩ (.bool z)) (s.own b) := by
  have hg := grown_set W ⟨g, k, none⟩ (.bool z)
  have ht : ∀ x, some g = some x → Ty W x 4 := fun x e => row_ty h.i (by rw [hv, ← e]; rfl)
  refine ⟨⟨box_other h.box hg ht (by decide), h.hb, ?_, row_other h.e hg ht (by decide), row_other h.f hg ht (by decide), row_other h.p hg ht (by decide), row_other h.m hg ht (by decide), row_other h.r hg ht (by decide), h.ef, h.er, h.fr⟩, Mo.grown hg fun x e => .inr (.inl (by rw [hv, ← e]; rfl))⟩
  have h1 := h.i
  rw [hv] at h1 ⊢
  rw [List.map_set]
  exact own_cell h1 (by omega) _
theorem Oz.setE (h : Oz B W b s n N A E F P M R) {g cap k : Nat} (hv : s.E = .slice (some ⟨g, 0, none⟩) N cap) (hk : k < N) (z : Int) : Oz B (W.setCell ⟨g, k, none⟩ (.int .i32 z)) b s n N A (E.set k z) F P M R ∧ Mo W (s.own b) (W.setCell ⟨g, k, none⟩ (.int .i32 z)) (s.own b) := by
  have hg := grown_set W ⟨g, k, none⟩ (.int .i32 z)
  have ht : ∀ x, some g = some x → Ty W x 21 := fun x e => row_ty h.e (by rw [hv, ← e]; rfl)
  have hgE : some g = s.E.ownBlock := by rw [hv]; rfl
  refine ⟨⟨box_other h.box hg ht (by decide), h.hb, row_other h.i hg ht (by decide), ?_, row_off h.f hg (fun q hq e1 => h.ef q (by rw [e1]; exact hgE) hq), row_other h.p hg ht (by decide), row_other h.m hg ht (by decide), row_off h.r hg (fun q hq e1 => h.er q (by rw [e1]; exact hgE) hq), h.ef, h.er, h.fr⟩, Mo.grown hg fun x e => .inr (.inr (.inl (by rw [hv, ← e]; rfl)))⟩
  have h1 := h.e
  rw [hv] at h1 ⊢
  have e2 : i32s (E.set k z) = (i32s E).set k (.int .i32 z) := by unfold i32s; rw [List.map_set]
  rw [e2]
  exact own_cell h1 (by omega) _
theorem Oz.setF (h : Oz B W b s n N A E F P M R) {g cap k : Nat} (hv : s.F = .slice (some ⟨g, 0, none⟩) n cap) (hk : k < n) (z : Nat) : Oz B (W.setCell ⟨g, k, none⟩ (.int .i32 (z : Int))) b s n N A E (F.set k z) P M R ∧ Mo W (s.own b) (W.setCell ⟨g, k, none⟩ (.int .i32 (z : Int))) (s.own b) := by
  have hg := grown_set W ⟨g, k, none⟩ (.int .i32 (z : Int))
  have ht : ∀ x, some g = some x → Ty W x 21 := fun x e => row_ty h.f (by rw [hv, ← e]; rfl)
  have hgF : some g = s.F.ownBlock := by rw [hv]; rfl
  refine ⟨⟨box_other h.box hg ht (by decide), h.hb, row_other h.i hg ht (by decide), row_off h.e hg (fun q hq e1 => h.ef q hq (by rw [e1]; exact hgF)), ?_, row_other h.p hg ht (by decide), row_other h.m hg ht (by decide), row_off h.r hg (fun q hq e1 => h.fr q (by rw [e1]; exact hgF) hq), h.ef, h.er, h.fr⟩, Mo.grown hg fun x e => .inr (.inr (.inr (.inl (by rw [hv, ← e]; rfl))))⟩
  have h1 := h.f
  rw [hv] at h1 ⊢
  have e2 : i32s (nats (F.set k z)) = (i32s (nats F)).set k (.int .i32 (z : Int)) := by unfold i32s nats; rw [List.map_set, List.map_set]
  rw [e2]
  exact own_cell h1 (by omega) _
theorem Oz.putP {W1 : World} {u : Value} {P' : List (Nat × Nat)} (h : Oz B W b s n N A E F P M R) (hg : W.grownBy W1 s.P.ownBlock) (hn : u.ownBlock = s.P.ownBlock ∨ ∀ g, u.ownBlock = some g → W.heap.size ≤ g) (ho : W1.ownsRow B 158 2 u P'.length (twp P')) :
    Oz B (W1.setCell ⟨b, 4, none⟩ u) b { s with P := u } n N A E F P' M R ∧ Mo W (s.own b) (W1.setCell ⟨b, 4, none⟩ u) (({ s with P := u } : Sy).own b) := by
  have ht : ∀ x, s.P.ownBlock = some x → Ty W x 158 := fun x e => row_ty h.p e.symm
  have hb := box_other h.box hg ht (by decide)
  refine ⟨⟨set_heap hb 4 u, h.hb, set_other hb (row_other h.i hg ht (by decide)) (by decide), set_other hb (row_other h.e hg ht (by decide)) (by decide), set_other hb (row_other h.f hg ht (by decide)) (by decide), set_other hb ho (by decide), set_other hb (row_other h.m hg ht (by decide)) (by decide), set_other hb (row_other h.r hg ht (by decide)) (by decide), h.ef, h.er, h.fr⟩, ?_⟩
  have hs := grown_set W1 ⟨b, 4, none⟩ u
  refine ⟨hs.os.trans hg.os, hs.tape.trans hg.tape, hs.output.trans hg.output, Nat.le_trans hg.size hs.size, fun i hi h1 => ?_, ?_⟩
  · exact (hs.block i (Nat.lt_of_lt_of_le hi hg.size) (fun e1 => h1 (.inl (by simpa using e1)))).trans (hg.block i hi (fun e1 => h1 (.inr (.inr (.inr (.inr (.inl e1)))))))
  · rintro k (hk | hk | hk | hk | hk | hk | hk)
    · exact .inl (.inl hk)
    · exact .inl (.inr (.inl hk))
    · exact .inl (.inr (.inr (.inl hk)))
    · exact .inl (.inr (.inr (.inr (.inl hk))))
    · rcases hn with e | e
      · exact .inl (.inr (.inr (.inr (.inr (.inl (by rw [← e]; exact hk))))))
      · exact .inr (e k hk.symm)
    · exact .inl (.inr (.inr (.inr (.inr (.inr (.inl hk))))))
    · exact .inl (.inr (.inr (.inr (.inr (.inr (.inr hk))))))
theorem Oz.putM {W1 : World} {u : Value} {M' : List Int} (h : Oz B W b s n N A E F P M R) (hg : W.grownBy W1 s.M.ownBlock) (hn : u.ownBlock = s.M.ownBlock ∨ ∀ g, u.ownBlock = some g → W.heap.size ≤ g) (ho : W1.ownsRow B 3 1 u M'.length (i64s M')) :
    Oz B (W1.setCell ⟨b, 5, none⟩ u) b { s with M := u } n N A E F P M' R ∧ Mo W (s.own b) (W1.setCell ⟨b, 5, none⟩ u) (({ s with M := u } : Sy).own b) := by
  have ht : ∀ x, s.M.ownBlock = some x → Ty W x 3 := fun x e => row_ty h.m e.symm
  have hb := box_other h.box hg ht (by decide)
  refine ⟨⟨set_heap hb 5 u, h.hb, set_other hb (row_other h.i hg ht (by decide)) (by decide), set_other hb (row_other h.e hg ht (by decide)) (by decide), set_other hb (row_other h.f hg ht (by decide)) (by decide), set_other hb (row_other h.p hg ht (by decide)) (by decide), set_other hb ho (by decide), set_other hb (row_other h.r hg ht (by decide)) (by decide), h.ef, h.er, h.fr⟩, ?_⟩
  have hs := grown_set W1 ⟨b, 5, none⟩ u
  refine ⟨hs.os.trans hg.os, hs.tape.trans hg.tape, hs.output.trans hg.output, Nat.le_trans hg.size hs.size, fun i hi h1 => ?_, ?_⟩
  · exact (hs.block i (Nat.lt_of_lt_of_le hi hg.size) (fun e1 => h1 (.inl (by simpa using e1)))).trans (hg.block i hi (fun e1 => h1 (.inr (.inr (.inr (.inr (.inr (.inl e1))))))))
  · rintro k (hk | hk | hk | hk | hk | hk | hk)
    · exact .inl (.inl hk)
    · exact .inl (.inr (.inl hk))
    · exact .inl (.inr (.inr (.inl hk)))
    · exact .inl (.inr (.inr (.inr (.inl hk))))
    · exact .inl (.inr (.inr (.inr (.inr (.inl hk)))))
    · rcases hn with e | e
      · exact .inl (.inr (.inr (.inr (.inr (.inr (.inl (by rw [← e]; exact hk)))))))
      · exact .inr (e k hk.symm)
    · exact .inl (.inr (.inr (.inr (.inr (.inr (.inr hk))))))
theorem Oz.putR {W1 : World} {u : Value} {R' : List Nat} (h : Oz B W b s n N A E F P M R) (hg : W.grownBy W1 s.R.ownBlock) (hn : u.ownBlock = s.R.ownBlock ∨ ∀ g, u.ownBlock = some g → W.heap.size ≤ g) (ho : W1.ownsRow B 21 1 u R'.length (i32s (nats R'))) :
    Oz B (W1.setCell ⟨b, 6, none⟩ u) b { s with R := u } n N A E F P M R' ∧ Mo W (s.own b) (W1.setCell ⟨b, 6, none⟩ u) (({ s with R := u } : Sy).own b) := by
  have ht : ∀ x, s.R.ownBlock = some x → Ty W x 21 := fun x e => row_ty h.r e.symm
  have hb := box_other h.box hg ht (by decide)
  have ap : ∀ {v : Value} {e sz m : Nat} {xs : List Value}, W.ownsRow B e sz v m xs → (∀ k, some k = v.ownBlock → some k ≠ s.R.ownBlock) → ∀ k, some k = v.ownBlock → some k ≠ u.ownBlock := fun {v e sz m xs} hr h1 k hk e1 => by
    rcases hn with e2 | e2
    · exact h1 k hk (by rw [← e2]; exact e1)
    · have := e2 k e1.symm
      have := (hr.lt k hk.symm).2
      omega
  refine ⟨⟨set_heap hb 6 u, h.hb, set_other hb (row_other h.i hg ht (by decide)) (by decide), set_other hb (row_off h.e hg h.er) (by decide), set_other hb (row_off h.f hg h.fr) (by decide), set_other hb (row_other h.p hg ht (by decide)) (by decide), set_other hb (row_other h.m hg ht (by decide)) (by decide), set_other hb ho (by decide), h.ef, ap h.e h.er, ap h.f h.fr⟩, ?_⟩
  have hs := grown_set W1 ⟨b, 6, none⟩ u
  refine ⟨hs.os.trans hg.os, hs.tape.trans hg.tape, hs.output.trans hg.output, Nat.le_trans hg.size hs.size, fun i hi h1 => ?_, ?_⟩
  · exact (hs.block i (Nat.lt_of_lt_of_le hi hg.size) (fun e1 => h1 (.inl (by simpa using e1)))).trans (hg.block i hi (fun e1 => h1 (.inr (.inr (.inr (.inr (.inr (.inr e1))))))))
  · rintro k (hk | hk | hk | hk | hk | hk | hk)
    · exact .inl (.inl hk)
    · exact .inl (.inr (.inl hk))
    · exact .inl (.inr (.inr (.inl hk)))
    · exact .inl (.inr (.inr (.inr (.inl hk))))
    · exact .inl (.inr (.inr (.inr (.inr (.inl hk)))))
    · exact .inl (.inr (.inr (.inr (.inr (.inr (.inl hk))))))
    · rcases hn with e | e
      · exact .inl (.inr (.inr (.inr (.inr (.inr (.inr (by rw [← e]; exact hk)))))))
      · exact .inr (e k hk.symm)
end
/-- how far it has come -/
structure Ow (w0 W : World) (b : Nat) (s : Sy) (n : Nat) (css : List (List Int)) (K M : List Int) (R : List Nat) : Prop where
  bel : Below w0.heap.size w0 W
  fit : Fit css n
  mn : M.Nodup
  mf : ∀ x ∈ M, fmd x = true ∧ idx x < n
  z : ∃ F P, Oz w0.heap.size W b s n css.length (inLs n (K ++ M)) (lefts (reds K css) M) F P M R ∧ Pls (reds K css) n F P ∧ P.length ≤ 2147483648
section
variable {w0 W W' : World} {b : Nat} {s s' : Sy} {n : Nat} {css : List (List Int)} {K M : List Int} {R : List Nat}
theorem Ow.lt (h : Ow w0 W b s n css K M R) : ∀ k, s.own b k → w0.heap.size ≤ k ∧ k < W.heap.size := by
  obtain ⟨F, P, hz, _⟩ := h.z
  exact hz.lt
theorem Ow.below (h : Ow w0 W b s n css K M R) (hb : Below W.heap.size W W') : Ow w0 W' b s n css K M R := by
  obtain ⟨F, P, hz, hp⟩ := h.z
  exact ⟨Below.step h.bel hb, h.fit, h.mn, h.mf, F, P, hz.below hb, hp⟩
theorem Ow.few (h : Ow w0 W b s n css K M R) : M.length ≤ 2097152 := lits_few h.mn fun x hx => (h.mf x hx).1
theorem Fit.reds (h : Fit css n) (K : List Int) : Fit (reds K css) n := by
  have hc : ∀ c ∈ Go.Proofs.YtjajafeaengnjaaGreatDoor.reds K css, ∃ c' ∈ css, c = red K c' := fun c hc => by
    obtain ⟨c', a, b⟩ := List.mem_map.1 hc
    exact ⟨c', a, b.symm⟩
  refine ⟨h.hn, h.ev, by rw [reds_len]; exact h.num, fun c hc' => ?_, fun c hc' l hl => ?_⟩
  · obtain ⟨c', a, rfl⟩ := hc c hc'
    refine Nat.le_trans ?_ (h.len c' a)
    unfold red
    split
    · simp
    · exact List.length_filter_le _ _
  · obtain ⟨c', a, rfl⟩ := hc c hc'
    exact h.lit c' a l (mem_red.1 hl).2.1
end
end Go.Proofs.YtjajafeaengnjaaGreatDoor
set_option linter.unusedSimpArgs false
set_option linter.unusedVariables false
namespace Go.Proofs.YtjajafeaengnjaaGreatDoor
open Go Go.RowKit

structure Sf where
  M : Value
  D : Bool
  C : Value
  U : Value
  L : Value
  F : Value
  H : Value
  R : Value
def nilS : Value := .slice none 0 0
def Sf.own (s : Sf) (V : List Value) (b k : Nat) : Prop := k = b ∨ some k = s.C.ownBlock ∨ some k = s.U.ownBlock ∨ some k = s.L.ownBlock ∨ some k = s.F.ownBlock ∨ some k = s.H.ownBlock ∨ some k = s.R.ownBlock ∨ ∃ v ∈ V, some k = v.ownBlock
/-- the clauses' cells -/
def clz (V : List Value) (cl : Fcl) : List Value := (V.zip cl).flatMap fun x => [x.1, .int .i64 (x.2.2 : Int)]
/-- as it lies -/
structure Fwz (B : Nat) (W : World) (b : Nat) (s : Sf) (V : List Value) (cl : Fcl) (un : List Nat) (lk : List (Nat × Nat)) (fs : List Nat) (hs : List Bool) (R : List Int) (td : Nat) : Prop where
  box : W.heap[b]? = some (.cells #[s.M, .bool false, s.C, s.U, s.L, s.F, s.H, s.R, .int .i64 (td : Int), .bool s.D] 65 (0, 0))
  hb : B ≤ b
  c : W.ownsRow B 90 2 s.C cl.length (clz V cl)
  u : W.ownsRow B 21 1 s.U un.length (i32s (nats un))
  l : W.ownsRow B 100 2 s.L lk.length (twp lk)
  f : W.ownsRow B 21 1 s.F fs.length (i32s (nats fs))
  h : W.ownsRow B 4 1 s.H hs.length (hs.map Value.bool)
  r : W.ownsRow B 3 1 s.R R.length (i64s R)
  uf : ∀ k, some k = s.U.ownBlock → some k ≠ s.F.ownBlock
  vl : V.length = cl.length
  v : ∀ k, W.ownsRow B 3 1 (V.getD k nilS) (lts cl k).length (i64s (lts cl k))
  va : ∀ j k g, (V.getD j nilS).ownBlock = some g → (V.getD k nilS).ownBlock = some g → j = k
  vr : ∀ k g, (V.getD k nilS).ownBlock = some g → s.R.ownBlock ≠ some g
section
variable {B : Nat} {W W' : World} {b : Nat} {s : Sf} {V : List Value} {cl : Fcl} {un : List Nat} {lk : List (Nat × Nat)} {fs : List Nat} {hs : List Bool} {R : List Int} {td : Nat}
theorem getV_mem {V : List Value} {k : Nat} (h : (V.getD k nilS).ownBlock ≠ none) : V.getD k nilS ∈ V := by
  rw [List.getD_eq_getElem?_getD] at h ⊢
  cases e : V[k]? with
  | none => rw [e] at h; exact absurd rfl h
  | some x => exact List.mem_of_getElem? e
theorem mem_getV {V : List Value} {v : Value} (h : v ∈ V) : ∃ k, k < V.length ∧ V.getD k nilS = v := by
  obtain ⟨k, hk, e⟩ := List.getElem_of_mem h
  exact ⟨k, hk, by rw [List.getD_eq_getElem?_getD, List.getElem?_eq_getElem hk]; exact e⟩
theorem Fwz.ty (h : Fwz B W b s V cl un lk fs hs R td) : Ty W b 65 := ⟨_, _, h.box⟩
theorem Fwz.blt (h : Fwz B W b s V cl un lk fs hs R td) : b < W.heap.size := (Array.getElem?_eq_some_iff.1 h.box).1
theorem Fwz.lt (h : Fwz B W b s V cl un lk fs hs R td) : ∀ k, s.own V b k → B ≤ k ∧ k < W.heap.size := by
  rintro k (rfl | hk | hk | hk | hk | hk | hk | ⟨v, hv, hk⟩)
  · exact ⟨h.hb, h.blt⟩
  · exact h.c.lt k hk.symm
  · exact h.u.lt k hk.symm
  · exact h.l.lt k hk.symm
  · exact h.f.lt k hk.symm
  · exact h.h.lt k hk.symm
  · exact h.r.lt k hk.symm
  · obtain ⟨j, _, rfl⟩ := mem_getV hv
    exact (h.v j).lt k hk.symm
theorem Fwz.ownV (k g : Nat) (hg : (V.getD k nilS).ownBlock = some g) : s.own V b g := .inr (.inr (.inr (.inr (.inr (.inr (.inr ⟨_, getV_mem (by rw [hg]; simp), hg.symm⟩))))))
theorem Fwz.kept (h : Fwz B W b s V cl un lk fs hs R td) (hk : ∀ k, s.own V b k → W'.heap[k]? = W.heap[k]?) : Fwz B W' b s V cl un lk fs hs R td :=
  ⟨(hk b (.inl rfl)).trans h.box, h.hb, row_kept h.c fun k e => hk k (.inr (.inl e)), row_kept h.u fun k e => hk k (.inr (.inr (.inl e))), row_kept h.l fun k e => hk k (.inr (.inr (.inr (.inl e)))), row_kept h.f fun k e => hk k (.inr (.inr (.inr (.inr (.inl e))))), row_kept h.h fun k e => hk k (.inr (.inr (.inr (.inr (.inr (.inl e)))))), row_kept h.r fun k e => hk k (.inr (.inr (.inr (.inr (.inr (.inr (.inl e))))))), h.uf, h.vl, fun j => row_kept (h.v j) fun k e => hk k (Fwz.ownV j k e.symm), h.va, h.vr⟩
theorem Fwz.below (h : Fwz B W b s V cl un lk fs hs R td) (hb : Below W.heap.size W W') : Fwz B W' b s V cl un lk fs hs R td := h.kept fun k hk => hb.block k (h.lt k hk).2
theorem Fwz.cell (h : Fwz B W b s V cl un lk fs hs R td) (j : Nat) (x : Value) (hx : #[s.M, .bool false, s.C, s.U, s.L, s.F, s.H, s.R, .int .i64 (td : Int), .bool s.D][j]? = some x) : W.cell? ⟨b, j, none⟩ = some x := by simp [World.cell?, h.box]; simpa using hx
theorem Fwz.c1 (h : Fwz B W b s V cl un lk fs hs R td) : W.cell? ⟨b, 1, none⟩ = some (.bool false) := h.cell 1 _ rfl
theorem Fwz.c2 (h : Fwz B W b s V cl un lk fs hs R td) : W.cell? ⟨b, 2, none⟩ = some s.C := h.cell 2 _ rfl
theorem Fwz.c3 (h : Fwz B W b s V cl un lk fs hs R td) : W.cell? ⟨b, 3, none⟩ = some s.U := h.cell 3 _ rfl
theorem Fwz.c4 (h : Fwz B W b s V cl un lk fs hs R td) : W.cell? ⟨b, 4, none⟩ = some s.L := h.cell 4 _ rfl
theorem Fwz.c5 (h : Fwz B W b s V cl un lk fs hs R td) : W.cell? ⟨b, 5, none⟩ = some s.F := h.cell 5 _ rfl
theorem Fwz.c6 (h : Fwz B W b s V cl un lk fs hs R td) : W.cell? ⟨b, 6, none⟩ = some s.H := h.cell 6 _ rfl
theorem Fwz.c7 (h : Fwz B W b s V cl un lk fs hs R td) : W.cell? ⟨b, 7, none⟩ = some s.R := h.cell 7 _ rfl
theorem Fwz.c8 (h : Fwz B W b s V cl un lk fs hs R td) : W.cell? ⟨b, 8, none⟩ = some (.int .i64 (td : Int)) := h.cell 8 _ rfl
theorem Fwz.fz (h : Fwz B W b s V cl un lk fs hs R td) (j : Nat) : W.frozen? ⟨b, j, none⟩ = false := by simp [World.frozen?, h.box]
theorem clz_at : ∀ {V : List Value} {cl : Fcl} {k : Nat}, V.length = cl.length → k < cl.length → (clz V cl)[k * 2]? = some (V.getD k nilS) ∧ (clz V cl)[k * 2 + 1]? = some (.int .i64 ((cl.getD k ([], 0)).2 : Int)) := fun {V cl k} hl hk => by
  have := flat2_at (fun x : Value × (List Int × Nat) => x.1) (fun x => Value.int .i64 (x.2.2 : Int)) (V.zip cl) k (V.getD k nilS, cl.getD k ([], 0)) (by
    rw [List.getElem?_zip_eq_some, List.getD_eq_getElem?_getD, List.getD_eq_getElem?_getD, List.getElem?_eq_getElem (by omega), List.getElem?_eq_getElem hk]; exact ⟨rfl, rfl⟩)
  exact this

theorem Fwz.setF (h : Fwz B W b s V cl un lk fs hs R td) {g cap k : Nat} (hv : s.F = .slice (some ⟨g, 0, none⟩) fs.length cap) (hk : k < fs.length) (z : Nat) : Fwz B (W.setCell ⟨g, k, none⟩ (.int .i32 (z : Int))) b s V cl un lk (fs.set k z) hs R td ∧ Mo W (s.own V b) (W.setCell ⟨g, k, none⟩ (.int .i32 (z : Int))) (s.own V b) := by
  have hg := grown_set W ⟨g, k, none⟩ (.int .i32 (z : Int))
  have ht : ∀ x, some g = some x → Ty W x 21 := fun x e => row_ty h.f (by rw [hv, ← e]; rfl)
  have hgF : some g = s.F.ownBlock := by rw [hv]; rfl
  refine ⟨⟨box_other h.box hg ht (by decide), h.hb, row_other h.c hg ht (by decide), row_off h.u hg (fun q hq e1 => h.uf q hq (by rw [e1]; exact hgF)), row_other h.l hg ht (by decide), ?_, row_other h.h hg ht (by decide), row_other h.r hg ht (by decide), h.uf, h.vl, fun j => row_other (h.v j) hg ht (by decide), h.va, h.vr⟩, Mo.grown hg fun x e => .inr (.inr (.inr (.inr (.inl (by rw [hv, ← e]; rfl)))))⟩
  have h1 := h.f
  rw [hv] at h1 ⊢
  have e2 : i32s (nats (fs.set k z)) = (i32s (nats fs)).set k (.int .i32 (z : Int)) := by unfold i32s nats; rw [List.map_set, List.map_set]
  rw [e2, List.length_set]
  exact own_cell h1 (by omega) _
theorem Fwz.setH (h : Fwz B W b s V cl un lk fs hs R td) {g cap k : Nat} (hv : s.H = .slice (some ⟨g, 0, none⟩) hs.length cap) (hk : k < hs.length) (z : Bool) : Fwz B (W.setCell ⟨g, k, none⟩ (.bool z)) b s V cl un lk fs (hs.set k z) R td ∧ Mo W (s.own V b) (W.setCell ⟨g, k, none⟩ (.bool z)) (s.own V b) := by
  have hg := grown_set W ⟨g, k, none⟩ (.bool z)
  have ht : ∀ x, some g = some x → Ty W x 4 := fun x e => row_ty h.h (by rw [hv, ← e]; rfl)
  refine ⟨⟨box_other h.box hg ht (by decide), h.hb, row_other h.c hg ht (by decide), row_other h.u hg ht (by decide), row_other h.l hg ht (by decide), row_other h.f hg ht (by decide), ?_, row_other h.r hg ht (by decide), h.uf, h.vl, fun j => row_other (h.v j) hg ht (by decide), h.va, h.vr⟩, Mo.grown hg fun x e => .inr (.inr (.inr (.inr (.inr (.inl (by rw [hv, ← e]; rfl))))))⟩
  have h1 := h.h
  rw [hv] at h1 ⊢
  rw [List.map_set, List.length_set]
  exact own_cell h1 (by omega) _
theorem flat2_set {α : Type} (f g : α → Value) : ∀ (P : List α) (p : Nat) (x y : α), P[p]? = some x → (g x = g y → (P.set p y).flatMap (fun c => [f c, g c]) = (P.flatMap fun c => [f c, g c]).set (p * 2) (f y)) ∧ (f x = f y → (P.set p y).flatMap (fun c => [f c, g c]) = (P.flatMap fun c => [f c, g c]).set (p * 2 + 1) (g y))
  | [], p, x, y, h => by simp at h
  | a :: P, 0, x, y, h => by
    have e : a = x := by simpa using h
    subst e
    constructor
    · intro e; simp [e]
    · intro e; simp [e]
  | a :: P, p + 1, x, y, h => by
    have ih := flat2_set f g P p x y (by simpa using h)
    constructor
    · intro e
      have := ih.1 e
      rw [List.set_cons_succ, List.flatMap_cons, List.flatMap_cons, this, show (p + 1) * 2 = p * 2 + 2 by omega]; rfl
    · intro e
      have := ih.2 e
      rw [List.set_cons_succ, List.flatMap_cons, List.flatMap_cons, this, show (p + 1) * 2 + 1 = (p * 2 + 1) + 2 by omega]; rfl
theorem Fwz.setN (h : Fwz B W b s V cl un lk fs hs R td) {g cap k : Nat} {q : Nat × Nat} (hv : s.L = .slice (some ⟨g, 0, none⟩) lk.length cap) (hk : lk[k]? = some q) (z : Nat) : Fwz B (W.setCell ⟨g, k * 2, none⟩ (.int .i32 (z : Int))) b s V cl un (lk.set k (z, q.2)) fs hs R td ∧ Mo W (s.own V b) (W.setCell ⟨g, k * 2, none⟩ (.int .i32 (z : Int))) (s.own V b) := by
  have hg := grown_set W ⟨g, k * 2, none⟩ (.int .i32 (z : Int))
  have hkl : k < lk.length := (List.getElem?_eq_some_iff.1 hk).1
  have ht : ∀ x, some g = some x → Ty W x 100 := fun x e => row_ty h.l (by rw [hv, ← e]; rfl)
  refine ⟨⟨box_other h.box hg ht (by decide), h.hb, row_other h.c hg ht (by decide), row_other h.u hg ht (by decide), ?_, row_other h.f hg ht (by decide), row_other h.h hg ht (by decide), row_other h.r hg ht (by decide), h.uf, h.vl, fun j => row_other (h.v j) hg ht (by decide), h.va, h.vr⟩, Mo.grown hg fun x e => .inr (.inr (.inr (.inl (by rw [hv, ← e]; rfl))))⟩
  have h1 := h.l
  rw [hv] at h1 ⊢
  have e2 : twp (lk.set k (z, q.2)) = (twp lk).set (k * 2) (.int .i32 (z : Int)) := (flat2_set (fun c : Nat × Nat => Value.int .i32 (c.1 : Int)) (fun c => Value.int .i32 (c.2 : Int)) lk k q (z, q.2) hk).1 rfl
  rw [e2, List.length_set]
  exact own_cell h1 (by omega) _
theorem Fwz.setP (h : Fwz B W b s V cl un lk fs hs R td) {g cap k : Nat} {q : Nat × Nat} (hv : s.L = .slice (some ⟨g, 0, none⟩) lk.length cap) (hk : lk[k]? = some q) (z : Nat) : Fwz B (W.setCell ⟨g, k * 2 + 1, none⟩ (.int .i32 (z : Int))) b s V cl un (lk.set k (q.1, z)) fs hs R td ∧ Mo W (s.own V b) (W.setCell ⟨g, k * 2 + 1, none⟩ (.int .i32 (z : Int))) (s.own V b) := by
  have hg := grown_set W ⟨g, k * 2 + 1, none⟩ (.int .i32 (z : Int))
  have hkl : k < lk.length := (List.getElem?_eq_some_iff.1 hk).1
  have ht : ∀ x, some g = some x → Ty W x 100 := fun x e => row_ty h.l (by rw [hv, ← e]; rfl)
  refine ⟨⟨box_other h.box hg ht (by decide), h.hb, row_other h.c hg ht (by decide), row_other h.u hg ht (by decide), ?_, row_other h.f hg ht (by decide), row_other h.h hg ht (by decide), row_other h.r hg ht (by decide), h.uf, h.vl, fun j => row_other (h.v j) hg ht (by decide), h.va, h.vr⟩, Mo.grown hg fun x e => .inr (.inr (.inr (.inl (by rw [hv, ← e]; rfl))))⟩
  have h1 := h.l
  rw [hv] at h1 ⊢
  have e2 : twp (lk.set k (q.1, z)) = (twp lk).set (k * 2 + 1) (.int .i32 (z : Int)) := (flat2_set (fun c : Nat × Nat => Value.int .i32 (c.1 : Int)) (fun c => Value.int .i32 (c.2 : Int)) lk k q (q.1, z) hk).2 rfl
  rw [e2, List.length_set]
  exact own_cell h1 (by omega) _
theorem i64s_set (c : List Int) (j : Nat) (z : Int) : i64s (c.set j z) = (i64s c).set j (.int .i64 z) := by unfold i64s; rw [List.map_set]
theorem clz_lit {V : List Value} {cl : Fcl} {k : Nat} (c : List Int) : clz V (cl.set k (c, (cl.getD k ([], 0)).2)) = clz V cl := by
  unfold clz
  induction V generalizing cl k with
  | nil => simp
  | cons v V ih =>
    cases cl with
    | nil => simp
    | cons x cl =>
      cases k with
      | zero => simp
      | succ k => have := @ih cl k; simp at this ⊢; exact this
theorem lts_setl {cl : Fcl} {k j : Nat} {c : List Int} {fr : Nat} (hk : k < cl.length) : lts (cl.set k (c, fr)) j = if j = k then c else lts cl j := by
  split
  · rename_i e; subst e; exact lts_set_self hk
  · rename_i e; exact lts_set_ne e
theorem Fwz.setV (h : Fwz B W b s V cl un lk fs hs R td) {g cap k j : Nat} (hv : V.getD k nilS = .slice (some ⟨g, 0, none⟩) (lts cl k).length cap) (hj : j < (lts cl k).length) (z : Int) : Fwz B (W.setCell ⟨g, j, none⟩ (.int .i64 z)) b s V (cl.set k ((lts cl k).set j z, (cl.getD k ([], 0)).2)) un lk fs hs R td ∧ Mo W (s.own V b) (W.setCell ⟨g, j, none⟩ (.int .i64 z)) (s.own V b) := by
  have hg := grown_set W ⟨g, j, none⟩ (.int .i64 z)
  have hgV : (V.getD k nilS).ownBlock = some g := by rw [hv]; rfl
  have ht : ∀ x, some g = some x → Ty W x 3 := fun x e => row_ty (h.v k) (by rw [hv, ← e]; rfl)
  have hkl : k < cl.length := lts_in (by intro e; rw [e] at hj; simp at hj)
  refine ⟨⟨box_other h.box hg ht (by decide), h.hb, ?_, row_other h.u hg ht (by decide), row_other h.l hg ht (by decide), row_other h.f hg ht (by decide), row_other h.h hg ht (by decide), row_off h.r hg (fun q hq e1 => h.vr k g hgV (by rw [← hq, e1])), h.uf, by rw [List.length_set]; exact h.vl, fun i => ?_, h.va, h.vr⟩, Mo.grown hg fun x e => Fwz.ownV k x (by rw [hgV, e])⟩
  · rw [clz_lit, List.length_set]; exact row_other h.c hg ht (by decide)
  · rw [lts_setl hkl]
    split
    · rename_i e; subst e
      have h1 := h.v i
      rw [hv] at h1 ⊢
      rw [i64s_set, List.length_set]
      exact own_cell h1 (by omega) _
    · rename_i e
      exact row_off (h.v i) hg fun q hq e1 => e (h.va i k g (by rw [← hq, e1]) hgV)
theorem Fwz.setG (h : Fwz B W b s V cl un lk fs hs R td) {g cap k : Nat} (hv : s.C = .slice (some ⟨g, 0, none⟩) cl.length cap) (hk : k < cl.length) (z : Nat) : Fwz B (W.setCell ⟨g, k * 2 + 1, none⟩ (.int .i64 (z : Int))) b s V (cl.set k (lts cl k, z)) un lk fs hs R td ∧ Mo W (s.own V b) (W.setCell ⟨g, k * 2 + 1, none⟩ (.int .i64 (z : Int))) (s.own V b) := by
  have hg := grown_set W ⟨g, k * 2 + 1, none⟩ (.int .i64 (z : Int))
  have ht : ∀ x, some g = some x → Ty W x 90 := fun x e => row_ty h.c (by rw [hv, ← e]; rfl)
  refine ⟨⟨box_other h.box hg ht (by decide), h.hb, ?_, row_other h.u hg ht (by decide), row_other h.l hg ht (by decide), row_other h.f hg ht (by decide), row_other h.h hg ht (by decide), row_other h.r hg ht (by decide), h.uf, by rw [List.length_set]; exact h.vl, fun i => ?_, h.va, h.vr⟩, Mo.grown hg fun x e => .inr (.inl (by rw [hv, ← e]; rfl))⟩
  · have h1 := h.c
    rw [hv] at h1 ⊢
    have hz : (V.zip cl)[k]? = some (V.getD k nilS, cl.getD k ([], 0)) := by
      have := h.vl
      rw [List.getElem?_zip_eq_some, List.getD_eq_getElem?_getD, List.getD_eq_getElem?_getD, List.getElem?_eq_getElem (by omega), List.getElem?_eq_getElem hk]; exact ⟨rfl, rfl⟩
    have e2 : clz V (cl.set k (lts cl k, z)) = (clz V cl).set (k * 2 + 1) (.int .i64 (z : Int)) := by
      have := (flat2_set (fun x : Value × (List Int × Nat) => x.1) (fun x => Value.int .i64 (x.2.2 : Int)) (V.zip cl) k _ (V.getD k nilS, (lts cl k, z)) hz).2 rfl
      unfold clz
      rw [← this]
      congr 1
      refine List.ext_getElem? fun i => ?_
      by_cases e : i = k
      · subst e
        have := h.vl
        rw [List.getElem?_set_self (by simp; omega), List.getElem?_zip_eq_some, List.getElem?_set_self hk, List.getD_eq_getElem?_getD, List.getElem?_eq_getElem (by omega)]; exact ⟨rfl, rfl⟩
      · rw [List.getElem?_set_ne (fun e2 => e e2.symm)]
        show (List.zipWith Prod.mk V (cl.set k (lts cl k, z)))[i]? = (List.zipWith Prod.mk V cl)[i]?
        rw [List.getElem?_zipWith, List.getElem?_zipWith, List.getElem?_set_ne (fun e2 => e e2.symm)]
    rw [e2, List.length_set]
    exact own_cell h1 (by omega) _
  · have e : lts (cl.set k (lts cl k, z)) i = lts cl i := by
      rw [lts_setl hk]; split
      · rename_i e; rw [e]
      · rfl
    rw [e]; exact row_other (h.v i) hg ht (by decide)
theorem Fwz.setT (h : Fwz B W b s V cl un lk fs hs R td) (z : Nat) : Fwz B (W.setCell ⟨b, 8, none⟩ (.int .i64 (z : Int))) b s V cl un lk fs hs R z ∧ Mo W (s.own V b) (W.setCell ⟨b, 8, none⟩ (.int .i64 (z : Int))) (s.own V b) :=
  ⟨⟨set_heap h.box 8 _, h.hb, set_other h.box h.c (by decide), set_other h.box h.u (by decide), set_other h.box h.l (by decide), set_other h.box h.f (by decide), set_other h.box h.h (by decide), set_other h.box h.r (by decide), h.uf, h.vl, fun j => set_other h.box (h.v j) (by decide), h.va, h.vr⟩, Mo.set W b 8 _ (.inl rfl)⟩
theorem Fwz.putC {W1 : World} {u : Value} {cl' : Fcl} {V' : List Value} (h : Fwz B W b s V cl un lk fs hs R td) (hg : W.grownBy W1 s.C.ownBlock) (hn : u.ownBlock = s.C.ownBlock ∨ ∀ g, u.ownBlock = some g → W.heap.size ≤ g) (ho : W1.ownsRow B 90 2 u cl'.length (clz V' cl')) (hl' : V'.length = cl'.length) (hlt : ∀ k, lts cl' k = lts cl k) (hV' : ∀ k, V'.getD k nilS = V.getD k nilS) :
    Fwz B (W1.setCell ⟨b, 2, none⟩ u) b { s with C := u } V' cl' un lk fs hs R td ∧ Mo W (s.own V b) (W1.setCell ⟨b, 2, none⟩ u) (({ s with C := u } : Sf).own V' b) := by
  have ht : ∀ x, s.C.ownBlock = some x → Ty W x 90 := fun x e => row_ty h.c e.symm
  have hb := box_other h.box hg ht (by decide)
  refine ⟨⟨set_heap hb 2 u, h.hb, set_other hb ho (by decide), set_other hb (row_other h.u hg ht (by decide)) (by decide), set_other hb (row_other h.l hg ht (by decide)) (by decide), set_other hb (row_other h.f hg ht (by decide)) (by decide), set_other hb (row_other h.h hg ht (by decide)) (by decide), set_other hb (row_other h.r hg ht (by decide)) (by decide), h.uf, hl', fun j => by rw [hV', hlt]; exact set_other hb (row_other (h.v j) hg ht (by decide)) (by decide), fun j k g h1 h2 => h.va j k g (by rw [← hV']; exact h1) (by rw [← hV']; exact h2), fun k g h1 => h.vr k g (by rw [← hV']; exact h1)⟩, ?_⟩
  · have hs := grown_set W1 ⟨b, 2, none⟩ u
    refine ⟨hs.os.trans hg.os, hs.tape.trans hg.tape, hs.output.trans hg.output, Nat.le_trans hg.size hs.size, fun i hi h1 => ?_, ?_⟩
    · exact (hs.block i (Nat.lt_of_lt_of_le hi hg.size) (fun e1 => h1 (.inl (by simpa using e1)))).trans (hg.block i hi (fun e1 => h1 (.inr (.inl e1))))
    rintro k (hk | hk | hk | hk | hk | hk | hk | ⟨v, hv, hk⟩)
    · exact .inl (.inl hk)
    · rcases hn with e | e
      · exact .inl (.inr (.inl (by rw [← e]; exact hk)))
      · exact .inr (e k hk.symm)
    · exact .inl (.inr (.inr (.inl hk)))
    · exact .inl (.inr (.inr (.inr (.inl hk))))
    · exact .inl (.inr (.inr (.inr (.inr (.inl hk)))))
    · exact .inl (.inr (.inr (.inr (.inr (.inr (.inl hk))))))
    · exact .inl (.inr (.inr (.inr (.inr (.inr (.inr (.inl hk)))))))
    · obtain ⟨q, hq, rfl⟩ := mem_getV hv
      rw [hV'] at hk
      exact .inl (Fwz.ownV q k hk.symm)
theorem Fwz.putU {W1 : World} {u : Value} {un' : List Nat} (h : Fwz B W b s V cl un lk fs hs R td) (hg : W.grownBy W1 s.U.ownBlock) (hn : u.ownBlock = s.U.ownBlock ∨ ∀ g, u.ownBlock = some g → W.heap.size ≤ g) (ho : W1.ownsRow B 21 1 u un'.length (i32s (nats un'))) :
    Fwz B (W1.setCell ⟨b, 3, none⟩ u) b { s with U := u } V cl un' lk fs hs R td ∧ Mo W (s.own V b) (W1.setCell ⟨b, 3, none⟩ u) (({ s with U := u } : Sf).own V b) := by
  have ht : ∀ x, s.U.ownBlock = some x → Ty W x 21 := fun x e => row_ty h.u e.symm
  have hb := box_other h.box hg ht (by decide)
  refine ⟨⟨set_heap hb 3 u, h.hb, set_other hb (row_other h.c hg ht (by decide)) (by decide), set_other hb ho (by decide), set_other hb (row_other h.l hg ht (by decide)) (by decide), set_other hb (row_off h.f hg (fun q hq e1 => h.uf q (by rw [e1]) hq)) (by decide), set_other hb (row_other h.h hg ht (by decide)) (by decide), set_other hb (row_other h.r hg ht (by decide)) (by decide), fun k hk e1 => by
    rcases hn with e2 | e2
    · exact h.uf k (by rw [← e2]; exact hk) e1
    · have := e2 k hk.symm
      have := (h.f.lt k e1.symm).2
      omega, h.vl, fun j => set_other hb (row_other (h.v j) hg ht (by decide)) (by decide), h.va, h.vr⟩, ?_⟩
  · have hs := grown_set W1 ⟨b, 3, none⟩ u
    refine ⟨hs.os.trans hg.os, hs.tape.trans hg.tape, hs.output.trans hg.output, Nat.le_trans hg.size hs.size, fun i hi h1 => ?_, ?_⟩
    · exact (hs.block i (Nat.lt_of_lt_of_le hi hg.size) (fun e1 => h1 (.inl (by simpa using e1)))).trans (hg.block i hi (fun e1 => h1 (.inr (.inr (.inl e1)))))
    rintro k (hk | hk | hk | hk | hk | hk | hk | ⟨v, hv, hk⟩)
    · exact .inl (.inl hk)
    · exact .inl (.inr (.inl hk))
    · rcases hn with e | e
      · exact .inl (.inr (.inr (.inl (by rw [← e]; exact hk))))
      · exact .inr (e k hk.symm)
    · exact .inl (.inr (.inr (.inr (.inl hk))))
    · exact .inl (.inr (.inr (.inr (.inr (.inl hk)))))
    · exact .inl (.inr (.inr (.inr (.inr (.inr (.inl hk))))))
    · exact .inl (.inr (.inr (.inr (.inr (.inr (.inr (.inl hk)))))))
    · exact .inl (.inr (.inr (.inr (.inr (.inr (.inr (.inr (⟨v, hv, hk⟩))))))))
theorem Fwz.putL {W1 : World} {u : Value} {lk' : List (Nat × Nat)} (h : Fwz B W b s V cl un lk fs hs R td) (hg : W.grownBy W1 s.L.ownBlock) (hn : u.ownBlock = s.L.ownBlock ∨ ∀ g, u.ownBlock = some g → W.heap.size ≤ g) (ho : W1.ownsRow B 100 2 u lk'.length (twp lk')) :
    Fwz B (W1.setCell ⟨b, 4, none⟩ u) b { s with L := u } V cl un lk' fs hs R td ∧ Mo W (s.own V b) (W1.setCell ⟨b, 4, none⟩ u) (({ s with L := u } : Sf).own V b) := by
  have ht : ∀ x, s.L.ownBlock = some x → Ty W x 100 := fun x e => row_ty h.l e.symm
  have hb := box_other h.box hg ht (by decide)
  refine ⟨⟨set_heap hb 4 u, h.hb, set_other hb (row_other h.c hg ht (by decide)) (by decide), set_other hb (row_other h.u hg ht (by decide)) (by decide), set_other hb ho (by decide), set_other hb (row_other h.f hg ht (by decide)) (by decide), set_other hb (row_other h.h hg ht (by decide)) (by decide), set_other hb (row_other h.r hg ht (by decide)) (by decide), h.uf, h.vl, fun j => set_other hb (row_other (h.v j) hg ht (by decide)) (by decide), h.va, h.vr⟩, ?_⟩
  · have hs := grown_set W1 ⟨b, 4, none⟩ u
    refine ⟨hs.os.trans hg.os, hs.tape.trans hg.tape, hs.output.trans hg.output, Nat.le_trans hg.size hs.size, fun i hi h1 => ?_, ?_⟩
    · exact (hs.block i (Nat.lt_of_lt_of_le hi hg.size) (fun e1 => h1 (.inl (by simpa using e1)))).trans (hg.block i hi (fun e1 => h1 (.inr (.inr (.inr (.inl e1))))))
    rintro k (hk | hk | hk | hk | hk | hk | hk | ⟨v, hv, hk⟩)
    · exact .inl (.inl hk)
    · exact .inl (.inr (.inl hk))
    · exact .inl (.inr (.inr (.inl hk)))
    · rcases hn with e | e
      · exact .inl (.inr (.inr (.inr (.inl (by rw [← e]; exact hk)))))
      · exact .inr (e k hk.symm)
    · exact .inl (.inr (.inr (.inr (.inr (.inl hk)))))
    · exact .inl (.inr (.inr (.inr (.inr (.inr (.inl hk))))))
    · exact .inl (.inr (.inr (.inr (.inr (.inr (.inr (.inl hk)))))))
    · exact .inl (.inr (.inr (.inr (.inr (.inr (.inr (.inr (⟨v, hv, hk⟩))))))))
theorem Fwz.putF {W1 : World} {u : Value} {fs' : List Nat} (h : Fwz B W b s V cl un lk fs hs R td) (hg : W.grownBy W1 s.F.ownBlock) (hn : u.ownBlock = s.F.ownBlock ∨ ∀ g, u.ownBlock = some g → W.heap.size ≤ g) (ho : W1.ownsRow B 21 1 u fs'.length (i32s (nats fs'))) :
    Fwz B (W1.setCell ⟨b, 5, none⟩ u) b { s with F := u } V cl un lk fs' hs R td ∧ Mo W (s.own V b) (W1.setCell ⟨b, 5, none⟩ u) (({ s with F := u } : Sf).own V b) := by
  have ht : ∀ x, s.F.ownBlock = some x → Ty W x 21 := fun x e => row_ty h.f e.symm
  have hb := box_other h.box hg ht (by decide)
  refine ⟨⟨set_heap hb 5 u, h.hb, set_other hb (row_other h.c hg ht (by decide)) (by decide), set_other hb (row_off h.u hg (fun q hq e1 => h.uf q hq (by rw [e1]))) (by decide), set_other hb (row_other h.l hg ht (by decide)) (by decide), set_other hb ho (by decide), set_other hb (row_other h.h hg ht (by decide)) (by decide), set_other hb (row_other h.r hg ht (by decide)) (by decide), fun k hk e1 => by
    rcases hn with e2 | e2
    · exact h.uf k hk (by rw [← e2]; exact e1)
    · have := e2 k e1.symm
      have := (h.u.lt k hk.symm).2
      omega, h.vl, fun j => set_other hb (row_other (h.v j) hg ht (by decide)) (by decide), h.va, h.vr⟩, ?_⟩
  · have hs := grown_set W1 ⟨b, 5, none⟩ u
    refine ⟨hs.os.trans hg.os, hs.tape.trans hg.tape, hs.output.trans hg.output, Nat.le_trans hg.size hs.size, fun i hi h1 => ?_, ?_⟩
    · exact (hs.block i (Nat.lt_of_lt_of_le hi hg.size) (fun e1 => h1 (.inl (by simpa using e1)))).trans (hg.block i hi (fun e1 => h1 (.inr (.inr (.inr (.inr (.inl e1)))))))
    rintro k (hk | hk | hk | hk | hk | hk | hk | ⟨v, hv, hk⟩)
    · exact .inl (.inl hk)
    · exact .inl (.inr (.inl hk))
    · exact .inl (.inr (.inr (.inl hk)))
    · exact .inl (.inr (.inr (.inr (.inl hk))))
    · rcases hn with e | e
      · exact .inl (.inr (.inr (.inr (.inr (.inl (by rw [← e]; exact hk))))))
      · exact .inr (e k hk.symm)
    · exact .inl (.inr (.inr (.inr (.inr (.inr (.inl hk))))))
    · exact .inl (.inr (.inr (.inr (.inr (.inr (.inr (.inl hk)))))))
    · exact .inl (.inr (.inr (.inr (.inr (.inr (.inr (.inr (⟨v, hv, hk⟩))))))))
theorem Fwz.putH {W1 : World} {u : Value} {hs' : List Bool} (h : Fwz B W b s V cl un lk fs hs R td) (hg : W.grownBy W1 s.H.ownBlock) (hn : u.ownBlock = s.H.ownBlock ∨ ∀ g, u.ownBlock = some g → W.heap.size ≤ g) (ho : W1.ownsRow B 4 1 u hs'.length (hs'.map Value.bool)) :
    Fwz B (W1.setCell ⟨b, 6, none⟩ u) b { s with H := u } V cl un lk fs hs' R td ∧ Mo W (s.own V b) (W1.setCell ⟨b, 6, none⟩ u) (({ s with H := u } : Sf).own V b) := by
  have ht : ∀ x, s.H.ownBlock = some x → Ty W x 4 := fun x e => row_ty h.h e.symm
  have hb := box_other h.box hg ht (by decide)
  refine ⟨⟨set_heap hb 6 u, h.hb, set_other hb (row_other h.c hg ht (by decide)) (by decide), set_other hb (row_other h.u hg ht (by decide)) (by decide), set_other hb (row_other h.l hg ht (by decide)) (by decide), set_other hb (row_other h.f hg ht (by decide)) (by decide), set_other hb ho (by decide), set_other hb (row_other h.r hg ht (by decide)) (by decide), h.uf, h.vl, fun j => set_other hb (row_other (h.v j) hg ht (by decide)) (by decide), h.va, h.vr⟩, ?_⟩
  · have hs := grown_set W1 ⟨b, 6, none⟩ u
    refine ⟨hs.os.trans hg.os, hs.tape.trans hg.tape, hs.output.trans hg.output, Nat.le_trans hg.size hs.size, fun i hi h1 => ?_, ?_⟩
    · exact (hs.block i (Nat.lt_of_lt_of_le hi hg.size) (fun e1 => h1 (.inl (by simpa using e1)))).trans (hg.block i hi (fun e1 => h1 (.inr (.inr (.inr (.inr (.inr (.inl e1))))))))
    rintro k (hk | hk | hk | hk | hk | hk | hk | ⟨v, hv, hk⟩)
    · exact .inl (.inl hk)
    · exact .inl (.inr (.inl hk))
    · exact .inl (.inr (.inr (.inl hk)))
    · exact .inl (.inr (.inr (.inr (.inl hk))))
    · exact .inl (.inr (.inr (.inr (.inr (.inl hk)))))
    · rcases hn with e | e
      · exact .inl (.inr (.inr (.inr (.inr (.inr (.inl (by rw [← e]; exact hk)))))))
      · exact .inr (e k hk.symm)
    · exact .inl (.inr (.inr (.inr (.inr (.inr (.inr (.inl hk)))))))
    · exact .inl (.inr (.inr (.inr (.inr (.inr (.inr (.inr (⟨v, hv, hk⟩))))))))
theorem Fwz.putR {W1 : World} {u : Value} {R' : List Int} (h : Fwz B W b s V cl un lk fs hs R td) (hg : W.grownBy W1 s.R.ownBlock) (hn : u.ownBlock = s.R.ownBlock ∨ ∀ g, u.ownBlock = some g → W.heap.size ≤ g) (ho : W1.ownsRow B 3 1 u R'.length (i64s R')) :
    Fwz B (W1.setCell ⟨b, 7, none⟩ u) b { s with R := u } V cl un lk fs hs R' td ∧ Mo W (s.own V b) (W1.setCell ⟨b, 7, none⟩ u) (({ s with R := u } : Sf).own V b) := by
  have ht : ∀ x, s.R.ownBlock = some x → Ty W x 3 := fun x e => row_ty h.r e.symm
  have hb := box_other h.box hg ht (by decide)
  refine ⟨⟨set_heap hb 7 u, h.hb, set_other hb (row_other h.c hg ht (by decide)) (by decide), set_other hb (row_other h.u hg ht (by decide)) (by decide), set_other hb (row_other h.l hg ht (by decide)) (by decide), set_other hb (row_other h.f hg ht (by decide)) (by decide), set_other hb (row_other h.h hg ht (by decide)) (by decide), set_other hb ho (by decide), h.uf, h.vl, fun j => set_other hb (row_off (h.v j) hg (fun q hq e1 => h.vr j q hq.symm e1.symm)) (by decide), h.va, fun k g h1 h2 => by
    rcases hn with e2 | e2
    · exact h.vr k g h1 (by rw [← e2]; exact h2)
    · have := e2 g h2
      have := ((h.v k).lt g h1).2
      omega⟩, ?_⟩
  · have hs := grown_set W1 ⟨b, 7, none⟩ u
    refine ⟨hs.os.trans hg.os, hs.tape.trans hg.tape, hs.output.trans hg.output, Nat.le_trans hg.size hs.size, fun i hi h1 => ?_, ?_⟩
    · exact (hs.block i (Nat.lt_of_lt_of_le hi hg.size) (fun e1 => h1 (.inl (by simpa using e1)))).trans (hg.block i hi (fun e1 => h1 (.inr (.inr (.inr (.inr (.inr (.inr (.inl e1)))))))))
    rintro k (hk | hk | hk | hk | hk | hk | hk | ⟨v, hv, hk⟩)
    · exact .inl (.inl hk)
    · exact .inl (.inr (.inl hk))
    · exact .inl (.inr (.inr (.inl hk)))
    · exact .inl (.inr (.inr (.inr (.inl hk))))
    · exact .inl (.inr (.inr (.inr (.inr (.inl hk)))))
    · exact .inl (.inr (.inr (.inr (.inr (.inr (.inl hk))))))
    · rcases hn with e | e
      · exact .inl (.inr (.inr (.inr (.inr (.inr (.inr (.inl (by rw [← e]; exact hk))))))))
      · exact .inr (e k hk.symm)
    · exact .inl (.inr (.inr (.inr (.inr (.inr (.inr (.inr (⟨v, hv, hk⟩))))))))
end
end Go.Proofs.YtjajafeaengnjaaGreatDoor
set_option linter.unusedSimpArgs false
set_option linter.unusedVariables false
namespace Go.Proofs.YtjajafeaengnjaaGreatDoor
open Go Go.RowKit

section
variable {B b : Nat} {s : Sf} {V : List Value} {cl : Fcl} {un : List Nat} {lk : List (Nat × Nat)} {fs : List Nat} {hs : List Bool} {R : List Int} {td n : Nat}
/-- a literal's place -/
theorem idx_nat {l : Int} (hf : fmd l = true) : ∃ i : Nat, idx l = i := ⟨(idx l).toNat, by have := idx_range hf; omega⟩
theorem fTrue_any (l : Int) (w : World) (hz : Fwz B w b s V cl un lk fs (inLs n R) R td) (hf : fmd l = true) (hl : idx l < n) :
    Calls Tryz.prog 80 #[.pointer (some ⟨b, 1, none⟩), .int .i64 l] w fun e w' => e = .returned (.bool (decide (l ∈ R))) ∧ Below w.heap.size w w' := by
  obtain ⟨i, hi⟩ := idx_nat hf
  have hin : i < n := by omega
  have hlen : (inLs n R).length = n := inLs_len n R
  obtain ⟨g, c, ei, k1, k2, k3⟩ := row_some hz.h (by omega)
  have c1 := hz.c6
  have hrow := hz.h
  rw [ei] at c1 hrow
  have hc := row_cell hrow (j := i) (x := .bool (decide (l ∈ R))) (by rw [List.getElem?_map, inLs_at hf hi hin]; rfl)
  rw [hlen] at c1 k1
  have HI : Hid (idx l = i) := hi
  clear hz ei hrow hi hl hlen
  generalize decide (l ∈ R) = z at *
  go_enter Tryz.func80, Tryz.ntmps80
  go_upto_region 1 with fail
  go_region_law (go_simp; go_at_call 60; refine (index_any _ _).mono ?_; intro e w9 hh; rw [hh.1, hh.2, HI.out]; clear hh e w9; dsimp only)
  all_goals
    go_wp2
    go_ret
    exact ⟨rfl, (Below.refl _ _).drew⟩
theorem fFalse_any (l : Int) (w : World) (hz : Fwz B w b s V cl un lk fs (inLs n R) R td) (hf : fmd l = true) (hl : idx (-l) < n) :
    Calls Tryz.prog 69 #[.pointer (some ⟨b, 1, none⟩), .int .i64 l] w fun e w' => e = .returned (.bool (decide (-l ∈ R))) ∧ Below w.heap.size w w' := by
  have hfn := fmd_neg hf
  obtain ⟨i, hi⟩ := idx_nat hfn
  have hin : i < n := by omega
  have hlen : (inLs n R).length = n := inLs_len n R
  obtain ⟨g, c, ei, k1, k2, k3⟩ := row_some hz.h (by omega)
  have c1 := hz.c6
  have hrow := hz.h
  rw [ei] at c1 hrow
  have hc := row_cell hrow (j := i) (x := .bool (decide (-l ∈ R))) (by rw [List.getElem?_map, inLs_at hfn hi hin]; rfl)
  rw [hlen] at c1 k1
  have HI : Hid (idx (-l) = i) := hi
  have hr := fmd_range hf
  have hw : IntKind.i64.wrap (-l) = -l := by rw [IntKind.wrap_i64]; omega
  have hw2 : wrap64 (-l) = -l := by unfold wrap64; omega
  clear hz ei hrow hi hl hlen hr hfn
  generalize decide (-l ∈ R) = z at *
  go_enter Tryz.func69, Tryz.ntmps69
  go_upto_region 1 with fail
  go_region_law (go_simp; go_at_call 60; refine (index_any _ _).mono ?_; intro e w9 hh; rw [hh.1, hh.2, HI.out]; clear hh e w9; dsimp only)
  all_goals
    go_wp2
    go_ret
    exact ⟨rfl, (Below.refl _ _).drew⟩
/-- the literal that a link watches -/
theorem fWatched_any (a : Nat) (w : World) (hz : Fwz B w b s V cl un lk fs hs R td) (hl : 2 ≤ (lts cl (a / 2)).length) (ha : a < 2147483648) (hc31 : cl.length ≤ 1073741824) :
    Calls Tryz.prog 82 #[.pointer (some ⟨b, 1, none⟩), .int .i32 (a : Int)] w fun e w' => e = .returned (.int .i64 ((lts cl (a / 2)).getD (a % 2) 0)) ∧ w' = w := by
  have hkl : a / 2 < cl.length := lts_in (by intro e; rw [e] at hl; simp at hl)
  obtain ⟨g, c, ei, k1, k2, k3⟩ := row_some hz.c (by omega)
  have c2 := hz.c2
  have hrow := hz.c
  rw [ei] at c2 hrow
  have hcc := row_cell hrow (clz_at hz.vl hkl).1
  obtain ⟨g2, cp2, ev, m1, m2, m3⟩ := row_some (hz.v (a / 2)) (by omega)
  have hv := hz.v (a / 2)
  rw [ev] at hcc hv
  have hcl := row_cell hv (j := a % 2) (x := .int .i64 ((lts cl (a / 2)).getD (a % 2) 0)) (by
    unfold i64s; rw [List.getElem?_map, List.getD_eq_getElem?_getD, List.getElem?_eq_getElem (by omega)]; rfl)
  have hq1 : (a : Int).tdiv 2 = ((a / 2 : Nat) : Int) := by rw [Int.tdiv_eq_ediv_of_nonneg (by omega)]; rfl
  have hq2 : (a : Int).tmod 2 = ((a % 2 : Nat) : Int) := by rw [Int.tmod_eq_emod_of_nonneg (by omega)]; rfl
  have hm2 : a % 2 < 2 := Nat.mod_lt _ (by omega)
  generalize (lts cl (a / 2)).getD (a % 2) 0 = z at *
  generalize a / 2 = k at *
  generalize a % 2 = e at *
  generalize hL : (lts cl k).length = L at *
  generalize cl.length = N at *
  have hw1 : IntKind.i32.wrap (k : Int) = (k : Int) := by rw [wrap_i32']; omega
  have hw2 : IntKind.i32.wrap (e : Int) = (e : Int) := by rw [wrap_i32']; omega
  clear hz ei hrow ev hv hL
  go_enter Tryz.func82, Tryz.ntmps82
  go_wp2
  go_ret
  exact ⟨rfl, rfl⟩
end
end Go.Proofs.YtjajafeaengnjaaGreatDoor
set_option linter.unusedSimpArgs false
set_option linter.unusedVariables false
namespace Go.Proofs.YtjajafeaengnjaaGreatDoor
open Go Go.RowKit

section
variable {B b : Nat} {s : Sf} {V : List Value} {cl : Fcl} {un : List Nat} {lk : List (Nat × Nat)} {fs : List Nat} {hs : List Bool} {R : List Int} {td n : Nat}
/-- one more is true -/
def knw (R : List Int) (l : Int) : List Int := if l ∈ R then R else R ++ [l]
theorem rd_one8 (w : World) (z : Int) : Rd (w.alloc (.cells #[.int .i64 z] 3)) (.slice (some ⟨w.heap.size, 0, none⟩) 1 1) [z] := by
  have hh := World.alloc_heap_new w (.cells #[.int .i64 z] 3)
  refine ⟨by simp, some ⟨w.heap.size, 0, none⟩, 1, rfl, by simp, by unfold maxLen; omega, by simp, fun _ => ⟨w.heap.size, 0, rfl, by rw [World.size_alloc]; omega, fun j hj => ?_⟩⟩
  have : j = 0 := by simpa using hj
  subst this
  show (match (w.alloc (.cells #[.int .i64 z] 3)).heap[w.heap.size]? with | some (Obj.cells c elem frozen) => c[0 + 0]? | x => none) = _
  rw [hh]; rfl
def KnS (B b : Nat) (s : Sf) (V : List Value) (cl : Fcl) (un : List Nat) (lk : List (Nat × Nat)) (fs : List Nat) (n : Nat) (R : List Int) (td : Nat) (w w' : World) : Prop := ∃ u, Fwz B w' b { s with R := u } V cl un lk fs (inLs n R) R td ∧ Mo w (s.own V b) w' (({ s with R := u } : Sf).own V b)
theorem fKnow_any (l : Int) (w : World) (hz : Fwz B w b s V cl un lk fs (inLs n R) R td) (hf : fmd l = true) (hl : idx l < n) (hn : n ≤ 2097152) (hR : R.length ≤ 4194304) (hB : B ≤ w.heap.size) :
    Calls Tryz.prog 67 #[.pointer (some ⟨b, 1, none⟩), .int .i64 l] w fun e w' => e = .returned (.tuple #[]) ∧ KnS B b s V cl un lk fs n (knw R l) td w w' := by
  obtain ⟨i, hi⟩ := idx_nat hf
  have hin : i < n := by omega
  have HT : Hid (Calls Tryz.prog 80 #[.pointer (some ⟨b, 1, none⟩), .int .i64 l] w fun e w' => e = .returned (.bool (decide (l ∈ R))) ∧ Below w.heap.size w w') := fTrue_any l w hz hf hl
  have HZ : Hid (Fwz B w b s V cl un lk fs (inLs n R) R td) := hz
  have HI : Hid (idx l = i) := hi
  by_cases hm : l ∈ R
  · have hk : knw R l = R := if_pos hm
    rw [hk]
    have hd : decide (l ∈ R) = true := decide_eq_true hm
    have HD : Hid (decide (l ∈ R) = true) := hd
    clear hz hd hk hm hi
    go_enter Tryz.func67, Tryz.ntmps67
    go_wp2_with (go_at_call 80; refine HT.out.mono ?_; rintro e w1 ⟨rfl, hb⟩; rw [HD.out]; have HB : Hid (Below w.heap.size w w1) := hb; clear hb)
    go_end0
    exact ⟨rfl, s.R, HZ.out.below HB.out, Mo.below HB.out⟩
  · have hk : knw R l = R ++ [l] := if_neg hm
    rw [hk]
    have HD : Hid (decide (l ∈ R) = false) := decide_eq_false hm
    have HLs : Hid ((inLs n R).set i true = inLs n (R ++ [l])) := inLs_set hn hf hi true (by simp) fun x hx => by simp [hx]
    have HRl : Hid (R.length ≤ 4194304) := hR
    clear hz hk hm hi hR
    go_enter Tryz.func67, Tryz.ntmps67
    go_upto_region 1 with (go_at_call 80; refine HT.out.mono ?_; rintro e w1 ⟨rfl, hb⟩; rw [HD.out]; have HB : Hid (Below w.heap.size w w1) := hb; clear hb)
    have hz1 := HZ.out.below HB.out
    have hlen : (inLs n R).length = n := inLs_len n R
    obtain ⟨g, c, ei, k1, k2, k3⟩ := row_some hz1.h (by omega)
    have HEi := ei
    have hset := hz1.setH ei (k := i) (by omega) true
    have c6 := hz1.c6
    have hrow := hz1.h
    have HEI : Hid (s.H = .slice (some ⟨g, 0, none⟩) (inLs n R).length c) := ei
    rw [ei] at c6 hrow
    have hc := row_cell hrow (j := i) (x := .bool ((inLs n R)[i]'(by omega))) (by rw [List.getElem?_map, List.getElem?_eq_getElem (by omega)]; rfl)
    have hzf := row_fz hrow i
    generalize (inLs n R)[i]'(by omega) = z0 at *
    rw [hlen] at c6 k1
    have HS : Hid (Fwz B (w1.setCell ⟨g, i, none⟩ (.bool true)) b s V cl un lk fs (inLs n (R ++ [l])) R td ∧ Mo w1 (s.own V b) (w1.setCell ⟨g, i, none⟩ (.bool true)) (s.own V b)) := by rw [← HLs.out]; exact hset
    clear hset hz1 hrow HEi ei hlen
    go_region_law (go_simp; go_at_call 60; refine (index_any _ _).mono ?_; intro e w9 hh; rw [hh.1, hh.2, HI.out]; clear hh e w9; dsimp only)
    all_goals
      obtain ⟨q2, m2⟩ := HS.out
      have q2 := q2.below (Below.refl _ _).drew
      have m2 := m2.trans (Mo.below (Below.refl _ _).drew)
      generalize ((w1.setCell ⟨g, i, none⟩ (.bool true))).drew = w2 at *
      have q3 := q2.below (below_box w2 (.cells #[.int .i64 l] 3))
      have HM2 : Hid (Mo w (s.own V b) (w2.alloc (.cells #[.int .i64 l] 3)) (s.own V b)) := ((Mo.below HB.out).trans m2).trans (Mo.below (below_box w2 (.cells #[.int .i64 l] 3)))
      have HR1 : Hid (Rd (w2.alloc (.cells #[.int .i64 l] 3)) (.slice (some ⟨w2.heap.size, 0, none⟩) 1 1) [l]) := rd_one8 w2 l
      have HQ3 : Hid (Fwz B (w2.alloc (.cells #[.int .i64 l] 3)) b s V cl un lk fs (inLs n (R ++ [l])) R td) := q3
      have HBs : Hid (B ≤ (w2.alloc (.cells #[.int .i64 l] 3)).heap.size) := Nat.le_trans hB HM2.out.size
      have k7 := q2.c7
      clear q2 q3 m2 HS c6 hc hzf
      generalize hsR : s.R = sR at *
      go_wp2_with (at_builtin; refine wpList_app_rd rfl _ _ rfl B sR (.slice (some ⟨w2.heap.size, 0, none⟩) 1 1) R [l] rfl rfl (by rw [← hsR]; exact HQ3.out.r) HR1.out (by have := HRl.out; simp; omega) HBs.out ?_; intro v8 w8 own8 ap8; obtain ⟨a8, c8, hv8⟩ := own_form own8; simp only [List.length_append, List.length_cons, List.length_nil, Nat.zero_add] at hv8; subst hv8; have A8 := HQ3.out.putR (by rw [hsR]; exact ap8.grown) (by rw [hsR]; exact ap8.new) own8; have hb8 := box_other HQ3.out.box (by rw [← hsR] at ap8; exact ap8.grown) (fun x e => row_ty HQ3.out.r e.symm) (by decide); have p0 : w8.cell? ⟨b, 7, none⟩ = some s.R := (by simp [World.cell?, hb8]); have p1 : w8.frozen? ⟨b, 7, none⟩ = false := (by simp [World.frozen?, hb8]); have F8 : Hid (_ ∧ _) := A8; rw [hsR] at p0; clear A8 own8 ap8 hb8)
      go_end0
      exact ⟨rfl, _, F8.out.1, HM2.out.trans F8.out.2⟩
end
end Go.Proofs.YtjajafeaengnjaaGreatDoor
set_option linter.unusedSimpArgs false
set_option linter.unusedVariables false
namespace Go.Proofs.YtjajafeaengnjaaGreatDoor
open Go Go.RowKit

section
variable {B b : Nat} {s : Sf} {V : List Value} {cl : Fcl} {un : List Nat} {lk : List (Nat × Nat)} {fs : List Nat} {hs : List Bool} {R : List Int} {td n : Nat}
def LkS (B b : Nat) (s : Sf) (V : List Value) (cl : Fcl) (un : List Nat) (lk : List (Nat × Nat)) (fs : List Nat) (hs : List Bool) (R : List Int) (td : Nat) (w w' : World) : Prop := Fwz B w' b s V cl un lk fs hs R td ∧ Mo w (s.own V b) w' (s.own V b)
theorem LkS.step {w w1 w2 : World} {lk' lk'' : List (Nat × Nat)} {fs' fs'' : List Nat} (h : LkS B b s V cl un lk' fs' hs R td w w1) (h2 : Fwz B w2 b s V cl un lk'' fs'' hs R td ∧ Mo w1 (s.own V b) w2 (s.own V b)) : LkS B b s V cl un lk'' fs'' hs R td w w2 := ⟨h2.1, h.2.trans h2.2⟩
theorem LkS.below {w w1 w2 : World} (h : LkS B b s V cl un lk fs hs R td w w1) (hb : Below w1.heap.size w1 w2) : LkS B b s V cl un lk fs hs R td w w2 := ⟨h.1.below hb, h.2.trans (Mo.below hb)⟩
theorem twp_two {a : Nat} {q : Nat × Nat} (h : lk[a]? = some q) : (twp lk)[a * 2]? = some (.int .i32 (q.1 : Int)) ∧ (twp lk)[a * 2 + 1]? = some (.int .i32 (q.2 : Int)) := twp_at (k := q.1) (q := q.2) h
/-- a link to its list's head -/
theorem fEnlist_any (a i f : Nat) (w : World) (hz : Fwz B w b s V cl un lk fs hs R td) (hl : 2 ≤ (lts cl (a / 2)).length) (hlk : lk.length = 2 * cl.length) (hc31 : cl.length ≤ 1073741824) (ha : a < lk.length) (hf : fmd ((lts cl (a / 2)).getD (a % 2) 0) = true) (hi : idx ((lts cl (a / 2)).getD (a % 2) 0) = (i : Int)) (hfi : fs[i]? = some f) (hfl : f < lk.length) (hfn : fs.length ≤ 2097152) :
    Calls Tryz.prog 79 #[.pointer (some ⟨b, 1, none⟩), .int .i32 (a : Int)] w fun e w' => e = .returned (.tuple #[]) ∧ LkS B b s V cl un (enL lk f a) (fs.set i a) hs R td w w' := by
  have hin : i < fs.length := (List.getElem?_eq_some_iff.1 hfi).1
  have HW : Hid (∀ m : Nat, Calls Tryz.prog 82 #[.pointer (some ⟨b, 1, none⟩), .int .i32 (a : Int)] (w.drewN m) fun e w' => e = .returned (.int .i64 ((lts cl (a / 2)).getD (a % 2) 0)) ∧ w' = w.drewN m) := fun m => fWatched_any a _ (hz.below (below_drewN w m)) hl (by omega) hc31
  have HX : Hid (∀ m : Nat, Calls Tryz.prog 60 #[.int .i64 ((lts cl (a / 2)).getD (a % 2) 0)] (w.drewN m) fun e w' => e = .returned (.int .i64 (i : Int)) ∧ w' = w.drewN m) := fun m => (index_any _ _).mono fun e w' h => ⟨by rw [h.1, hi], h.2⟩
  generalize (lts cl (a / 2)).getD (a % 2) 0 = z at *
  obtain ⟨gF, cF, eF, k1, k2, k3⟩ := row_some hz.f (by omega)
  obtain ⟨gL, cL, eL, j1, j2, j3⟩ := row_some hz.l (by omega)
  have b5 := hz.c5
  have b4 := hz.c4
  have rF := hz.f
  have rL := hz.l
  rw [eF] at b5 rF
  rw [eL] at b4 rL
  have hFL : gF ≠ gL := fun e => by
    have t1 := row_ty rF (k := gF) rfl
    have t2 := row_ty rL (k := gL) rfl
    rw [e] at t1
    exact absurd (t1.unique t2) (by decide)
  have kF := row_cell rF (j := i) (x := .int .i32 (f : Int)) (by unfold i32s nats; rw [List.getElem?_map, List.getElem?_map, hfi]; rfl)
  have zF := row_fz rF i
  have HZ : Hid (Fwz B w b s V cl un lk fs hs R td) := hz
  have HEF : Hid (s.F = .slice (some ⟨gF, 0, none⟩) fs.length cF) := eF
  have HEL : Hid (s.L = .slice (some ⟨gL, 0, none⟩) lk.length cL) := eL
  have HA : Hid (∃ q, lk[a]? = some q) := ⟨_, List.getElem?_eq_getElem ha⟩
  obtain ⟨q, hq⟩ := HA.out
  have kL0 := row_cell rL (twp_two hq).1
  have kL1 := row_cell rL (twp_two hq).2
  have zL0 := row_fz rL (a * 2)
  have zL1 := row_fz rL (a * 2 + 1)
  have HQ : Hid (lk[a]? = some q) := hq
  have HE : Hid (∀ lk', enL lk f a = lk' → True) := fun _ _ => trivial
  -- the first two stores
  have H1 : Hid (∀ W, Below w.heap.size w W → LkS B b s V cl un (lk.set a (f, 0)) fs hs R td w ((W.setCell ⟨gL, a * 2, none⟩ (.int .i32 (f : Int))).setCell ⟨gL, a * 2 + 1, none⟩ (.int .i32 (0 : Nat)))) := fun W hW => by
    have q1 := (hz.below hW).setN eL hq f
    have e1 : s.L = .slice (some ⟨gL, 0, none⟩) (lk.set a (f, q.2)).length cL := by rw [List.length_set]; exact eL
    have q2 := q1.1.setP e1 (k := a) (q := (f, q.2)) (by simp [ha]) 0
    rw [List.set_set] at q2
    exact ⟨q2.1, ((Mo.below hW).trans q1.2).trans q2.2⟩
  have hif : IntKind.i64.wrap (i : Int) = (i : Int) := by rw [IntKind.wrap_i64]; omega
  have haf : IntKind.i64.wrap (a : Int) = (a : Int) := by rw [IntKind.wrap_i64]; omega
  have hff : IntKind.i64.wrap (f : Int) = (f : Int) := by rw [IntKind.wrap_i64]; omega
  have hLb : lk.length ≤ 2147483648 := by omega
  clear hz hl hf hi eF eL rF rL hq hlk hc31
  generalize hFN : fs.length = FN at *
  generalize hLN : lk.length = LN at *
  have HN : Hid (fs.length = FN ∧ lk.length = LN) := ⟨hFN, hLN⟩
  clear hFN hLN
  go_enter Tryz.func79, Tryz.ntmps79
  go_wp2_with fail
  go_quiet ((first | (go_at_call 82; exact Calls.quiet_of_same (HW.out _)) | (go_at_call 60; exact Calls.quiet_of_same (HX.out _))))
  go_upto_region 1 with fail
  go_region_law (fail)
  all_goals
    have h1 : LkS B b s V cl un (lk.set a (f, 0)) fs hs R td w (((w.drewN (nq + 1)).setCell ⟨gL, a * 2, none⟩ (.int .i32 (f : Int))).setCell ⟨gL, a * 2 + 1, none⟩ (.int .i32 0)) := H1.out (w.drewN (nq + 1)) (below_drewN w (nq + 1))
    clear b4 b5 kF zF kL0 kL1 zL0 zL1
    generalize (((w.drewN (nq + 1)).setCell ⟨gL, a * 2, none⟩ (.int .i32 (f : Int))).setCell ⟨gL, a * 2 + 1, none⟩ (.int .i32 0)) = w2 at *
    have b4 := h1.1.c4
    have rF := h1.1.f
    have rL := h1.1.l
    have eL2 : s.L = .slice (some ⟨gL, 0, none⟩) (lk.set a (f, 0)).length cL := by rw [List.length_set, HN.out.2]; exact HEL.out
    have eF2 : s.F = .slice (some ⟨gF, 0, none⟩) fs.length cF := by rw [HN.out.1]; exact HEF.out
    rw [HEL.out] at b4
    rw [eF2] at rF
    rw [eL2] at rL
    have kF := row_cell rF (j := i) (x := .int .i32 (f : Int)) (by unfold i32s nats; rw [List.getElem?_map, List.getElem?_map, hfi]; rfl)
    have zF := row_fz rF i
    have H2 : Hid (LkS B b s V cl un (lk.set a (f, 0)) fs hs R td w w2) := h1
    have HFI : Hid (fs[i]? = some f ∧ i < fs.length) := ⟨hfi, by rw [HN.out.1]; exact hin⟩
    by_cases hf0 : f = 0
    · subst hf0
      have H3 : Hid (LkS B b s V cl un (enL lk 0 a) (fs.set i a) hs R td w (w2.setCell ⟨gF, i, none⟩ (.int .i32 (a : Int)))) := by
        have e : enL lk 0 a = lk.set a (0, 0) := by unfold enL; rw [frst_zero]
        rw [e]
        exact h1.step (h1.1.setF eF2 HFI.out.2 a)
      clear h1 rF rL eL2 eF2 H1 hfi HFI
      go_wp2
      go_end0
      exact ⟨rfl, H3.out⟩
    · have hfp : ((f : Int) == 0) = false := by simp; omega
      obtain ⟨q2, hq2⟩ : ∃ q2, (lk.set a (f, 0))[f]? = some q2 := ⟨_, List.getElem?_eq_getElem (by rw [List.length_set, HN.out.2]; exact hfl)⟩
      have kL1 := row_cell rL (twp_two hq2).2
      have zL1 := row_fz rL (f * 2 + 1)
      have H3 : Hid (∀ W, Below w2.heap.size w2 W → LkS B b s V cl un (enL lk f a) (fs.set i a) hs R td w ((W.setCell ⟨gL, f * 2 + 1, none⟩ (.int .i32 (a : Int))).setCell ⟨gF, i, none⟩ (.int .i32 (a : Int)))) := fun W hW => by
        have e : enL lk f a = (lk.set a (f, 0)).set f (q2.1, a) := by
          unfold enL frst; rw [if_neg hf0, List.getD_eq_getElem?_getD, hq2]; rfl
        rw [e]
        have h2 := h1.below hW
        have h3 := h2.step (h2.1.setP eL2 hq2 a)
        exact h3.step (h3.1.setF eF2 HFI.out.2 a)
      have H4 : Hid (∀ W, Below w2.heap.size w2 W → (W.setCell ⟨gL, f * 2 + 1, none⟩ (.int .i32 (a : Int))).cell? ⟨gF, i, none⟩ = some (.int .i32 (f : Int)) ∧ (W.setCell ⟨gL, f * 2 + 1, none⟩ (.int .i32 (a : Int))).frozen? ⟨gF, i, none⟩ = false) := fun W hW => by
        have h2 := h1.below hW
        have h3 := (h2.1.setP eL2 hq2 a).1.f
        rw [eF2] at h3
        exact ⟨row_cell h3 (by unfold i32s nats; rw [List.getElem?_map, List.getElem?_map, hfi]; rfl), row_fz h3 i⟩
      have H5 : Hid (¬ f = 0) := hf0
      clear h1 rF rL eL2 eF2 H1 hfi HFI hq2 hf0
      go_upto_region 3 with fail
      go_region_law (fail)
      all_goals
        obtain ⟨p1, p2⟩ := H4.out w2 (Below.refl _ _)
        go_wp2
        go_end0
        exact ⟨rfl, (H3.out w2 (Below.refl _ _)).below (Below.refl _ _).drew⟩
end
end Go.Proofs.YtjajafeaengnjaaGreatDoor
set_option linter.unusedSimpArgs false
set_option linter.unusedVariables false
namespace Go.Proofs.YtjajafeaengnjaaGreatDoor
open Go Go.RowKit

section
variable {B b : Nat} {s : Sf} {V : List Value} {cl : Fcl} {un : List Nat} {lk : List (Nat × Nat)} {fs : List Nat} {hs : List Bool} {R : List Int} {td n : Nat}
theorem box_cell {W : World} {g j : Nat} {c : Array Value} {e : TypeId} {f : Nat × Nat} {v : Value} (h : W.heap[g]? = some (.cells c e f)) (hj : c[j]? = some v) : W.cell? ⟨g, j, none⟩ = some v := by
  show (match W.heap[g]? with | some (Obj.cells c elem frozen) => c[j]? | x => none) = _
  rw [h]; exact hj
set_option maxHeartbeats 1600000 in
/-- a link out of its list -/
theorem fStrike_any (a i x y : Nat) (w : World) (hz : Fwz B w b s V cl un lk fs hs R td) (hl : 2 ≤ (lts cl (a / 2)).length) (hlk : lk.length = 2 * cl.length) (hc31 : cl.length ≤ 1073741824) (ha : a < lk.length) (hi : idx ((lts cl (a / 2)).getD (a % 2) 0) = (i : Int)) (hin : i < fs.length) (hxy : lk[a]? = some (x, y)) (hx : x < lk.length) (hy : y < lk.length) (hfn : fs.length ≤ 2097152) :
    Calls Tryz.prog 70 #[.pointer (some ⟨b, 1, none⟩), .int .i32 (a : Int)] w fun e w' => e = .returned (.tuple #[]) ∧ LkS B b s V cl un (skL lk a) (skF lk fs a i) hs R td w w' := by
  have eK : skL lk a = lst (frst lk x y) y x := by unfold skL; rw [getD_of hxy]
  have eG : skF lk fs a i = if y = 0 then fs.set i x else fs := by unfold skF; rw [getD_of hxy]
  have HEK : Hid (skL lk a = lst (frst lk x y) y x ∧ skF lk fs a i = if y = 0 then fs.set i x else fs) := ⟨eK, eG⟩
  obtain ⟨gF, cF, eF, k1, k2, k3⟩ := row_some hz.f (by omega)
  obtain ⟨gL, cL, eL, j1, j2, j3⟩ := row_some hz.l (by omega)
  have HZ : Hid (Fwz B w b s V cl un lk fs hs R td) := hz
  have HEF : Hid (s.F = .slice (some ⟨gF, 0, none⟩) fs.length cF) := eF
  have HEL : Hid (s.L = .slice (some ⟨gL, 0, none⟩) lk.length cL) := eL
  have hblt := hz.blt
  have b4 := hz.c4
  have rL := hz.l
  rw [eL] at b4 rL
  have kL0 : w.cell? ⟨gL, a * 2, none⟩ = some (.int .i32 (x : Int)) := row_cell rL (twp_two hxy).1
  have kL1 : w.cell? ⟨gL, a * 2 + 1, none⟩ = some (.int .i32 (y : Int)) := row_cell rL (twp_two hxy).2
  have HXY : Hid (x < lk.length ∧ y < lk.length ∧ i < fs.length) := ⟨hx, hy, hin⟩
  -- the second half: what is behind the list's end, or its head
  have HW : Hid (∀ W lk', LkS B b s V cl un lk' fs hs R td w W → Calls Tryz.prog 82 #[.pointer (some ⟨b, 1, none⟩), .int .i32 (a : Int)] W fun e w' => e = .returned (.int .i64 ((lts cl (a / 2)).getD (a % 2) 0)) ∧ w' = W) := fun W lk' h => fWatched_any a _ h.1 hl (by omega) hc31
  have HX : Hid (∀ W, Calls Tryz.prog 60 #[.int .i64 ((lts cl (a / 2)).getD (a % 2) 0)] W fun e w' => e = .returned (.int .i64 (i : Int)) ∧ w' = W) := fun W => (index_any _ _).mono fun e w' h => ⟨by rw [h.1, hi], h.2⟩
  generalize (lts cl (a / 2)).getD (a % 2) 0 = z at *
  have haf : IntKind.i64.wrap (a : Int) = (a : Int) := by rw [IntKind.wrap_i64]; omega
  have hif : IntKind.i64.wrap (i : Int) = (i : Int) := by rw [IntKind.wrap_i64]; omega
  have hxf : IntKind.i64.wrap (x : Int) = (x : Int) := by rw [IntKind.wrap_i64]; omega
  have hyf : IntKind.i64.wrap (y : Int) = (y : Int) := by rw [IntKind.wrap_i64]; omega
  have hLb : lk.length ≤ 2147483648 := by omega
  have H0 : Hid (LkS B b s V cl un lk fs hs R td w (w.alloc (.cells #[.int .i32 (x : Int), .int .i32 (y : Int)] 100))) := ⟨hz.below (below_box _ _), Mo.below (below_box _ _)⟩
  clear hz hl hi eF eL rL hlk hc31 eK eG hxy
  generalize hFN : fs.length = FN at *
  generalize hLN : lk.length = LN at *
  have HN : Hid (fs.length = FN ∧ lk.length = LN) := ⟨hFN, hLN⟩
  clear hFN hLN
  go_enter Tryz.func70, Tryz.ntmps70
  have hbx0 : (w.alloc (.cells #[.int .i32 (x : Int), .int .i32 (y : Int)] 100)).heap[w.heap.size]? = _ := World.alloc_heap_new w (.cells #[.int .i32 (x : Int), .int .i32 (y : Int)] 100)
  have HBx : Hid ((w.alloc (.cells #[.int .i32 (x : Int), .int .i32 (y : Int)] 100)).heap[w.heap.size]? = some (.cells #[.int .i32 (x : Int), .int .i32 (y : Int)] 100 (0, 0))) := hbx0
  have HKb : Hid (gL ≠ w.heap.size) := Nat.ne_of_lt j3
  clear hbx0
  by_cases hx0 : x = 0
  · obtain ⟨lk1, hlk1⟩ : ∃ lk1, frst lk x y = lk1 := ⟨_, rfl⟩
    have HK1 : Hid (frst lk x y = lk1) := hlk1
    have HL1 : Hid (lk1.length = LN) := (by rw [← hlk1, frst_len]; exact HN.out.2 : lk1.length = LN)
    have H1 : Hid (LkS B b s V cl un lk1 fs hs R td w (w.alloc (.cells #[.int .i32 (x : Int), .int .i32 (y : Int)] 100))) := (by rw [← hlk1, show frst lk x y = lk by rw [hx0, frst_zero]]; exact H0.out : LkS B b s V cl un lk1 fs hs R td w (w.alloc (.cells #[.int .i32 (x : Int), .int .i32 (y : Int)] 100)))
    have x0 : (w.alloc (.cells #[.int .i32 (x : Int), .int .i32 (y : Int)] 100)).cell? ⟨w.heap.size, 0, none⟩ = some (.int .i32 (x : Int)) := box_cell HBx.out rfl
    have x1 : (w.alloc (.cells #[.int .i32 (x : Int), .int .i32 (y : Int)] 100)).cell? ⟨w.heap.size, 1, none⟩ = some (.int .i32 (y : Int)) := box_cell HBx.out rfl
    have hxp : ((x : Int) == 0) = true := by simp; omega
    clear hlk1 hx0 H0
    by_cases hy0 : y = 0
    · have hyp : ((y : Int) == 0) = true := by simp; omega
      have HY0 : Hid (y = 0) := hy0
      clear hy0
      go_upto_region 5 with fail
      clear b4 kL0 kL1
      generalize (w.alloc (.cells #[.int .i32 (x : Int), .int .i32 (y : Int)] 100)) = w1 at *
      have b4 := H1.out.1.c4
      have b5 := H1.out.1.c5
      have rL := H1.out.1.l
      have rF := H1.out.1.f
      have eL2 : s.L = .slice (some ⟨gL, 0, none⟩) lk1.length cL := by rw [HL1.out]; exact HEL.out
      have eF2 : s.F = .slice (some ⟨gF, 0, none⟩) fs.length cF := by rw [HN.out.1]; exact HEF.out
      rw [HEL.out] at b4
      rw [HEF.out] at b5
      rw [eL2] at rL
      rw [eF2] at rF
      obtain ⟨f0, hf0⟩ : ∃ f0, fs[i]? = some f0 := ⟨_, List.getElem?_eq_getElem (by rw [HN.out.1]; exact hin)⟩
      have kF := row_cell rF (j := i) (x := .int .i32 (f0 : Int)) (by unfold i32s nats; rw [List.getElem?_map, List.getElem?_map, hf0]; rfl)
      have zF := row_fz rF i
      have H3 : Hid (LkS B b s V cl un (skL lk a) (skF lk fs a i) hs R td w (w1.setCell ⟨gF, i, none⟩ (.int .i32 (x : Int)))) := by
        rw [HEK.out.1, HEK.out.2, HK1.out, HY0.out, lst_zero, if_pos rfl]
        exact H1.out.step (H1.out.1.setF eF2 (by rw [HN.out.1]; exact hin) x)
      have HWa : Hid (Calls Tryz.prog 82 #[.pointer (some ⟨b, 1, none⟩), .int .i32 (a : Int)] w1 fun e w' => e = .returned (.int .i64 z) ∧ w' = w1) := HW.out w1 lk1 H1.out
      have HWb : Hid (Calls Tryz.prog 82 #[.pointer (some ⟨b, 1, none⟩), .int .i32 (a : Int)] w1.drew fun e w' => e = .returned (.int .i64 z) ∧ w' = w1.drew) := HW.out w1.drew lk1 (H1.out.below (Below.refl _ _).drew)
      clear rF rL eL2 eF2 hf0 HW
      go_region_law (go_simp; first | (go_at_call 82; first | (refine HWa.out.mono ?_; intro e w9 hh; rw [hh.1, hh.2]; clear hh e w9; dsimp only) | (refine HWb.out.mono ?_; intro e w9 hh; rw [hh.1, hh.2]; clear hh e w9; dsimp only)) | (go_at_call 60; refine (HX.out _).mono ?_; intro e w9 hh; rw [hh.1, hh.2]; clear hh e w9; dsimp only))
      all_goals
        go_wp2
        go_end0
        exact ⟨rfl, H3.out.below (Below.refl _ _).drew⟩
    · have hyp : ((y : Int) == 0) = false := by simp; omega
      go_upto_region 4 with fail
      clear b4 kL0 kL1
      generalize (w.alloc (.cells #[.int .i32 (x : Int), .int .i32 (y : Int)] 100)) = w1 at *
      have b4 := H1.out.1.c4
      have b5 := H1.out.1.c5
      have rL := H1.out.1.l
      have rF := H1.out.1.f
      have eL2 : s.L = .slice (some ⟨gL, 0, none⟩) lk1.length cL := by rw [HL1.out]; exact HEL.out
      have eF2 : s.F = .slice (some ⟨gF, 0, none⟩) fs.length cF := by rw [HN.out.1]; exact HEF.out
      rw [HEL.out] at b4
      rw [HEF.out] at b5
      rw [eL2] at rL
      rw [eF2] at rF
      obtain ⟨q3, hq3⟩ : ∃ q3, lk1[y]? = some q3 := ⟨_, List.getElem?_eq_getElem (by rw [HL1.out]; exact hy)⟩
      have kL0 := row_cell rL (twp_two hq3).1
      have zL0 := row_fz rL (y * 2)
      have H3 : Hid (LkS B b s V cl un (skL lk a) (skF lk fs a i) hs R td w (w1.setCell ⟨gL, y * 2, none⟩ (.int .i32 (x : Int)))) := by
        have e : lst lk1 y x = lk1.set y (x, q3.2) := by unfold lst; rw [if_neg hy0, List.getD_eq_getElem?_getD, hq3]; rfl
        rw [HEK.out.1, HEK.out.2, HK1.out, if_neg hy0, e]
        exact H1.out.step (H1.out.1.setN eL2 hq3 x)
      clear rF rL eL2 eF2 hq3 hy0
      go_region_law (fail)
      all_goals
        go_wp2
        go_end0
        exact ⟨rfl, H3.out.below (Below.refl _ _).drew⟩
  · have hxp : ((x : Int) == 0) = false := by simp; omega
    obtain ⟨q1, hq1⟩ : ∃ q1, lk[x]? = some q1 := ⟨_, List.getElem?_eq_getElem (by rw [HN.out.2]; exact hx)⟩
    obtain ⟨lk1, hlk1⟩ : ∃ lk1, frst lk x y = lk1 := ⟨_, rfl⟩
    have HK1 : Hid (frst lk x y = lk1) := hlk1
    have HL1 : Hid (lk1.length = LN) := (by rw [← hlk1, frst_len]; exact HN.out.2 : lk1.length = LN)
    have eL1 : s.L = .slice (some ⟨gL, 0, none⟩) lk.length cL := by rw [HN.out.2]; exact HEL.out
    have H1 : Hid (LkS B b s V cl un lk1 fs hs R td w ((w.alloc (.cells #[.int .i32 (x : Int), .int .i32 (y : Int)] 100)).setCell ⟨gL, x * 2 + 1, none⟩ (.int .i32 (y : Int))).drew) := (by
      have e : frst lk x y = lk.set x (q1.1, y) := by unfold frst; rw [if_neg hx0, List.getD_eq_getElem?_getD, hq1]; rfl
      rw [← hlk1, e]
      exact (H0.out.step (H0.out.1.setP eL1 hq1 y)).below (Below.refl _ _).drew : LkS B b s V cl un lk1 fs hs R td w ((w.alloc (.cells #[.int .i32 (x : Int), .int .i32 (y : Int)] 100)).setCell ⟨gL, x * 2 + 1, none⟩ (.int .i32 (y : Int))).drew)
    have b4a := H0.out.1.c4
    rw [HEL.out] at b4a
    have rL0 := H0.out.1.l
    rw [eL1] at rL0
    have kLx := row_cell rL0 (twp_two hq1).2
    have zLx := row_fz rL0 (x * 2 + 1)
    have x0 : (w.alloc (.cells #[.int .i32 (x : Int), .int .i32 (y : Int)] 100)).cell? ⟨w.heap.size, 0, none⟩ = some (.int .i32 (x : Int)) := box_cell HBx.out rfl
    have x1 : (w.alloc (.cells #[.int .i32 (x : Int), .int .i32 (y : Int)] 100)).cell? ⟨w.heap.size, 1, none⟩ = some (.int .i32 (y : Int)) := box_cell HBx.out rfl
    have H6 : Hid (((w.alloc (.cells #[.int .i32 (x : Int), .int .i32 (y : Int)] 100)).setCell ⟨gL, x * 2 + 1, none⟩ (.int .i32 (y : Int))).heap[w.heap.size]? = some (.cells #[.int .i32 (x : Int), .int .i32 (y : Int)] 100 (0, 0))) := ((grown_set (w.alloc (.cells #[.int .i32 (x : Int), .int .i32 (y : Int)] 100)) ⟨gL, x * 2 + 1, none⟩ (.int .i32 (y : Int))).block _ (by rw [World.size_alloc]; omega) (by simp; exact fun e => HKb.out e.symm)).trans HBx.out
    clear hlk1 hx0 H0 hq1 eL1 rL0
    go_upto_region 2 with fail
    have hwb := Nat.ne_of_lt j3
    clear b4 kL0 kL1
    generalize (w.alloc (.cells #[.int .i32 (x : Int), .int .i32 (y : Int)] 100)) = wa at *
    go_region_law (fail)
    all_goals
      have y0 : (wa.setCell ⟨gL, x * 2 + 1, none⟩ (.int .i32 (y : Int))).drew.cell? ⟨w.heap.size, 0, none⟩ = some (.int .i32 (x : Int)) := box_cell H6.out rfl
      have y1 : (wa.setCell ⟨gL, x * 2 + 1, none⟩ (.int .i32 (y : Int))).drew.cell? ⟨w.heap.size, 1, none⟩ = some (.int .i32 (y : Int)) := box_cell H6.out rfl
      clear b4a kLx zLx x0 x1 H6 HBx
      generalize (wa.setCell ⟨gL, x * 2 + 1, none⟩ (.int .i32 (y : Int))).drew = w1 at *
      by_cases hy0 : y = 0
      · have hyp : ((y : Int) == 0) = true := by simp; omega
        have HY0 : Hid (y = 0) := hy0
        clear hy0
        go_upto_region 5 with fail
        have b4 := H1.out.1.c4
        have b5 := H1.out.1.c5
        have rL := H1.out.1.l
        have rF := H1.out.1.f
        have eL2 : s.L = .slice (some ⟨gL, 0, none⟩) lk1.length cL := by rw [HL1.out]; exact HEL.out
        have eF2 : s.F = .slice (some ⟨gF, 0, none⟩) fs.length cF := by rw [HN.out.1]; exact HEF.out
        rw [HEL.out] at b4
        rw [HEF.out] at b5
        rw [eL2] at rL
        rw [eF2] at rF
        obtain ⟨f0, hf0⟩ : ∃ f0, fs[i]? = some f0 := ⟨_, List.getElem?_eq_getElem (by rw [HN.out.1]; exact hin)⟩
        have kF := row_cell rF (j := i) (x := .int .i32 (f0 : Int)) (by unfold i32s nats; rw [List.getElem?_map, List.getElem?_map, hf0]; rfl)
        have zF := row_fz rF i
        have H3 : Hid (LkS B b s V cl un (skL lk a) (skF lk fs a i) hs R td w (w1.setCell ⟨gF, i, none⟩ (.int .i32 (x : Int)))) := by
          rw [HEK.out.1, HEK.out.2, HK1.out, HY0.out, lst_zero, if_pos rfl]
          exact H1.out.step (H1.out.1.setF eF2 (by rw [HN.out.1]; exact hin) x)
        have HWa : Hid (Calls Tryz.prog 82 #[.pointer (some ⟨b, 1, none⟩), .int .i32 (a : Int)] w1 fun e w' => e = .returned (.int .i64 z) ∧ w' = w1) := HW.out w1 lk1 H1.out
        have HWb : Hid (Calls Tryz.prog 82 #[.pointer (some ⟨b, 1, none⟩), .int .i32 (a : Int)] w1.drew fun e w' => e = .returned (.int .i64 z) ∧ w' = w1.drew) := HW.out w1.drew lk1 (H1.out.below (Below.refl _ _).drew)
        clear rF rL eL2 eF2 hf0 HW
        go_region_law (go_simp; first | (go_at_call 82; first | (refine HWa.out.mono ?_; intro e w9 hh; rw [hh.1, hh.2]; clear hh e w9; dsimp only) | (refine HWb.out.mono ?_; intro e w9 hh; rw [hh.1, hh.2]; clear hh e w9; dsimp only)) | (go_at_call 60; refine (HX.out _).mono ?_; intro e w9 hh; rw [hh.1, hh.2]; clear hh e w9; dsimp only))
        all_goals
          go_wp2
          go_end0
          exact ⟨rfl, H3.out.below (Below.refl _ _).drew⟩
      · have hyp : ((y : Int) == 0) = false := by simp; omega
        go_upto_region 4 with fail
        have b4 := H1.out.1.c4
        have b5 := H1.out.1.c5
        have rL := H1.out.1.l
        have rF := H1.out.1.f
        have eL2 : s.L = .slice (some ⟨gL, 0, none⟩) lk1.length cL := by rw [HL1.out]; exact HEL.out
        have eF2 : s.F = .slice (some ⟨gF, 0, none⟩) fs.length cF := by rw [HN.out.1]; exact HEF.out
        rw [HEL.out] at b4
        rw [HEF.out] at b5
        rw [eL2] at rL
        rw [eF2] at rF
        obtain ⟨q3, hq3⟩ : ∃ q3, lk1[y]? = some q3 := ⟨_, List.getElem?_eq_getElem (by rw [HL1.out]; exact hy)⟩
        have kL0 := row_cell rL (twp_two hq3).1
        have zL0 := row_fz rL (y * 2)
        have H3 : Hid (LkS B b s V cl un (skL lk a) (skF lk fs a i) hs R td w (w1.setCell ⟨gL, y * 2, none⟩ (.int .i32 (x : Int)))) := by
          have e : lst lk1 y x = lk1.set y (x, q3.2) := by unfold lst; rw [if_neg hy0, List.getD_eq_getElem?_getD, hq3]; rfl
          rw [HEK.out.1, HEK.out.2, HK1.out, if_neg hy0, e]
          exact H1.out.step (H1.out.1.setN eL2 hq3 x)
        clear rF rL eL2 eF2 hq3 hy0
        go_region_law (fail)
        all_goals
          go_wp2
          go_end0
          exact ⟨rfl, H3.out.below (Below.refl _ _).drew⟩
end
end Go.Proofs.YtjajafeaengnjaaGreatDoor
set_option linter.unusedSimpArgs false
set_option linter.unusedVariables false
namespace Go.Proofs.YtjajafeaengnjaaGreatDoor
open Go Go.RowKit

section
variable {B b : Nat} {s : Sf} {V : List Value} {cl : Fcl} {un : List Nat} {lk : List (Nat × Nat)} {fs : List Nat} {hs : List Bool} {R : List Int} {td n : Nat}
theorem set_same {cl : Fcl} {k : Nat} : cl.set k (lts cl k, (cl.getD k ([], 0)).2) = cl := by
  refine List.ext_getElem? fun i => ?_
  by_cases e : i = k
  · subst e
    by_cases h : i < cl.length
    · rw [List.getElem?_set_self h]; unfold lts; rw [List.getD_eq_getElem?_getD, List.getElem?_eq_getElem h]; rfl
    · rw [List.set_eq_of_length_le (by omega)]
  · rw [List.getElem?_set_ne (fun e2 => e e2.symm)]
theorem rem_nat (f j N : Nat) : ((f : Int) + (j : Int)).tmod (N : Int) = (((f + j) % N : Nat) : Int) := by
  rw [← Int.natCast_add]; exact (Int.ofNat_tmod _ _).symm
theorem w64_add {a b : Nat} (ha : a ≤ 4194304) (hb : b ≤ 4194304) : wrap64 ((a : Int) + (b : Int)) = (a : Int) + (b : Int) ∧ IntKind.i64.wrap ((a : Int) + (b : Int)) = (a : Int) + (b : Int) := by
  constructor
  · unfold wrap64; omega
  · rw [IntKind.wrap_i64]; omega
theorem w64_suc {a : Nat} (ha : a ≤ 4194304) : Value.int .i64 (wrap64 ((a : Int) + 1)) = .int .i64 ((a + 1 : Nat) : Int) := by
  have : wrap64 ((a : Int) + 1) = ((a + 1 : Nat) : Int) := by unfold wrap64; omega
  rw [this]
theorem w64_nat {a : Nat} (ha : a ≤ 4194304) : wrap64 (a : Int) = (a : Int) ∧ IntKind.i64.wrap (a : Int) = (a : Int) := by
  constructor
  · unfold wrap64; omega
  · rw [IntKind.wrap_i64]; omega
theorem w64_two {a : Nat} (ha : a ≤ 4194304) : wrap64 (2 + (a : Int)) = ((2 + a : Nat) : Int) ∧ IntKind.i64.wrap (2 + (a : Int)) = ((2 + a : Nat) : Int) := by
  constructor
  · unfold wrap64; omega
  · rw [IntKind.wrap_i64]; omega
/-- a place that isn't watched and isn't false, or none -/
def Els (R c : List Int) (p : Nat) : Prop := (p = 0 ∧ ∀ j, 2 ≤ j → j < c.length → -(c.getD j 0) ∈ R) ∨ (2 ≤ p ∧ p < c.length ∧ -(c.getD p 0) ∉ R)
def ElS (B b : Nat) (s : Sf) (V : List Value) (cl : Fcl) (un : List Nat) (lk : List (Nat × Nat)) (fs : List Nat) (hs : List Bool) (R : List Int) (td k p : Nat) (w w' : World) : Prop := ∃ fr, fr ≤ 4194304 ∧ Fwz B w' b s V (cl.set k (lts cl k, fr)) un lk fs hs R td ∧ Mo w (s.own V b) w' (s.own V b) ∧ Els R (lts cl k) p
set_option maxHeartbeats 1600000 in
theorem fElse_any (k gC cC : Nat) (w : World) (hz : Fwz B w b s V cl un lk fs (inLs n R) R td) (eC : s.C = .slice (some ⟨gC, 0, none⟩) cl.length cC) (hk : k < cl.length) (hl2 : 2 ≤ (lts cl k).length) (hL : (lts cl k).length ≤ 2097152) (hlit : ∀ l ∈ lts cl k, fmd l = true ∧ idx l < n) (hev : n % 2 = 0) (hfr : (cl.getD k ([], 0)).2 ≤ 4194304) :
    Calls Tryz.prog 100 #[.pointer (some ⟨b, 1, none⟩), .pointer (some ⟨gC, k * 2, none⟩)] w fun e w' => ∃ p : Nat, e = .returned (.int .i64 (p : Int)) ∧ ElS B b s V cl un lk fs (inLs n R) R td k p w w' := by
  obtain ⟨g2, cp2, ev, m1, m2, m3⟩ := row_some (hz.v k) (by omega)
  have rC := hz.c
  rw [eC] at rC
  have kC0 := row_cell rC (clz_at hz.vl hk).1
  have kC1 := row_cell rC (clz_at hz.vl hk).2
  have zC1 := row_fz rC (k * 2 + 1)
  rw [ev] at kC0
  have HS : Hid (∀ W z, Below w.heap.size w W → z ≤ 4194304 → Fwz B (W.setCell ⟨gC, k * 2 + 1, none⟩ (.int .i64 ((z : Nat) : Int))) b s V (cl.set k (lts cl k, z)) un lk fs (inLs n R) R td ∧ Mo w (s.own V b) (W.setCell ⟨gC, k * 2 + 1, none⟩ (.int .i64 (z : Int))) (s.own V b)) := fun W z hW hz1 => by
    have := (hz.below hW).setG eC hk z
    exact ⟨this.1, (Mo.below hW).trans this.2⟩
  have HZ : Hid (Fwz B w b s V (cl.set k (lts cl k, (cl.getD k ([], 0)).2)) un lk fs (inLs n R) R td) := by rw [set_same]; exact hz
  have HF : Hid (∀ W l, Below w.heap.size w W → l ∈ lts cl k → Calls Tryz.prog 69 #[.pointer (some ⟨b, 1, none⟩), .int .i64 l] W fun e w' => e = .returned (.bool (decide (-l ∈ R))) ∧ Below w.heap.size w w') := fun W l hW hm => (fFalse_any l W (hz.below hW) (hlit l hm).1 (idx_neg_lt (hlit l hm).1 hev (hlit l hm).2)).mono fun e w' h => ⟨h.1, Below.step hW h.2⟩
  have rV := hz.v k
  rw [ev] at rV
  have HV : Hid (∀ W j, Below w.heap.size w W → j < (lts cl k).length → W.cell? ⟨g2, j, none⟩ = some (.int .i64 ((lts cl k).getD j 0)) ∧ (lts cl k).getD j 0 ∈ lts cl k) := fun W j hW hj => by
    have := row_cell rV (j := j) (x := .int .i64 ((lts cl k).getD j 0)) (by unfold i64s; rw [List.getElem?_map, List.getD_eq_getElem?_getD, List.getElem?_eq_getElem hj]; rfl)
    exact ⟨(hW.cell (p := ⟨g2, j, none⟩) m3).trans this, getD_mem0 hj⟩
  have HC : Hid (∀ W, Below w.heap.size w W → W.cell? ⟨gC, k * 2, none⟩ = some (.slice (some ⟨g2, 0, none⟩) (lts cl k).length cp2) ∧ W.cell? ⟨gC, k * 2 + 1, none⟩ = some (.int .i64 ((cl.getD k ([], 0)).2 : Int)) ∧ W.frozen? ⟨gC, k * 2 + 1, none⟩ = false) := fun W hW => by
    have rC2 := (hz.below hW).c
    rw [eC] at rC2
    have q0 := row_cell rC2 (clz_at hz.vl hk).1
    rw [ev] at q0
    exact ⟨q0, row_cell rC2 (clz_at hz.vl hk).2, row_fz rC2 _⟩
  generalize hf0 : (cl.getD k ([], 0)).2 = f at *
  have HCs : Hid (∀ fr p W, fr ≤ 4194304 → Fwz B W b s V (cl.set k (lts cl k, fr)) un lk fs (inLs n R) R td → Mo w (s.own V b) W (s.own V b) → Els R (lts cl k) p → ElS B b s V cl un lk fs (inLs n R) R td k p w W) := fun fr p W a1 a2 a3 a4 => ⟨fr, a1, a2, a3, a4⟩
  clear hz rC eC ev rV zC1 hlit hf0
  generalize hcs : lts cl k = c at *
  have HCe : Hid (lts cl k = c) := hcs
  clear hcs
  obtain ⟨N, hN⟩ : ∃ N, c.length = N + 2 := ⟨c.length - 2, by omega⟩
  have HNl : Hid (c.length = N + 2) := hN
  rw [hN] at kC0 m1
  have hNb : N ≤ 2097152 := by omega
  clear hl2 hL hN
  have hwN : wrap64 (((N + 2 : Nat) : Int) - 2) = (N : Int) := by unfold wrap64; omega
  have hwN2 : IntKind.i64.wrap (((N + 2 : Nat) : Int) - 2) = (N : Int) := by rw [IntKind.wrap_i64]; omega
  go_enter Tryz.func100, Tryz.ntmps100
  go_wp2
  go_loopg [14] N (fun g iv wx => ∃ j : Nat, j + g = N ∧ iv = .int .i64 (j : Int) ∧ (∀ m, m < j → -(c.getD (2 + (f + m) % N) 0) ∈ R) ∧ Below w.heap.size w wx)
  case atStart => exact ⟨0, by omega, rfl, by omega, Below.refl _ _⟩
  case round =>
    clear hwN hwN2
    obtain ⟨j, hj, rfl, hall, hbel⟩ := hrel
    have HJ : Hid (j + gk = N) := hj
    have HA : Hid (∀ m, m < j → -(c.getD (2 + (f + m) % N) 0) ∈ R) := hall
    have HB : Hid (Below w.heap.size w wr) := hbel
    clear hall
    by_cases hlt : j < N
    · obtain ⟨q0, q1, q2⟩ := HC.out wr hbel
      obtain ⟨q, HQ⟩ : ∃ q, Hid ((f + j) % N = q) := ⟨_, rfl⟩
      have hpos : 0 < N := by omega
      have hqN : q < N := by have hq := HQ.out; rw [← hq]; exact Nat.mod_lt _ hpos
      have hjb : j ≤ 4194304 := Nat.le_trans (Nat.le_of_lt hlt) (Nat.le_trans hNb (by decide))
      have hqb : q ≤ 4194304 := Nat.le_trans (Nat.le_of_lt hqN) (Nat.le_trans hNb (by decide))
      have hN0 : ((N : Int) == 0) = false := by simp; omega
      have hN0' : ¬ (N : Int) = 0 := by omega
      obtain ⟨v0, v1⟩ := HV.out wr (2 + q) hbel (by have := HNl.out; omega)
      have hidx : 2 + q < N + 2 := by omega
      rw [HNl.out] at q0
      have HFc := HF.out wr _ hbel v1
      have HFl : Hid (-(c.getD (2 + q) 0) ∉ R → Els R c (2 + q)) := fun h => .inr ⟨by omega, by have := HNl.out; omega, h⟩
      have HSt : Hid (∀ W, Below w.heap.size w W → ElS B b s V cl un lk fs (inLs n R) R td k (2 + q) w (W.setCell ⟨gC, k * 2 + 1, none⟩ (.int .i64 (q : Int))) ∨ -(c.getD (2 + q) 0) ∈ R) := fun W hW => by
        by_cases hm : -(c.getD (2 + q) 0) ∈ R
        · exact .inr hm
        · obtain ⟨a1, a2⟩ := HS.out W q hW (by omega)
          exact .inl (HCs.out q (2 + q) _ (by omega) a1 a2 (HFl.out hm))
      have HHq : Hid (((f : Int) + (j : Int)).tmod (N : Int) = (q : Int)) := by have hq := HQ.out; exact (rem_nat f j N).trans (congrArg _ hq)
      have HQn : Hid (∀ m, m < j + 1 → -(c.getD (2 + q) 0) ∈ R → -(c.getD (2 + (f + m) % N) 0) ∈ R) := fun m hm h => by
        by_cases e : m = j
        · subst e; rw [HQ.out]; exact h
        · exact HA.out m (by omega)
      generalize hz0 : c.getD (2 + q) 0 = z at *
      have HFd : Hid (Calls Tryz.prog 69 #[.pointer (some ⟨b, 1, none⟩), .int .i64 z] wr fun e w' => e = .returned (.bool (decide (-z ∈ R))) ∧ Below w.heap.size w w') := HFc
      have HC2 : Hid (∀ W, Below w.heap.size w W → W.cell? ⟨gC, k * 2 + 1, none⟩ = some (.int .i64 (f : Int)) ∧ W.frozen? ⟨gC, k * 2 + 1, none⟩ = false) := fun W hW => (HC.out W hW).2
      clear hj hz0 v1 HFc HFl hbel
      by_cases hm : -z ∈ R
      · have HD : Hid (decide (-z ∈ R) = true) := decide_eq_true hm
        have HM : Hid (-z ∈ R) := hm
        clear hm
        have hrm := HHq.out
        obtain ⟨hw1, hw1'⟩ := w64_add hfr hjb
        obtain ⟨hwq, hwq'⟩ := w64_nat hqb
        obtain ⟨hw2, hw2'⟩ := w64_two hqb
        have HK9 : Hid (N + 2 ≤ cp2 ∧ cp2 ≤ maxLen ∧ f ≤ 4194304 ∧ j ≤ 4194304 ∧ q ≤ 4194304 ∧ N ≤ 2097152 ∧ q < N) := ⟨m1, m2, hfr, hjb, hqb, hNb, hqN⟩
        clear m1 m2 hfr hjb hqb hNb hqN hpos hw1 hw2 hwq
        go_upto_region 6 with fail
        clear hrm hw1' hwq'
        go_wp2_with (go_at_call 69; refine HFd.out.mono ?_; rintro e w1 ⟨rfl, hb⟩; rw [HD.out]; have HB1 : Hid (Below w.heap.size w w1) := hb; clear hb)
        clear hw2'
        have hNb := HK9.out.2.2.2.2.2.1
        go_roundg (gk - 1)
        case measure => have := HJ.out; omega
        case rel => exact ⟨j + 1, by have := HJ.out; omega, w64_suc HK9.out.2.2.2.1, fun m hm => HQn.out m hm HM.out, HB1.out⟩
      · have HD : Hid (decide (-z ∈ R) = false) := decide_eq_false hm
        have HM : Hid (-z ∉ R) := hm
        clear hm
        have hrm := HHq.out
        obtain ⟨hw1, hw1'⟩ := w64_add hfr hjb
        obtain ⟨hwq, hwq'⟩ := w64_nat hqb
        obtain ⟨hw2, hw2'⟩ := w64_two hqb
        have HK9 : Hid (N + 2 ≤ cp2 ∧ cp2 ≤ maxLen ∧ f ≤ 4194304 ∧ j ≤ 4194304 ∧ q ≤ 4194304 ∧ N ≤ 2097152 ∧ q < N) := ⟨m1, m2, hfr, hjb, hqb, hNb, hqN⟩
        clear m1 m2 hfr hjb hqb hNb hqN hpos hw1 hw2 hwq
        go_upto_region 6 with fail
        clear hrm hw1' hwq'
        go_wp2_with (go_at_call 69; refine HFd.out.mono ?_; rintro e w1 ⟨rfl, hb⟩; rw [HD.out]; obtain ⟨p1, p2⟩ := HC2.out w1 hb; have HB1 : Hid (Below w.heap.size w w1) := hb; clear hb)
        clear hw2'
        go_ret
        exact ⟨2 + q, ret_int (by first | rfl | omega), (HSt.out w1 HB1.out).resolve_right HM.out⟩
    · obtain rfl : j = N := by omega
      have HE : Hid (ElS B b s V cl un lk fs (inLs n R) R td k 0 w wr) := HCs.out f 0 wr hfr (HZ.out.below HB.out) (Mo.below HB.out) (.inl ⟨rfl, fun m h2 hm => by
        obtain ⟨i, hi, e⟩ := round_all (N := j) (f := f) (j := m - 2) (by have := HNl.out; omega)
        have := HA.out i hi
        rw [e, show 2 + (m - 2) = m by omega] at this
        exact this⟩)
      clear hj hbel
      go_wp2
      go_ret
      exact ⟨0, rfl, HE.out⟩
end
end Go.Proofs.YtjajafeaengnjaaGreatDoor
set_option linter.unusedSimpArgs false
set_option linter.unusedVariables false
namespace Go.Proofs.YtjajafeaengnjaaGreatDoor
open Go Go.RowKit

section
variable {B b : Nat} {s : Sf} {V : List Value} {cl : Fcl} {un : List Nat} {lk : List (Nat × Nat)} {fs : List Nat} {hs : List Bool} {R : List Int} {td n : Nat}
/-- the row cut, and how far it is told -/
theorem Fwz.cutR {W : World} {m : Nat} {u : Value} (h : Fwz B W b s V cl un lk fs hs R td) (hm : m ≤ R.length) (hu : W.ownsRow B 3 1 u m (i64s (R.take m))) (he : u.ownBlock = s.R.ownBlock) :
    Fwz B ((W.setCell ⟨b, 7, none⟩ u).setCell ⟨b, 8, none⟩ (.int .i64 (m : Int))) b { s with R := u } V cl un lk fs hs (R.take m) m ∧ Mo W (s.own V b) ((W.setCell ⟨b, 7, none⟩ u).setCell ⟨b, 8, none⟩ (.int .i64 (m : Int))) (({ s with R := u } : Sf).own V b) := by
  have hg : W.grownBy W s.R.ownBlock := ⟨rfl, rfl, rfl, Nat.le_refl _, fun _ _ _ => rfl⟩
  have hl : (R.take m).length = m := by rw [List.length_take]; omega
  obtain ⟨h1, m1⟩ := h.putR (R' := R.take m) hg (.inl he) (by rw [hl]; exact hu)
  obtain ⟨h2, m2⟩ := h1.setT m
  exact ⟨h2, m1.trans m2⟩
/-- what is left once j of them are taken back -/
def lft (R : List Int) (rest j : Nat) : List Int := R.take rest ++ R.drop (rest + j)
theorem lft_zero (R : List Int) (rest : Nat) : lft R rest 0 = R := by unfold lft; rw [Nat.add_zero, List.take_append_drop]
theorem lft_all (R : List Int) (rest : Nat) (j : Nat) (h : R.length ≤ rest + j) : lft R rest j = R.take rest := by unfold lft; rw [List.drop_of_length_le h, List.append_nil]
theorem inLs_back {rest j i : Nat} (hk : Frk n R) (hn : n ≤ 2097152) (hj : rest + j < R.length) (hi : idx (R.getD (rest + j) 0) = (i : Int)) : (inLs n (lft R rest j)).set i false = inLs n (lft R rest (j + 1)) := by
  have hm := getD_mem0 hj
  have hd : R.drop (rest + j) = R.getD (rest + j) 0 :: R.drop (rest + (j + 1)) := by
    rw [List.drop_eq_getElem_cons hj, List.getD_eq_getElem?_getD, List.getElem?_eq_getElem hj]; rfl
  have hnd := hk.nd
  rw [← List.take_append_drop (rest + j) R, hd] at hnd
  obtain ⟨n1, n2, n3⟩ := List.nodup_append.1 hnd
  have hno1 : R.getD (rest + j) 0 ∉ R.take rest := fun hx => n3 _ (by
    have : R.take rest = (R.take (rest + j)).take rest := by rw [List.take_take]; congr 1; omega
    rw [this] at hx; exact List.mem_of_mem_take hx) _ (List.mem_cons_self ..) rfl
  have hno2 := (List.nodup_cons.1 n2).1
  refine inLs_set hn (hk.f _ hm).1 hi false ?_ fun x hx => ?_
  · exact (decide_eq_false (by unfold lft; rw [List.mem_append]; exact fun h => h.elim hno1 hno2)).symm
  · unfold lft
    rw [hd, List.mem_append, List.mem_append, List.mem_cons]
    constructor
    · rintro (h | h)
      · exact .inl h
      · exact .inr (.inr h)
    · rintro (h | h | h)
      · exact .inl h
      · exact absurd h hx
      · exact .inr h
def BkS (B b : Nat) (s : Sf) (V : List Value) (cl : Fcl) (un : List Nat) (lk : List (Nat × Nat)) (fs : List Nat) (n : Nat) (R : List Int) (w w' : World) : Prop := ∃ u, Fwz B w' b { s with R := u } V cl un lk fs (inLs n R) R R.length ∧ Mo w (s.own V b) w' (({ s with R := u } : Sf).own V b)
set_option maxHeartbeats 1600000 in
theorem fBack_any (rest : Nat) (w : World) (hz : Fwz B w b s V cl un lk fs (inLs n R) R td) (hk : Frk n R) (hn : n ≤ 2097152) (hr : rest ≤ R.length) :
    Calls Tryz.prog 84 #[.pointer (some ⟨b, 1, none⟩), .int .i64 (rest : Int)] w fun e w' => e = .returned (.tuple #[]) ∧ BkS B b s V cl un lk fs n (R.take rest) w w' := by
  have hRl := hk.len
  have hlt : (R.take rest).length = rest := by rw [List.length_take]; omega
  have hlen : (inLs n R).length = n := inLs_len n R
  by_cases hre : rest = R.length
  · have et : R.take rest = R := List.take_of_length_le (by omega)
    obtain ⟨aR, cR, eR⟩ := row_form' hz.r
    have b7 := hz.c7
    have f7 := hz.fz 7
    have b8 := hz.c8
    have f8 := hz.fz 8
    rw [eR] at b7
    have hcR : aR = none ∧ cR = 0 ∧ R.length = 0 ∨ R.length ≤ cR ∧ cR ≤ maxLen := by
      rcases hz.r.2 with ⟨e1, e2⟩ | ⟨g, cap, cur, e1, e2, e3, e4, e5, _⟩
      · rw [eR] at e1; injection e1 with h1 h2 h3; exact .inl ⟨h1, h3, e2⟩
      · rw [eR] at e1; injection e1 with h1 h2 h3; exact .inr ⟨by omega, by omega⟩
    have hcut := hz.cutR (m := R.length) (u := s.R) (Nat.le_refl _) (by rw [List.take_of_length_le (Nat.le_refl _)]; exact hz.r) rfl
    rw [List.take_of_length_le (Nat.le_refl _)] at hcut
    have HF : Hid (BkS B b s V cl un lk fs n (R.take rest) w ((w.setCell ⟨b, 7, none⟩ (.slice aR R.length cR)).setCell ⟨b, 8, none⟩ (.int .i64 (R.length : Int)))) := by
      rw [et, ← eR]; exact ⟨s.R, hcut⟩
    rw [hre] at HF ⊢
    obtain ⟨L, hL⟩ : ∃ L, R.length = L := ⟨_, rfl⟩
    rw [hL] at HF hcR b7 hRl ⊢
    clear hz hk hcut eR et hr hre hlt hlen hL
    rcases hcR with ⟨h1, h2, h3⟩ | ⟨h1, h2⟩
    · subst h1 h2 h3
      go_enter Tryz.func84, Tryz.ntmps84
      go_wp2
      refine wp_loop_rounds 1 ?_
      rw [rounds_succ]
      go_wp2
      go_end0
      exact ⟨rfl, HF.out⟩
    · by_cases hcL : cR = L
      · subst hcL
        go_enter Tryz.func84, Tryz.ntmps84
        go_wp2
        all_goals
          refine wp_loop_rounds 1 ?_
          rw [rounds_succ]
          go_wp2
          go_end0
          exact ⟨rfl, HF.out⟩
      have hL64 : wrap64 ((cR : Int) - (L : Int)) = (cR : Int) - (L : Int) := by unfold maxLen at h2; unfold wrap64; omega
      go_enter Tryz.func84, Tryz.ntmps84
      go_wp2
      all_goals
        refine wp_loop_rounds 1 ?_
        rw [rounds_succ]
        go_wp2
        go_end0
        exact ⟨rfl, HF.out⟩
  · have hrl : rest < R.length := by omega
    obtain ⟨g, cR, eR, r1, r2, r3⟩ := row_some hz.r (by omega)
    have b7 := hz.c7
    rw [eR] at b7
    have HZ : Hid (Fwz B w b s V cl un lk fs (inLs n R) R td) := hz
    have HK : Hid (Frk n R ∧ n ≤ 2097152 ∧ (R.take rest).length = rest) := ⟨hk, hn, hlt⟩
    have HER : Hid (s.R = .slice (some ⟨g, 0, none⟩) R.length cR) := eR
    have hcr : rest < cR := by omega
    have hcm : cR ≤ maxLen := r2
    have hbig : cR ≤ 9223372036854775807 := by unfold maxLen at hcm; omega
    obtain ⟨D, hD⟩ : ∃ D, R.length = rest + D := ⟨R.length - rest, by omega⟩
    have HD : Hid (R.length = rest + D) := hD
    have hDb : D ≤ 2097152 := by omega
    have hRb : rest ≤ 2097152 := by omega
    have hDp : 0 < D := by omega
    have hSt : Hid (Fwz B w b s V cl un lk fs (inLs n (lft R rest 0)) R td) := (by rw [lft_zero]; exact hz : Fwz B w b s V cl un lk fs (inLs n (lft R rest 0)) R td)
    clear hz hk hn hlt hlen hre hr eR hrl hRl
    rw [hD] at b7 r1
    clear hD
    go_enter Tryz.func84, Tryz.ntmps84
    go_wp2
    go_loopg [13] D (fun g' iv wx => ∃ j : Nat, j + g' = D ∧ iv = .int .i64 (j : Int) ∧ Fwz B wx b s V cl un lk fs (inLs n (lft R rest j)) R td ∧ Mo w (s.own V b) wx (s.own V b))
    case atStart => exact ⟨0, by omega, rfl, hSt.out, Mo.refl _ _⟩
    case round =>
      obtain ⟨j, hj, rfl, hz, hmo⟩ := hrel
      have HJ : Hid (j + gk = D) := hj
      have hmoH : Hid (Mo w (s.own V b) wr (s.own V b)) := hmo
      have rR := hz.r
      rw [HER.out] at rR
      by_cases hlt : j < D
      · have hjl : rest + j < R.length := by have := HD.out; omega
        have kR := row_cell rR (j := rest + j) (x := .int .i64 (R.getD (rest + j) 0)) (by unfold i64s; rw [List.getElem?_map, List.getD_eq_getElem?_getD, List.getElem?_eq_getElem hjl]; rfl)
        have hfm := HK.out.1.f _ (getD_mem0 hjl)
        obtain ⟨i, hi⟩ := idx_nat hfm.1
        have hin : i < n := by have := hfm.2; omega
        have hlen : (inLs n (lft R rest j)).length = n := inLs_len n _
        obtain ⟨gH, cH, eH, h1, h2, h3⟩ := row_some hz.h (by omega)
        have b6 := hz.c6
        have rH := hz.h
        have hset := hz.setH eH (k := i) (by omega) false
        rw [inLs_back HK.out.1 HK.out.2.1 hjl hi] at hset
        rw [eH] at b6 rH
        have kH := row_cell rH (j := i) (x := .bool ((inLs n (lft R rest j))[i]'(by omega))) (by rw [List.getElem?_map, List.getElem?_eq_getElem (by omega)]; rfl)
        have zH := row_fz rH i
        generalize (inLs n (lft R rest j))[i]'(by omega) = z0 at *
        rw [hlen] at b6 h1
        have HS : Hid (Fwz B (wr.setCell ⟨gH, i, none⟩ (.bool false)) b s V cl un lk fs (inLs n (lft R rest (j + 1))) R td ∧ Mo wr (s.own V b) (wr.setCell ⟨gH, i, none⟩ (.bool false)) (s.own V b)) := hset
        have HI : Hid (idx (R.getD (rest + j) 0) = (i : Int)) := hi
        generalize R.getD (rest + j) 0 = l at *
        clear hset hz hmo rR rH eH hfm hi hlen hjl hj
        go_upto_region 3 with fail
        go_region_law (go_simp; go_at_call 60; refine (index_any _ _).mono ?_; intro e w9 hh; rw [hh.1, hh.2, HI.out]; clear hh e w9; dsimp only)
        all_goals
          have q2 := HS.out.1.below (Below.refl _ _).drew
          have m2 := (hmoH.out.trans HS.out.2).trans (Mo.below (Below.refl _ _).drew)
          generalize ((wr.setCell ⟨gH, i, none⟩ (.bool false))).drew = w2 at *
          have HQ2 : Hid (Fwz B w2 b s V cl un lk fs (inLs n (lft R rest (j + 1))) R td ∧ Mo w (s.own V b) w2 (s.own V b)) := ⟨q2, m2⟩
          clear q2 m2
          go_wp2
          go_roundg (gk - 1)
          case measure => have := HJ.out; omega
          case rel => exact ⟨j + 1, by have := HJ.out; omega, by go_num, HQ2.out.1, HQ2.out.2⟩
      · obtain rfl : j = D := by omega
        have e7 := hz.c7
        have f7 := hz.fz 7
        have f8 := hz.fz 8
        have e8 := hz.c8
        have hcut := hz.cutR (m := rest) (u := .slice (some ⟨g, 0, none⟩) rest cR) (by have := HD.out; omega) (by have := own_cut rR (m := rest) (by have := HD.out; omega); rw [Nat.mul_one] at this; unfold i64s at this ⊢; rw [List.map_take]; exact this) (by rw [HER.out]; rfl)
        rw [lft_all R rest j (by have := HD.out; omega)] at hcut
        have hr2 := hcut.1
        have HF : Hid (BkS B b s V cl un lk fs n (R.take rest) w ((wr.setCell ⟨b, 7, none⟩ (.slice (some ⟨g, 0, none⟩) rest cR)).setCell ⟨b, 8, none⟩ (.int .i64 (rest : Int)))) := ⟨_, by rw [HK.out.2.2]; exact hcut.1, hmo.trans hcut.2⟩
        rw [HER.out, HD.out] at e7
        clear hz hmo hcut hr2 rR hj hlt
        go_wp2
        go_end0
        exact ⟨rfl, HF.out⟩
end
end Go.Proofs.YtjajafeaengnjaaGreatDoor
set_option linter.unusedSimpArgs false
set_option linter.unusedVariables false
namespace Go.Proofs.YtjajafeaengnjaaGreatDoor
open Go Go.RowKit

/-- is it true? -/
theorem oTrue_z (B : Nat) (b : Nat) (s : Sy) (n N : Nat) (L E : List Int) (F : List Nat) (P : List (Nat × Nat)) (M : List Int) (R : List Nat) (l : Int) (w : World) (hz : Oz B w b s n N (inLs n L) E F P M R) (hn : n ≤ 2097152) (hf : fmd l = true) (hl : idx l < n) :
    Calls Tryz.prog 134 #[.pointer (some ⟨b, 0, none⟩), .int .i64 l] w fun e w' => e = .returned (.bool (decide (l ∈ L))) ∧ Below w.heap.size w w' := by
  obtain ⟨i, hi⟩ : ∃ i : Nat, idx l = i := ⟨(idx l).toNat, by have := idx_range hf; omega⟩
  have hin : i < n := by omega
  obtain ⟨g, c, ei, k1, k2, k3⟩ := row_some hz.i (by omega)
  have c1 := hz.c1
  have hrow := hz.i
  rw [ei] at c1 hrow
  have hc := row_cell hrow (j := i) (x := .bool (decide (l ∈ L))) (by rw [List.getElem?_map, inLs_at hf hi hin]; rfl)
  have HI : Hid (idx l = i) := hi
  clear hz ei hrow hi hl
  generalize decide (l ∈ L) = z at *
  go_enter Tryz.func134, Tryz.ntmps134
  go_upto_region 1 with fail
  go_region_law (go_simp; go_at_call 60; refine (index_any _ _).mono ?_; intro e w9 hh; rw [hh.1, hh.2, HI.out]; clear hh e w9; dsimp only)
  all_goals
    go_wp2
    go_ret
    exact ⟨rfl, (Below.refl _ _).drew⟩
theorem oTrue_any (w0 : World) (b : Nat) (s : Sy) (n : Nat) (css : List (List Int)) (K M : List Int) (R : List Nat) (l : Int) (w : World) (h : Ow w0 w b s n css K M R) (hf : fmd l = true) (hl : idx l < n) :
    Calls Tryz.prog 134 #[.pointer (some ⟨b, 0, none⟩), .int .i64 l] w fun e w' => e = .returned (.bool (decide (l ∈ K ++ M))) ∧ Below w.heap.size w w' := by
  obtain ⟨F, P, hz, -⟩ := h.z
  exact oTrue_z _ b s n _ (K ++ M) _ F P M R l w hz h.fit.hn hf hl
end Go.Proofs.YtjajafeaengnjaaGreatDoor
