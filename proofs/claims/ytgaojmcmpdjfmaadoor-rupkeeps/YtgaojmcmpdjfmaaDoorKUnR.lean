/-
  unit: run.
  KEEP: set on app at below new trans refl start ap kept rd rds mono lt add none own nil put len pos setF setV putL putR other neV same_any
-/
import Derived.Test.YtgaojmcmpdjfmaaDoorJUnT
import Derived.Test.YtgaojmcmpdjfmaaDoorKAppK
import Derived.WalkMore
import Derived.Deep.LoopGhost
set_option linter.unusedSimpArgs false
set_option linter.unusedVariables false
namespace Go.Proofs.YtgaojmcmpdjfmaaDoor
open Go Go.RowKit

/-- how much there is to do -/
def mes (css : List (List Int)) (L : List Int) : Nat := (css.flatten.filter fun x => decide (x ∉ L)).length
def qn (N : Nat) (Q : Nat → Bool) : Nat := ((List.range N).filter Q).length
def mea (css : List (List Int)) (L : List Int) (Q : Nat → Bool) : Nat := mes css L * (css.length + 1) + qn css.length Q
theorem qn_le (N : Nat) (Q : Nat → Bool) : qn N Q ≤ N := Nat.le_trans (List.length_filter_le _ _) (by simp)
theorem filter_lt {α : Type} {p q : α → Bool} : ∀ {l : List α} {x : α}, (∀ y ∈ l, q y = true → p y = true) → x ∈ l → p x = true → q x = false → (l.filter q).length < (l.filter p).length
  | [], x, _, h, _, _ => by simp at h
  | y :: r, x, hpq, hx, hp, hq => by
    have hle : (r.filter q).length ≤ (r.filter p).length := by
      clear hx
      induction r with
      | nil => simp
      | cons z r ih =>
        have ih := ih fun y hy => hpq y (by rcases List.mem_cons.1 hy with e | e
                                            · exact List.mem_cons.2 (.inl e)
                                            · exact List.mem_cons.2 (.inr (List.mem_cons_of_mem _ e)))
        have hz := hpq z (by simp)
        rw [List.filter_cons, List.filter_cons]
        cases h1 : q z
        · cases h2 : p z
          · simpa using ih
          · simp; omega
        · rw [hz h1]; simp; omega
    rcases List.mem_cons.1 hx with e | e
    · subst e
      rw [List.filter_cons, List.filter_cons, if_pos hp, if_neg (by rw [hq]; simp)]
      simp; omega
    · have ih := filter_lt (fun y hy => hpq y (List.mem_cons_of_mem _ hy)) e hp hq
      have hy := hpq y (by simp)
      rw [List.filter_cons, List.filter_cons]
      cases h1 : q y
      · cases h2 : p y
        · simpa using ih
        · simp; omega
      · rw [hy h1]; simp; omega
theorem mea_skip {css : List (List Int)} {L : List Int} {Q : Nat → Bool} {k : Nat} (hk : k < css.length) (hq : Q k = true) : mea css L (qdel Q k) < mea css L Q := by
  have : qn css.length (qdel Q k) < qn css.length Q := filter_lt (x := k) (fun y _ hy => (qdel_at.1 hy).1) (List.mem_range.2 hk) hq (by simp [qdel])
  unfold mea; omega
theorem mea_put {css : List (List Int)} {L : List Int} {Q Q' : Nat → Bool} {k : Nat} {l : Int} (hk : k < css.length) (hl : l ∈ css.getD k []) (hL : l ∉ L) : mea css (L ++ [l]) Q' < mea css L Q := by
  have h1 : mes css (L ++ [l]) < mes css L := filter_lt (x := l) (fun y _ hy => by
    rw [decide_eq_true_eq] at hy ⊢
    exact fun h2 => hy (List.mem_append.2 (.inl h2))) (List.mem_flatten.2 ⟨_, getD_in hk, hl⟩) (decide_eq_true hL) (by simp)
  have h2 := qn_le css.length Q'
  unfold mea
  have h3 : (mes css (L ++ [l]) + 1) * (css.length + 1) ≤ mes css L * (css.length + 1) := Nat.mul_le_mul_right _ h1
  rw [Nat.succ_mul] at h3
  omega
theorem Pth.new {css : List (List Int)} : ∀ {L : List Int} {cs : List (Int × Nat)}, Pth css L cs → (cs.map Prod.fst).Nodup ∧ (∀ x ∈ cs.map Prod.fst, x ∉ L) ∧ (∀ x ∈ cs.map Prod.fst, ∃ c ∈ css, x ∈ c)
  | L, [], _ => ⟨by simp, by simp, by simp⟩
  | L, c :: cs, h => by
    obtain ⟨h1, h2, h3⟩ := Pth.new h.2.2
    obtain ⟨u1, u2, u3, u4⟩ := h.1.unit h.2.1
    rw [List.map_cons]
    refine ⟨List.nodup_cons.2 ⟨fun h4 => h2 _ h4 (by simp), h1⟩, fun x hx => ?_, fun x hx => ?_⟩
    · rcases List.mem_cons.1 hx with e | e
      · subst e; exact u3
      · exact fun h5 => h2 x e (List.mem_append.2 (.inl h5))
    · rcases List.mem_cons.1 hx with e | e
      · subst e; exact ⟨_, getD_in h.1.lt, u1⟩
      · exact h3 x e
theorem lits_few {zs : List Int} (hn : zs.Nodup) (hf : ∀ x ∈ zs, fmd x = true) : zs.length ≤ 2097152 := by
  have : zs.length = (tid zs).length := nodup_len6 hn ((tid_rising zs).imp (fun h => by intro e; subst e; omega)) fun x => by
    rw [mem_tid]; exact ⟨fun h => ⟨h, hf x h⟩, fun h => h.1⟩
  rw [this]; exact tid_len zs
theorem Pth.few {css : List (List Int)} {L : List Int} {cs : List (Int × Nat)} {n : Nat} (h : Pth css L cs) (hf : Fit css n) : cs.length ≤ 2097152 := by
  obtain ⟨h1, h2, h3⟩ := h.new
  have := lits_few h1 fun x hx => by obtain ⟨c, hc, hxc⟩ := h3 x hx; exact (hf.lit c hc x hxc).1
  simpa using this
theorem Pth.snocL {css : List (List Int)} {L : List Int} {cs : List (Int × Nat)} {k : Nat} {l : Int} : L ++ (cs ++ [(l, k)]).map Prod.fst = (L ++ cs.map Prod.fst) ++ [l] := by simp
theorem twc_snoc (cs : List (Int × Nat)) (l : Int) (k : Nat) : twc (cs ++ [(l, k)]) = twc cs ++ [.int .i64 l, .int .i64 (k : Int)] := by simp [twc]
/-- what run answers -/
structure Ran (w0 w : World) (b : Nat) (s : Sz) (n : Nat) (css : List (List Int)) (L : List Int) (cs0 : List (Int × Nat)) (W : World) (cs : List (Int × Nat)) (Q : Nat → Bool) (u : Value) : Prop where
  pth : Pth css L cs
  cw : Cw w0 W b { s with S := u } n css (L ++ cs.map Prod.fst) Q (cs0 ++ cs)
  mo : Mo w (s.own b) W (({ s with S := u } : Sz).own b)
theorem Ran.below {w0 w : World} {b : Nat} {s : Sz} {n : Nat} {css : List (List Int)} {L : List Int} {cs0 : List (Int × Nat)} {W W' : World} {cs : List (Int × Nat)} {Q : Nat → Bool} {u : Value} (h : Ran w0 w b s n css L cs0 W cs Q u) (hb : Below W.heap.size W W') : Ran w0 w b s n css L cs0 W' cs Q u := ⟨h.pth, h.cw.below hb, h.mo.trans (Mo.below hb)⟩
/-- a clause, as far as it was looked at -/
def Sc (L c : List Int) (j : Nat) (o : Int) : Prop := (∀ m ∈ c.take j, m ∉ L) ∧ ((o = 0 ∧ ∀ m ∈ c.take j, -m ∈ L) ∨ (o ≠ 0 ∧ o ∈ c.take j ∧ -o ∉ L))
theorem Sc.start (L c : List Int) : Sc L c 0 0 := ⟨by simp, .inl ⟨rfl, by simp⟩⟩
theorem mem_take_more {c : List Int} {j : Nat} (hj : j < c.length) {x : Int} : x ∈ c.take (j + 1) ↔ x ∈ c.take j ∨ x = c.getD j 0 := by
  rw [List.take_succ_eq_append_getElem hj, List.mem_append, List.mem_singleton, List.getD_eq_getElem?_getD, List.getElem?_eq_getElem hj]; rfl
theorem Sc.no {L c : List Int} {j : Nat} {o : Int} (h : Sc L c j o) (hj : j < c.length) (h1 : c.getD j 0 ∉ L) (h2 : -(c.getD j 0) ∈ L) : Sc L c (j + 1) o := by
  refine ⟨fun m hm => ?_, ?_⟩
  · rcases (mem_take_more hj).1 hm with a | a
    · exact h.1 m a
    · rw [a]; exact h1
  · rcases h.2 with ⟨a, b⟩ | ⟨a, b, d⟩
    · refine .inl ⟨a, fun m hm => ?_⟩
      rcases (mem_take_more hj).1 hm with e | e
      · exact b m e
      · rw [e]; exact h2
    · exact .inr ⟨a, (mem_take_more hj).2 (.inl b), d⟩
theorem Sc.yes {L c : List Int} {j : Nat} {o : Int} (h : Sc L c j o) (hj : j < c.length) (h0 : c.getD j 0 ≠ 0) (h1 : c.getD j 0 ∉ L) (h2 : -(c.getD j 0) ∉ L) : Sc L c (j + 1) (c.getD j 0) := by
  refine ⟨fun m hm => ?_, .inr ⟨h0, (mem_take_more hj).2 (.inr rfl), h2⟩⟩
  rcases (mem_take_more hj).1 hm with a | a
  · exact h.1 m a
  · rw [a]; exact h1

theorem Tryd.infoCause : (Tryd.prog.info? 81).map (fun i => (i.zero, i.size, i.bytes)) = some (some (.agg #[.int .i64 0, .int .i64 0]), 2, 16) := by kernel_rfl

set_option maxHeartbeats 4000000 in
theorem uRun_any (w0 : World) (b : Nat) (s : Sz) (n : Nat) (css : List (List Int)) (L : List Int) (Q : Nat → Bool) (cs0 : List (Int × Nat)) (w : World) (h : Cw w0 w b s n css L Q cs0) (hr : Rds w0 s.C css) (hc : Con L) (hi : Inv css L Q) (hD : Deb w0) (h0 : cs0.length ≤ 2097152) :
    Calls Tryd.prog 49 #[.pointer (some ⟨b, 0, none⟩)] w fun e w' => ∃ e0 cs Q' u, e = .returned (.int .i64 e0) ∧ Clo css L cs e0 ∧ Ran w0 w b s n css L cs0 w' cs Q' u ∧ (e0 = -1 → ∀ k, Q' k = false) := by
  have HR : Hid (Rds w0 s.C css) := hr
  have HC : Hid (Con L ∧ Deb w0 ∧ cs0.length ≤ 2097152 ∧ Fit css n) := ⟨hc, hD, h0, h.fit⟩
  have H0 : Hid (Ran w0 w b s n css L cs0 w [] Q s.S ∧ Inv css L Q) := ⟨⟨trivial, by simpa using h, Mo.refl _ _⟩, hi⟩
  obtain ⟨ac, cc, eC, l1, l2, hAT⟩ := hr.form
  have HEC : Hid (s.C = .slice ac css.length cc) := eC
  have hN := h.fit.num
  clear h hr hc hi hD h0 eC
  go_enter Tryd.func49, Tryd.ntmps49
  go_wp2
  go_step3
  go_wp2
  go_step3
  go_wp2
  go_loopg [] (mea css L Q) (fun g wr => ∃ cs Q' u, g = mea css (L ++ cs.map Prod.fst) Q' ∧ Ran w0 w b s n css L cs0 wr cs Q' u ∧ Inv css (L ++ cs.map Prod.fst) Q')
  case atStart => exact ⟨[], Q, s.S, by simp, H0.out.1, by simpa using H0.out.2⟩
  case round =>
    obtain ⟨cs, Q', u, hg, hran, hinv⟩ := hrel
    have HInv : Hid (Inv css (L ++ cs.map Prod.fst) Q') := hinv
    clear hinv
    have HG : Hid (gk = mea css (L ++ cs.map Prod.fst) Q') := hg
    have HRan : Hid (Ran w0 w b s n css L cs0 wr cs Q' u) := hran
    clear hg
    obtain ⟨F, P, hz, -⟩ := hran.cw.z
    have b5 := hz.c5
    have hwq := hz.w
    have hbel := hran.cw.bel
    have HD : Hid (Deb wr) := HC.out.2.1.below hbel
    clear hran hz
    by_cases hem : emp Q' = true
    · have HF : Hid (∀ k, Q' k = false) := (emp_iff Q').1 hem
      go_wp2_with fail
      refine (wNone_any _ _ _ _ _ wr hwq).mono ?_
      rintro e w1 ⟨rfl, hw1⟩
      obtain rfl : wr = w1 := hw1.symm
      rw [hem]
      clear hw1
      have HFin : Hid (∃ e0 cs Q' u, (-1 : Int) = e0 ∧ Clo css L cs e0 ∧ Ran w0 w b s n css L cs0 wr cs Q' u ∧ (e0 = -1 → ∀ k, Q' k = false)) := ⟨-1, cs, Q', u, rfl, ⟨HRan.out.pth, .inl ⟨rfl, HInv.out.calm HF.out⟩⟩, HRan.out, fun _ => HF.out⟩
      go_wp2
      rw [Exit.noGoto_ret]
      go_ret
      obtain ⟨e0, cs, Q', u, rfl, r⟩ := HFin.out
      exact ⟨_, cs, Q', u, rfl, r⟩
    · have hem : emp Q' = false := by simpa using hem
      obtain ⟨k, hk, hle⟩ := has_least (fun h2 => by have := (emp_iff Q').2 h2; rw [hem] at this; cases this)
      have HK : Hid (Q' k = true ∧ ∀ j, Q' j = true → k ≤ j) := ⟨hk, hle⟩
      have hkN : k < css.length := (HInv.out.sub k hk).1
      go_wp2_with fail
      refine (wNone_any _ _ _ _ _ wr hwq).mono ?_
      rintro e w1 ⟨rfl, hw1⟩
      obtain rfl : wr = w1 := hw1.symm
      rw [hem]
      clear hw1
      go_wp2_with fail
      refine (wTake_any _ _ _ _ _ k wr hwq hk hle (by omega) HD.out).mono ?_
      rintro e w1 ⟨rfl, hw1, hm1⟩
      have HS1 : Hid (Cw w0 w1 b { s with S := u } n css (L ++ cs.map Prod.fst) (qdel Q' k) (cs0 ++ cs) ∧ Mo w (s.own b) w1 (({ s with S := u } : Sz).own b)) := by
        obtain ⟨F, P, hz, hp⟩ := HRan.out.cw.z
        obtain ⟨z1, m1⟩ := hz.putW hw1 hm1
        exact ⟨⟨Mo.bel HRan.out.cw.bel (fun k hk => (HRan.out.cw.lt k hk).1) m1, HRan.out.cw.fit, F, P, z1, hp⟩, HRan.out.mo.trans m1⟩
      clear hw1 hm1 hwq b5 HD hbel hk hle hem
      obtain ⟨F, P, hz, -⟩ := HS1.out.1.z
      have b0 := hz.c0
      clear hz
      have b0' : w1.cell? ⟨b, 0, none⟩ = some (.slice ac css.length cc) := b0.trans (congrArg some HEC.out)
      clear b0
      obtain ⟨bC, oC, uC, rfl, kC, hrd⟩ := hAT k hkN
      have kC1 : w1.cell? ⟨bC, oC + k, none⟩ = some uC := (HS1.out.1.bel.cell (p := ⟨bC, oC + k, none⟩) (World.block_lt_of_cell? w0 _ kC)).trans kC
      have hcm := getD_in hkN
      have hclen : (css.getD k []).length ≤ 1073741824 := HC.out.2.2.2.len _ hcm
      have HLit : Hid (∀ m ∈ css.getD k [], fmd m = true ∧ idx m < n) := HC.out.2.2.2.lit _ hcm
      have HKN : Hid (k < css.length) := hkN
      obtain ⟨ax, cx, rfl, x1, x2, hcx⟩ := hrd.form
      have HCX : Hid (∀ (W : World) (j : Nat), Below w0.heap.size w0 W → j < (css.getD k []).length → ∃ bb off, ax = some ⟨bb, off, none⟩ ∧ W.cell? ⟨bb, off + j, none⟩ = some (.int .i64 ((css.getD k []).getD j 0))) := fun W j hW hj => by
        obtain ⟨bb, off, e, hc⟩ := hcx j hj
        exact ⟨bb, off, e, (hW.cell (p := ⟨bb, off + j, none⟩) (World.block_lt_of_cell? w0 _ hc)).trans hc⟩
      have HLL : Hid (L ++ cs.map Prod.fst = L ++ cs.map Prod.fst) := rfl
      clear hrd hcx hcm kC
      generalize hcc : css.getD k [] = c at *
      have HCC : Hid (css.getD k [] = c) := hcc
      clear hcc HLL
      go_wp2
      go_loopg [4, 26] c.length (fun g o' j' wx => ∃ (j : Nat) (o : Int), j + g = c.length ∧ o' = .int .i64 o ∧ j' = .int .i64 j ∧ Sc (L ++ cs.map Prod.fst) c j o ∧ Cw w0 wx b { s with S := u } n css (L ++ cs.map Prod.fst) (qdel Q' k) (cs0 ++ cs) ∧ Mo w (s.own b) wx (({ s with S := u } : Sz).own b))
      case atStart => exact ⟨0, 0, by omega, rfl, rfl, Sc.start _ _, HS1.out.1, HS1.out.2⟩
      case round =>
        obtain ⟨j, o, hj, rfl, rfl, hsc, hcw, hmo⟩ := hrel
        have HJ : Hid (j + gk = c.length) := hj
        have HSc : Hid (Sc (L ++ cs.map Prod.fst) c j o) := hsc
        have HCw : Hid (Cw w0 wr b { s with S := u } n css (L ++ cs.map Prod.fst) (qdel Q' k) (cs0 ++ cs) ∧ Mo w (s.own b) wr (({ s with S := u } : Sz).own b)) := ⟨hcw, hmo⟩
        clear hj hsc hcw hmo b0' kC1
        by_cases hlt : j < c.length
        · obtain ⟨bb, off, rfl, kc⟩ := HCX.out wr j HCw.out.1.bel hlt
          have hm := HLit.out (c.getD j 0) (getD_mem' hlt)
          have HMem : Hid (c.getD j 0 ∈ c) := getD_mem' hlt
          generalize hme : c.getD j 0 = m at *
          have HME : Hid (c.getD j 0 = m) := hme
          have HLT : Hid (j < c.length) := hlt
          have hmr := fmd_range hm.1
          have hwn : IntKind.i64.wrap (-m) = -m := by rw [IntKind.wrap_i64]; omega
          have HM : Hid (fmd m = true ∧ idx m < n) := hm
          have HMn : Hid (fmd (-m) = true ∧ idx (-m) < n) := ⟨fmd_neg hm.1, idx_neg_lt hm.1 HC.out.2.2.2.ev hm.2⟩
          clear hm hme
          go_wp2_with fail
          refine (uHolds_any w0 b { s with S := u } n css (L ++ cs.map Prod.fst) (qdel Q' k) (cs0 ++ cs) m wr HCw.out.1 HM.out.1 HM.out.2).mono ?_
          rintro e w2 ⟨rfl, bel2⟩
          have HC2 : Hid (Cw w0 w2 b { s with S := u } n css (L ++ cs.map Prod.fst) (qdel Q' k) (cs0 ++ cs) ∧ Mo w (s.own b) w2 (({ s with S := u } : Sz).own b)) := ⟨HCw.out.1.below bel2, HCw.out.2.trans (Mo.below bel2)⟩
          clear bel2 kc
          by_cases hin : m ∈ L ++ cs.map Prod.fst
          · have hd : decide (m ∈ L ++ cs.map Prod.fst) = true := decide_eq_true hin
            rw [hd]
            have HT : Hid (∃ m ∈ css.getD k [], m ∈ L ++ cs.map Prod.fst) := by rw [HCC.out]; exact ⟨_, HMem.out, hin⟩
            clear hd hin
            go_wp2
            go_roundg (mea css (L ++ cs.map Prod.fst) (qdel Q' k))
            case measure => rw [HG.out]; exact mea_skip HKN.out HK.out.1
            case rel => exact ⟨cs, qdel Q' k, u, rfl, ⟨HRan.out.pth, HC2.out.1, HC2.out.2⟩, HInv.out.skip HT.out⟩
          · have hd : decide (m ∈ L ++ cs.map Prod.fst) = false := decide_eq_false hin
            rw [hd]
            have HIn : Hid (m ∉ L ++ cs.map Prod.fst) := hin
            clear hd hin
            go_wp2_with fail
            refine (uHolds_any w0 b { s with S := u } n css (L ++ cs.map Prod.fst) (qdel Q' k) (cs0 ++ cs) (-m) w2 HC2.out.1 HMn.out.1 HMn.out.2).mono ?_
            rintro e w3 ⟨rfl, bel3⟩
            have HC3 : Hid (Cw w0 w3 b { s with S := u } n css (L ++ cs.map Prod.fst) (qdel Q' k) (cs0 ++ cs) ∧ Mo w (s.own b) w3 (({ s with S := u } : Sz).own b)) := ⟨HC2.out.1.below bel3, HC2.out.2.trans (Mo.below bel3)⟩
            clear bel3
            by_cases hin : -m ∈ L ++ cs.map Prod.fst
            · have hd : decide (-m ∈ L ++ cs.map Prod.fst) = true := decide_eq_true hin
              rw [hd]
              have HS : Hid (Sc (L ++ cs.map Prod.fst) c (j + 1) o) := HSc.out.no HLT.out (by rw [HME.out]; exact HIn.out) (by rw [HME.out]; exact hin)
              clear hd hin
              go_wp2
              go_roundg (gk - 1)
              case measure => have := HJ.out; have := HLT.out; omega
              case rel => exact ⟨j + 1, o, by have := HJ.out; have := HLT.out; omega, rfl, by go_num, HS.out, HC3.out.1, HC3.out.2⟩
            · have hd : decide (-m ∈ L ++ cs.map Prod.fst) = false := decide_eq_false hin
              rw [hd]
              have HS : Hid (Sc (L ++ cs.map Prod.fst) c (j + 1) m) := by
                have := HSc.out.yes HLT.out (by rw [HME.out]; exact hmr.1) (by rw [HME.out]; exact HIn.out) (by rw [HME.out]; exact hin)
                rw [HME.out] at this
                exact this
              clear hd hin
              go_wp2
              go_roundg (gk - 1)
              case measure => have := HJ.out; have := HLT.out; omega
              case rel => exact ⟨j + 1, m, by have := HJ.out; have := HLT.out; omega, rfl, by go_num, HS.out, HC3.out.1, HC3.out.2⟩
        · have hje : j = c.length := by have := HJ.out; omega
          have hsc := HSc.out
          unfold Sc at hsc
          rw [hje, List.take_length] at hsc
          obtain ⟨hno, ho⟩ := hsc
          clear hje
          rcases ho with ⟨rfl, hall⟩ | ⟨ho0, hoc, hon⟩
          · have HA : Hid (At css (L ++ cs.map Prod.fst) k 0) := HInv.out.fls HK.out.1 HK.out.2 (by rw [HCC.out]; exact hno) (by rw [HCC.out]; exact hall)
            clear hno hall
            have HFin : Hid (∃ e0 cs Q' u, (k : Int) = e0 ∧ Clo css L cs e0 ∧ Ran w0 w b s n css L cs0 wr cs Q' u ∧ (e0 = -1 → ∀ k, Q' k = false)) := ⟨k, cs, qdel Q' k, u, rfl, ⟨HRan.out.pth, .inr ⟨k, rfl, HA.out⟩⟩, ⟨HRan.out.pth, HCw.out.1, HCw.out.2⟩, fun h2 => by omega⟩
            go_wp2
            rw [Exit.noGoto_ret]
            go_ret
            obtain ⟨e0, cs, Q', u, rfl, r⟩ := HFin.out
            exact ⟨_, cs, Q', u, rfl, r⟩
          · have HA : Hid (At css (L ++ cs.map Prod.fst) k o) := HInv.out.unit HK.out.1 HK.out.2 (by rw [HCC.out]; exact hno) (by rw [HCC.out]; exact hoc) hon
            have HO : Hid (o ∈ css.getD k [] ∧ -o ∉ L ++ cs.map Prod.fst ∧ o ∉ L ++ cs.map Prod.fst ∧ fmd o = true) := ⟨by rw [HCC.out]; exact hoc, hon, hno o hoc, (HLit.out o hoc).1⟩
            have ho1 : (o == 0) = false := by simpa using ho0
            have HO0 : Hid (o ≠ 0) := ho0
            clear hno hoc hon
            go_wp2_with fail
            refine (uPut_any w0 b _ n css _ _ _ o wr HCw.out.1 HO.out.2.2.2).mono ?_
            rintro e w2 ⟨rfl, Q2, hc2, hn2, hm2⟩
            have HC2 : Hid (Cw w0 w2 b { s with S := u } n css (L ++ cs.map Prod.fst ++ [o]) Q2 (cs0 ++ cs) ∧ Mo w (s.own b) w2 (({ s with S := u } : Sz).own b) ∧ Inv css (L ++ cs.map Prod.fst ++ [o]) Q2) := ⟨hc2, HCw.out.2.trans hm2, HInv.out.took HO.out.1 hn2⟩
            clear hc2 hn2 hm2
            obtain ⟨F, P, hz, hp⟩ := HC2.out.1.z
            have b6 := hz.c6
            have z6 := hz.fz 6
            have HZ : Hid (Cz w0.heap.size w2 b { s with S := u } n css.length (inLs n (L ++ cs.map Prod.fst ++ [o])) (lefts css (L ++ cs.map Prod.fst ++ [o])) F P Q2 (cs0 ++ cs) ∧ Pls css n F P ∧ P.length ≤ 2147483648) := ⟨hz, hp⟩
            obtain ⟨aS, cS, eS⟩ := row_form' hz.c
            have eS : u = .slice aS (cs0 ++ cs).length cS := eS
            have HES : Hid (u = .slice aS (cs0 ++ cs).length cS) := eS
            have b6 : w2.cell? ⟨b, 6, none⟩ = some u := b6
            have hlen : (cs0 ++ cs).length ≤ 4194304 := by rw [List.length_append]; have h1 := HC.out.2.2.1; have h2 := HRan.out.pth.few HC.out.2.2.2; omega
            have HLen : Hid ((cs0 ++ cs).length ≤ 4194304) := hlen
            clear hz hp eS hlen
            obtain ⟨iC, hiC, hC⟩ : ∃ i, Tryd.prog.info? 81 = some i ∧ (i.zero, i.size, i.bytes) = (some (.agg #[.int .i64 0, .int .i64 0]), 2, 16) := by
              have := Tryd.infoCause
              cases hh : Tryd.prog.info? 81 with
              | none => rw [hh] at this; simp at this
              | some i => rw [hh] at this; exact ⟨i, rfl, by simpa using this⟩
            have hC0 : iC.zero = some (.agg #[.int .i64 0, .int .i64 0]) := congrArg (fun p => p.1) hC
            have hC1 : iC.size = 2 := congrArg (fun p => p.2.1) hC
            have hC2 : iC.bytes = 16 := congrArg (fun p => p.2.2) hC
            have HI : Hid (Tryd.prog.info? 81 = some iC ∧ iC.zero = some (.agg #[.int .i64 0, .int .i64 0]) ∧ iC.size = 2 ∧ iC.bytes = 16) := ⟨hiC, hC0, hC1, hC2⟩
            clear hiC hC hC0 hC1 hC2
            subst eS
            have HB2 : Hid (∀ j x, #[Value.int .i64 o, Value.int .i64 (k : Int)].toList[j]? = some x → (w2.alloc (.cells #[.int .i64 o, .int .i64 (k : Int)] 81)).cell? ((⟨w2.heap.size, 0, none⟩ : Addr).add j) = some x) := fun j x hx => by
              rw [Addr.add_lit]
              have hh := World.alloc_heap_new w2 (.cells #[.int .i64 o, .int .i64 (k : Int)] 81)
              show (match (w2.alloc (.cells #[.int .i64 o, .int .i64 (k : Int)] 81)).heap[w2.heap.size]? with | some (Obj.cells c elem frozen) => c[0 + j]? | x => none) = _
              rw [hh]
              simpa using hx
            have HZ2 : Hid (Cz w0.heap.size (w2.alloc (.cells #[.int .i64 o, .int .i64 (k : Int)] 81)) b { s with S := .slice aS (cs0 ++ cs).length cS } n css.length (inLs n (L ++ cs.map Prod.fst ++ [o])) (lefts css (L ++ cs.map Prod.fst ++ [o])) F P Q2 (cs0 ++ cs) ∧ Mo w (s.own b) (w2.alloc (.cells #[.int .i64 o, .int .i64 (k : Int)] 81)) (({ s with S := .slice aS (cs0 ++ cs).length cS } : Sz).own b) ∧ w0.heap.size ≤ (w2.alloc (.cells #[.int .i64 o, .int .i64 (k : Int)] 81)).heap.size) := ⟨HZ.out.1.below (below_box _ _), HC2.out.2.1.trans (Mo.below (below_box _ _)), Nat.le_trans HC2.out.1.bel.size (below_box _ _).size⟩
            have hl63 : (cs0 ++ cs).length + 1 ≤ maxLen := by have := HLen.out; unfold maxLen; omega
            have hl48 : ((cs0 ++ cs).length + 1) * 16 ≤ 140737488355328 := by have := HLen.out; omega
            have HRow : Hid ((w2.alloc (.cells #[.int .i64 o, .int .i64 (k : Int)] 81)).ownsRow w0.heap.size 81 2 (.slice aS (cs0 ++ cs).length cS) (cs0 ++ cs).length (twc (cs0 ++ cs))) := HZ2.out.1.c
            have HPut : Hid (∀ v8 w8, w8.ownsRow w0.heap.size 81 2 v8 ((cs0 ++ cs).length + 1) (twc (cs0 ++ cs) ++ [.int .i64 o, .int .i64 (k : Int)]) → Ap (w2.alloc (.cells #[.int .i64 o, .int .i64 (k : Int)] 81)) (.slice aS (cs0 ++ cs).length cS) w8 v8 →
                (∃ a8 c8, v8 = .slice a8 ((cs0 ++ cs).length + 1) c8) ∧ w8.cell? ⟨b, 6, none⟩ = some (.slice aS (cs0 ++ cs).length cS) ∧ w8.frozen? ⟨b, 6, none⟩ = false ∧
                Cw w0 (w8.setCell ⟨b, 6, none⟩ v8) b { s with S := v8 } n css (L ++ cs.map Prod.fst ++ [o]) Q2 (cs0 ++ (cs ++ [(o, k)])) ∧ Mo w (s.own b) (w8.setCell ⟨b, 6, none⟩ v8) (({ s with S := v8 } : Sz).own b)) := fun v8 w8 own8 ap8 => by
              have own9 : w8.ownsRow w0.heap.size 81 2 v8 (cs0 ++ (cs ++ [(o, k)])).length (twc (cs0 ++ (cs ++ [(o, k)]))) := by
                have e9 : (cs0 ++ (cs ++ [(o, k)])).length = (cs0 ++ cs).length + 1 := by simp only [List.length_append, List.length_cons, List.length_nil]; omega
                rw [e9, ← List.append_assoc, twc_snoc]
                exact own8
              obtain ⟨z9, m9⟩ := HZ2.out.1.putS ap8.grown ap8.new own9
              have ht : ∀ x, (Value.slice aS (cs0 ++ cs).length cS).ownBlock = some x → Ty _ x 81 := fun x e => row_ty HRow.out e.symm
              have hbx := box_other HZ2.out.1.box ap8.grown ht (by decide)
              refine ⟨row_form' own8, by simp [World.cell?, hbx], by simp [World.frozen?, hbx], ⟨Mo.bel HC2.out.1.bel (fun k hk => (HC2.out.1.lt k hk).1) ((Mo.below (below_box _ _)).trans m9), HC2.out.1.fit, F, P, z9, HZ.out.2⟩, HZ2.out.2.1.trans m9⟩
            have HBas : Hid (w0.heap.size ≤ (w2.alloc (.cells #[.int .i64 o, .int .i64 (k : Int)] 81)).heap.size) := HZ2.out.2.2
            clear HZ HZ2 HES HLen
            generalize hM : (cs0 ++ cs).length = M at *
            clear hM
            generalize htw : twc (cs0 ++ cs) = tw at *
            clear htw
            go_wp2_with (at_builtin; refine wpList_append_apk rfl _ _ 57 rfl w0.heap.size 81 iC (.agg #[.int .i64 0, .int .i64 0]) 2 16 Tryd.underlying57 HI.out.1 HI.out.2.1 HI.out.2.2.1 HI.out.2.2.2 rfl (by decide) (.slice aS M cS) M tw rfl HRow.out ⟨w2.heap.size, 0, none⟩ 1 1 [.int .i64 o, .int .i64 (k : Int)] rfl rfl HB2.out (by simp [Value.oneCell']) hl63 hl48 HBas.out ?_; intro v8 w8 own8 ap8; have HF8 : Hid (_ ∧ _) := (HPut.out v8 w8 own8 ap8).2.2.2; obtain ⟨⟨a8, c8, hv8⟩, q1, q2, -⟩ := HPut.out v8 w8 own8 ap8; subst hv8; clear own8 ap8)
            go_roundg (mea css (L ++ cs.map Prod.fst ++ [o]) Q2)
            case measure => rw [HG.out]; exact mea_put HKN.out HO.out.1 HO.out.2.2.1
            case rel => exact ⟨cs ++ [(o, k)], Q2, _, by rw [Pth.snocL (css := css)], ⟨HRan.out.pth.snoc HA.out HO0.out, by rw [Pth.snocL (css := css)]; exact HF8.out.1, HF8.out.2⟩, by rw [Pth.snocL (css := css)]; exact HC2.out.2.2⟩
end Go.Proofs.YtgaojmcmpdjfmaaDoor
