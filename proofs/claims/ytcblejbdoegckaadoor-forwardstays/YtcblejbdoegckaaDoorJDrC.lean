/-
  joined: DrC ApS
-/
import Derived.Test.YtcblejbdoegckaaDoorJAppK
import Derived.Test.YtcblejbdoegckaaDoorCopy
import Derived.Test.YtcblejbdoegckaaDoorSames
import Derived.Handy
import Derived.Deep.RegionWith
import Derived.Deep.QuietTactic
import Derived.Deep.RegionHeld
import Derived.Deep.CutRange
import Derived.Sort.AtCall
set_option linter.unusedSimpArgs false
set_option linter.unusedVariables false
namespace Go.Proofs.YtcblejbdoegckaaDoor
open Go Go.RowKit

theorem cell_two_new9 (w : World) (x y : Value) (t : TypeId) : ∀ j u, [x, y][j]? = some u → (w.alloc (.cells #[x, y] t)).cell? ((⟨w.heap.size, 0, none⟩ : Addr).add j) = some u := by
  intro j u hu
  have hadd : (⟨w.heap.size, 0, none⟩ : Addr).add j = ⟨w.heap.size, j, none⟩ := by unfold Addr.add; split <;> simp_all
  rw [hadd, World.cell?_alloc_mark]
  simpa using hu

set_option maxHeartbeats 1600000 in
theorem copySteps_any (s : Value) (l : List Stp) (w : World) (hr : RdZ w s l) :
    Calls Tryd.prog 11 #[s] w fun e w' => ∃ u, e = .returned u ∧ OwnS w.heap.size w' u l ∧ Below w.heap.size w w' := by
  have hl := hr.len
  have HR : Hid (RdZ w s l) := hr
  obtain ⟨a, c, rfl, hc, hm, _⟩ := hr.form
  obtain ⟨il, hil, hzl0, hzl1, hzl2⟩ := info_parts infoZ
  clear hr
  go_enter Tryd.func11, Tryd.ntmps11
  go_wp2
  go_loopg [3, 4] l.length (fun g u i wr => ∃ (k : Nat) (L : List SV), k + g = l.length ∧ i = .int .i64 k ∧ L.length = k ∧ svS L = l.take k ∧ Hid (OwnZ w.heap.size wr u L) ∧ Below w.heap.size w wr)
  case atStart => exact ⟨0, [], by omega, rfl, rfl, by simp [svS], OwnZ.nil _ _, Below.refl _ _⟩
  case round =>
    obtain ⟨k, L, hk, rfl, hLk, hL, HO, bel⟩ := hrel
    have HK : Hid (k + gk = l.length) := hk
    have HLs : Hid (svS L = l.take k) := hL
    have hs := bel.size
    have HLk : Hid (L.length = k) := hLk
    have hLk2 : L.length ≤ k := by omega
    clear hL hLk
    by_cases hlt : k < l.length
    · obtain ⟨a', c', e', _, _, hcell⟩ := HR.out.form
      have e3 : a' = a ∧ c' = c := by injection e' with q1 q2 q3; exact ⟨q1.symm, q3.symm⟩
      obtain ⟨rfl, rfl⟩ := e3
      obtain ⟨b, off, u, rfl, hbl, hd0, hu0, hr0⟩ := hcell k hlt
      have hd := (bel.cell (p := ⟨b, off + k * 2, none⟩) hbl).trans hd0
      have hu1 := (bel.cell (p := ⟨b, off + k * 2 + 1, none⟩) hbl).trans hu0
      have HU : Hid (Rd wr u (l.getD k (false, [])).2) := hr0.below bel
      have HS : Hid (l.take (k + 1) = l.take k ++ [l.getD k (false, [])]) := take_succ_getD l (false, []) k hlt
      obtain ⟨_, ua, uc, hu, _⟩ := hr0
      clear hk hcell e' hd0 hu0
      generalize l.getD k (false, []) = xk at *
      obtain ⟨dd, z⟩ := xk
      dsimp only at *
      subst hu
      go_wp2_with fail
      refine (copyInts_any _ z wr HU.out).mono ?_
      rintro e w2 ⟨u2, rfl, own2, bel2⟩
      obtain ⟨a2, c2, hu2⟩ := own_form own2
      subst hu2
      have O2 : Hid (Own w.heap.size w2 (.slice a2 z.length c2) z) := own2.mono hs
      have HO2 : Hid (OwnZ w.heap.size w2 _ L) := HO.out.below bel2
      have HAP : Hid (ApartC ((L ++ [(dd, Value.slice a2 z.length c2, z)]).map Prod.snd)) := by
        show ApartC _
        rw [List.map_append]
        exact ApartC.snoc (W := wr) HO.out.ap (fun x hx => by obtain ⟨y, hy, rfl⟩ := List.mem_map.1 hx; exact HO.out.own y hy) own2 (Nat.le_refl _)
      have b2 : Below w.heap.size w w2 := bel.trans (bel2.mono hs)
      have s2 := b2.size
      have hd2 := (bel2.cell (p := ⟨b, off + k * 2, none⟩) (by show b < _; omega)).trans hd
      clear own2 bel2 hd hu1
      go_wp2_with (at_builtin; refine wpList_append_own _ rfl _ _ 25 rfl w.heap.size 37 il (.agg #[.bool false, .slice none 0 0]) 2 32 Tryd.underlying25 hil hzl0 hzl1 hzl2 rfl (by decide) _ L.length (svC L) rfl (World.ownsRow.alloc HO2.out.row _) _ 1 1 [.bool dd, .slice a2 z.length c2] rfl rfl (cell_two_new9 _ _ _ _) (by simp [Value.oneCell']) (by unfold maxLen; omega) (by omega) (by simp; omega) ?_; intro v3 w3 own3 gr3 hn3)
      go_roundg (gk - 1)
      case measure => have := HK.out; omega
      case rel => exact ⟨k + 1, L ++ [(dd, Value.slice a2 z.length c2, z)], by have := HK.out; omega, by go_num, by simp; exact HLk.out, by rw [HS.out, svS_snoc, HLs.out], HO2.out.app (World.grownBy_alloc _ _ none) own3 gr3 O2.out HAP.out, (b2.alloc s2 _).grown gr3 (by simp; omega) (fun j hj => (World.ownsRow.lt HO2.out.row j hj).1)⟩
    · obtain rfl : k = l.length := by omega
      have HE : Hid (svS L = l) := by have := HLs.out; rw [List.take_length] at this; exact this
      clear hk
      go_wp2
      go_ret
      exact ⟨_, rfl, ⟨L, HO.out, HE.out⟩, bel⟩

theorem beq_stp (a b : Stp) : (a == b) = (a.1 == b.1 && a.2 == b.2) := rfl

end Go.Proofs.YtcblejbdoegckaaDoor
set_option linter.unusedSimpArgs false
set_option linter.unusedVariables false
namespace Go.Proofs.YtcblejbdoegckaaDoor
open Go Go.RowKit

/-- the values of steps that are read -/
theorem rdz_vals {w : World} {v : Value} {l : List Stp} (h : RdZ w v l) : ∃ L : List SV, svS L = l ∧ (∃ a c, v = .slice a L.length c ∧ (l ≠ [] → ∃ b off, a = some ⟨b, off, none⟩ ∧ ∀ j u, (svC L)[j]? = some u → w.cell? ((⟨b, off, none⟩ : Addr).add j) = some u)) ∧ ∀ x ∈ L, Rd w x.2.1 x.2.2 := by
  obtain ⟨h1, a, c, rfl, hc, hm, h2⟩ := h
  by_cases hne : l = []
  · subst hne
    exact ⟨[], rfl, ⟨a, c, rfl, fun h => absurd rfl h⟩, fun x hx => by cases hx⟩
  · obtain ⟨b, off, rfl, hb, hcell⟩ := h2 hne
    have hch : ∀ j : Fin l.length, ∃ u, w.cell? ⟨b, off + j.1 * 2, none⟩ = some (.bool (l.getD j.1 (false, [])).1) ∧ w.cell? ⟨b, off + j.1 * 2 + 1, none⟩ = some u ∧ Rd w u (l.getD j.1 (false, [])).2 := fun j => hcell j.1 j.2
    have hU := fun j => Classical.choose_spec (hch j)
    obtain ⟨U, hU⟩ : ∃ U : Fin l.length → Value, ∀ j, w.cell? ⟨b, off + j.1 * 2, none⟩ = some (.bool (l.getD j.1 (false, [])).1) ∧ w.cell? ⟨b, off + j.1 * 2 + 1, none⟩ = some (U j) ∧ Rd w (U j) (l.getD j.1 (false, [])).2 := ⟨fun j => Classical.choose (hch j), hU⟩
    refine ⟨List.ofFn (fun j : Fin l.length => ((l[j.1]).1, U j, (l[j.1]).2)), ?_, ⟨some ⟨b, off, none⟩, c, by simp, fun _ => ⟨b, off, rfl, fun j u hu => ?_⟩⟩, fun x hx => ?_⟩
    · unfold svS
      apply List.ext_getElem
      · simp
      · intro i h1 h2; simp
    · have hj : j < l.length * 2 := by
        have := (List.getElem?_eq_some_iff.1 hu).1
        rw [svC_len] at this
        simpa using this
      have hj2 : j / 2 < l.length := by omega
      have hat := svC_at (List.ofFn (fun j : Fin l.length => ((l[j.1]).1, U j, (l[j.1]).2))) (j / 2) (by simpa using hj2)
      have hadd : (⟨b, off, none⟩ : Addr).add j = ⟨b, off + j, none⟩ := Addr.add_lit _ _ _
      have hUj := hU ⟨j / 2, hj2⟩
      have e0 : l.getD (j / 2) (false, []) = l[j / 2] := by simp [List.getD_eq_getElem?_getD, hj2]
      rw [hadd]
      rcases Nat.mod_two_eq_zero_or_one j with hm | hm
      · have ej : j / 2 * 2 = j := by omega
        rw [ej] at hat
        rw [hat.1] at hu
        have := hUj.1
        simp only [ej, e0] at this
        rw [this]
        simpa using hu
      · have ej : j / 2 * 2 + 1 = j := by omega
        rw [ej] at hat
        rw [hat.2] at hu
        have := hUj.2.1
        have ej2 : off + j / 2 * 2 + 1 = off + j := by omega
        simp only [ej2] at this
        rw [this]
        simpa using hu
    · obtain ⟨j, rfl⟩ := List.mem_ofFn.1 hx
      have := (hU j).2.2
      have e0 : l.getD j.1 (false, []) = l[j.1] := by simp [List.getD_eq_getElem?_getD]
      rw [e0] at this
      exact this
theorem run_append_none {P : Program} (w : World) (base : Nat) (t ty e : TypeId) (i : TypeInfo) (size c : Nat) (ht : P.underlying t = some (.slice e)) (hi : P.info? e = some i)
    (v : Value) (n : Nat) (xs : List Value) (hown : w.ownsRow base e size v n xs) : (Builtin.append_ #[t, t] ty #[v, .slice none 0 c]).run P w = .ok v w := by
  rcases hown.2 with ⟨rfl, rfl⟩ | ⟨g, cap, cur, rfl, _, _, hnc, _⟩
  · simp [Builtin.append_, run_underlying ht, sizeOf, typeInfo, hi, Builtin.lenOf, Builtin.firstCells]
  · simp [Builtin.append_, run_underlying ht, sizeOf, typeInfo, hi, Builtin.lenOf, Builtin.firstCells, hnc, storeCells]
/-- append of steps that are read onto a row of the call's own -/
theorem wpList_append_z {w : World} {ops : Array Oper} {rest : List Oper} {o : Oper} {a : Act} {Q : Exit → Act → World → Prop} (hgd : o.guard = none) (s x : Operand)
    (ho : o.op = .call { callee := .builtin .append, args := #[s, x], argTypes := #[25, 25] }) (B : Nat) (v : Value) (K : List SV) (hs : a.eval s = v) (hown : w.ownsRow B 37 2 v K.length (svC K))
    (xv : Value) (l : List Stp) (hx : a.eval x = xv) (w0 : World) (hr : RdZ w0 xv l) (hb0 : Below w0.heap.size w0 w) (hb : (K.length + l.length) * 32 ≤ 140737488355328) (hbase : B ≤ w.heap.size)
    (h : ∀ v' w' L, svS L = l → (∀ x ∈ L, Rd w0 x.2.1 x.2.2) → w'.ownsRow B 37 2 v' (K ++ L).length (svC (K ++ L)) → w.grownBy w' v.ownBlock → wpList Tryd.prog ops Q rest (a.put o.dst v') w') : wpList Tryd.prog ops Q (o :: rest) a w := by
  obtain ⟨il, hil, hzl0, hzl1, hzl2⟩ := info_parts infoZ
  obtain ⟨L, hL, ⟨ad, c, rfl, hcell⟩, hRd⟩ := rdz_vals hr
  have hLl : L.length = l.length := by rw [← hL, svS_len]
  have eC : ∀ A B : List SV, svC (A ++ B) = svC A ++ svC B := fun A B => by simp [svC]
  cases ad with
  | none =>
    have hl0 : l = [] := by
      rcases Classical.em (l = []) with h | h
      · exact h
      · obtain ⟨b, off, e, _⟩ := hcell h; cases e
    have hL0 : L = [] := List.length_eq_zero_iff.1 (by rw [hLl, hl0]; rfl)
    subst hL0
    have hrun := run_append_none (P := Tryd.prog) w B 25 o.type 37 il 2 c Tryd.underlying25 hil v K.length _ hown
    refine wpList_plain hgd fun K' hK => ?_
    unfold Oper.wp execOp
    simp only [ho, resolve, invoke, builtin, Sem.run_bind, Sem.run_pure, Result.andThen_ok, List.map_toArray, List.map_cons, List.map_nil, hs, hx, List.length_nil, hrun]
    exact hK _ _ (h _ _ [] hL (fun x hx => by cases hx) (by rw [List.append_nil]; exact hown) ⟨rfl, rfl, rfl, Nat.le_refl _, fun _ _ _ => rfl⟩)
  | some ad =>
    have hnews : ∀ j u, (svC L)[j]? = some u → w.cell? (ad.add j) = some u := by
      rcases Classical.em (l = []) with h0 | h0
      · have hL0 : L = [] := List.length_eq_zero_iff.1 (by rw [hLl, h0]; rfl)
        subst hL0; intro j u hu; simp [svC] at hu
      · obtain ⟨b, off, e, hc⟩ := hcell h0
        obtain rfl : ad = ⟨b, off, none⟩ := by simpa using e
        intro j u hu
        have h1 := hc j u hu
        have h2 := World.block_lt_of_cell? w0 _ h1
        rw [Addr.add_lit] at h1 h2 ⊢
        exact (hb0.cell (p := ⟨b, off + j, none⟩) h2).trans h1
    have hml : K.length + L.length ≤ maxLen := by unfold maxLen; omega
    have hone : ∀ u ∈ svC L, u.oneCell' = true := fun u hu => by
      unfold svC at hu
      obtain ⟨x, hx, hu⟩ := List.mem_flatMap.1 hu
      simp at hu
      rcases hu with rfl | rfl
      · rfl
      · obtain ⟨_, a, c, e, _⟩ := hRd x hx
        rw [e]; rfl
    refine wpList_append_own _ hgd s x 25 ho B 37 il (.agg #[.bool false, .slice none 0 0]) 2 32 Tryd.underlying25 hil hzl0 hzl1 hzl2 rfl (by decide) v K.length (svC K) hs hown ad L.length c (svC L) hx (svC_len L) hnews hone hml (by rw [hLl]; exact hb) hbase ?_
    intro v' w' q1 q2 _
    exact h v' w' L hL hRd (by rw [eC, List.length_append]; exact q1) q2
/-- the same, as the builtin's run -/
theorem run_append_z {w : World} (ty : TypeId) (B : Nat) (v : Value) (K : List SV) (hown : w.ownsRow B 37 2 v K.length (svC K))
    (xv : Value) (l : List Stp) (w0 : World) (hr : RdZ w0 xv l) (hb0 : Below w0.heap.size w0 w) (hb : (K.length + l.length) * 32 ≤ 140737488355328) (hbase : B ≤ w.heap.size) :
    ∃ v' w' L, (Builtin.append_ #[25, 25] ty #[v, xv]).run Tryd.prog w = .ok v' w' ∧ svS L = l ∧ (∀ x ∈ L, Rd w0 x.2.1 x.2.2) ∧ w'.ownsRow B 37 2 v' (K ++ L).length (svC (K ++ L)) ∧ w.grownBy w' v.ownBlock := by
  obtain ⟨il, hil, hzl0, hzl1, hzl2⟩ := info_parts infoZ
  obtain ⟨L, hL, ⟨ad, c, rfl, hcell⟩, hRd⟩ := rdz_vals hr
  have hLl : L.length = l.length := by rw [← hL, svS_len]
  have eC : ∀ A B : List SV, svC (A ++ B) = svC A ++ svC B := fun A B => by simp [svC]
  cases ad with
  | none =>
    have hl0 : l = [] := by
      rcases Classical.em (l = []) with h | h
      · exact h
      · obtain ⟨b, off, e, _⟩ := hcell h; cases e
    have hL0 : L = [] := List.length_eq_zero_iff.1 (by rw [hLl, hl0]; rfl)
    subst hL0
    have hrun := run_append_none (P := Tryd.prog) w B 25 ty 37 il 2 c Tryd.underlying25 hil v K.length _ hown
    exact ⟨v, w, [], hrun, hL, (fun x hx => by cases hx), by rw [List.append_nil]; exact hown, ⟨rfl, rfl, rfl, Nat.le_refl _, fun _ _ _ => rfl⟩⟩
  | some ad =>
    have hnews : ∀ j u, (svC L)[j]? = some u → w.cell? (ad.add j) = some u := by
      rcases Classical.em (l = []) with h0 | h0
      · have hL0 : L = [] := List.length_eq_zero_iff.1 (by rw [hLl, h0]; rfl)
        subst hL0; intro j u hu; simp [svC] at hu
      · obtain ⟨b, off, e, hc⟩ := hcell h0
        obtain rfl : ad = ⟨b, off, none⟩ := by simpa using e
        intro j u hu
        have h1 := hc j u hu
        have h2 := World.block_lt_of_cell? w0 _ h1
        rw [Addr.add_lit] at h1 h2 ⊢
        exact (hb0.cell (p := ⟨b, off + j, none⟩) h2).trans h1
    have hml : K.length + L.length ≤ maxLen := by unfold maxLen; omega
    have hone : ∀ u ∈ svC L, u.oneCell' = true := fun u hu => by
      unfold svC at hu
      obtain ⟨x, hx, hu⟩ := List.mem_flatMap.1 hu
      simp at hu
      rcases hu with rfl | rfl
      · rfl
      · obtain ⟨_, a, c, e, _⟩ := hRd x hx
        rw [e]; rfl
    obtain ⟨v', w', hrun, r1, r2, _⟩ := run_append_own (P := Tryd.prog) w B 25 ty 37 il (.agg #[.bool false, .slice none 0 0]) 2 32 Tryd.underlying25 hil hzl0 hzl1 hzl2 rfl (by decide) v K.length (svC K) hown ad L.length c (svC L) (svC_len L) hnews hone hml (by rw [hLl]; exact hb) hbase
    exact ⟨v', w', L, hrun, hL, hRd, by rw [eC, List.length_append]; exact r1, r2⟩
/-- a row of steps whose lists are read -/
theorem rdz_row {B : Nat} {W : World} {v : Value} {L : List SV} (h : W.ownsRow B 37 2 v L.length (svC L)) (hR : ∀ x ∈ L, Rd W x.2.1 x.2.2) (h32 : L.length * 32 ≤ 140737488351232) : RdZ W v (svS L) := by
  rcases h.2 with ⟨rfl, hn⟩ | ⟨g, cap, cur, hv, hg, hh, hn, hm, hs, ht⟩
  · have : L = [] := List.length_eq_zero_iff.1 hn
    subst this; exact RdZ.nil W
  · subst hv
    refine ⟨by rw [svS_len]; exact h32, _, cap, by rw [svS_len], by rw [svS_len]; exact hn, hm, fun _ => ⟨g, 0, rfl, (Array.getElem?_eq_some_iff.1 hh).1, fun j hj => ?_⟩⟩
    have hj' : j < L.length := by rw [svS_len] at hj; exact hj
    obtain ⟨e1, e2⟩ := svC_at L j hj'
    have e : (svS L).getD j (false, []) = (L[j].1, L[j].2.2) := by simp [svS, List.getD_eq_getElem?_getD, hj']
    rw [e]
    refine ⟨L[j].2.1, ?_, ?_, hR _ (List.getElem_mem hj')⟩
    · rw [Nat.zero_add, World.ownsRow.cellAt h _ (by omega), e1]
    · rw [Nat.zero_add, World.ownsRow.cellAt h _ (by omega), e2]

end Go.Proofs.YtcblejbdoegckaaDoor
