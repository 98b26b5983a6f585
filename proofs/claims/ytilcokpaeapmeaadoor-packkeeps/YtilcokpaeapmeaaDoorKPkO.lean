/-
  pack.Open, walked; bytes to a text and back; append of steps that are read.
  KEEP: len below nil form rd mono rdz on app start at new trans refl kept own row ap out step
-/
import Derived.Test.YtilcokpaeapmeaaDoorJPkM
import Derived.Test.YtilcokpaeapmeaaDoorKDrRe
import Derived.Test.YtilcokpaeapmeaaDoorJItoaD
import Derived.Lib.ConvBytes
import Derived.Laws.IdiomStrings
set_option linter.unusedSimpArgs false
set_option linter.unusedVariables false
namespace Go.Proofs.YtilcokpaeapmeaaDoor
open Go Go.RowKit

/-- bytes to a text -/
theorem conv_y {w : World} {v : Value} {T : List UInt8} (h : RdY w v T) : (convert 44 9 v).run Tryd.prog w = .ok (.string ⟨T.toArray⟩) w := by
  obtain ⟨h1, a, c, rfl, hc, hm, hn, h2⟩ := h
  cases a with
  | none =>
    have hc0 := hn rfl
    have hT : T = [] := List.length_eq_zero_iff.1 (by omega)
    subst hT; subst hc0
    exact nil_bytes w
  | some a =>
    refine run_convert_bytes_back (P := Tryd.prog) w 44 9 5 a c T Tryd.underlying44 Tryd.underlying5 Tryd.underlying9 (fun j hj => ?_)
    obtain ⟨b, off, e, hlt, hcell⟩ := h2 (by intro e; subst e; simp at hj)
    obtain rfl : a = ⟨b, off, none⟩ := by simpa using e
    have hadd : (⟨b, off, none⟩ : Addr).add j = ⟨b, off + j, none⟩ := Addr.add_lit _ _ _
    rw [hadd, hcell j hj]
    simp [List.getD_eq_getElem?_getD, hj]
/-- a text to bytes -/
theorem str_y (w : World) (T : List UInt8) (hT : T.length ≤ 70368744177664) : ∃ c w', (convert 9 44 (.string ⟨T.toArray⟩)).run Tryd.prog w = .ok (.slice (some ⟨w.heap.size, 0, none⟩) T.length c) w' ∧ RdY w' (.slice (some ⟨w.heap.size, 0, none⟩) T.length c) T ∧ Below w.heap.size w w' := by
  have hs : (⟨T.toArray⟩ : ByteArray).size = T.length := by simp [ByteArray.size]
  have hrun := Lib.run_convert_string_bytes (P := Tryd.prog) w 9 44 5 ⟨T.toArray⟩ Tryd.underlying9 Tryd.underlying44 Tryd.underlying5
  rw [hs] at hrun
  have hsz := Lib.bytesWorld_size w 5 ⟨T.toArray⟩
  refine ⟨_, _, hrun, ⟨(by omega), _, _, rfl, ?_, ?_, fun h => (by cases h), fun hne => ⟨w.heap.size, 0, rfl, by omega, fun j hj => ?_⟩⟩, ⟨rfl, rfl, rfl, by omega, fun k hk => Lib.bytesWorld_at_old w 5 _ k hk⟩⟩
  · have := grownCap_ge w T.length 0 5; omega
  · exact grownCap_le_maxLen w T.length 0 5 (by unfold maxLen; omega)
  · rw [Nat.zero_add, Lib.bytesWorld_cell w 5 ⟨T.toArray⟩ j (by rw [hs]; exact hj)]
/-- what Open says -/
def opB (T : List UInt8) : List Stp × Int × Nat := if (parD T).2 = 0 then ((parD T).1, 0, 0) else decB T

set_option maxHeartbeats 3200000 in
set_option maxRecDepth 100000 in
theorem open_any (w : World) (bv : Value) (T : List UInt8) (hr : RdY w bv T) (hbig : T.length ≤ 1099511627776) (he : Env w) :
    Calls Tryd.prog 21 #[bv] w (DecP w (opB T)) := by
  have hcv := conv_y hr
  have HR : Hid (RdY w bv T) := hr
  have HRe := readD_any ⟨T.toArray⟩ w (by simpa [ByteArray.size] using hbig) he
  have hTd : (⟨T.toArray⟩ : ByteArray).data.toList = T := by simp
  rw [hTd] at HRe
  obtain ⟨a, c, rfl, hc, hm, _⟩ := hr.form
  clear hr he hTd
  by_cases h0 : (parD T).2 = 0
  · simp only [h0, if_true] at HRe
    have HX : Hid (opB T = ((parD T).1, 0, 0)) := by show _ = _; unfold opB; rw [if_pos h0]
    have HRe : Hid (Calls Tryd.prog 11 #[.string ⟨T.toArray⟩] w fun e w' => ∃ v, e = .returned (.tuple #[v, .int .i64 0, .int .i64 0]) ∧ OwnS w.heap.size w' v (parD T).1 ∧ RdZ w' v (parD T).1 ∧ Below w.heap.size w w') := HRe
    clear h0
    go_enter Tryd.func21, Tryd.ntmps21
    go_wp2_with fail
    refine HRe.out.mono ?_
    rintro e w1 ⟨v, rfl, own1, _, bel1⟩
    go_wp2
    go_returns
    rw [HX.out]
    exact ⟨_, rfl, own1, bel1⟩
  · simp only [h0, if_false] at HRe
    have HX : Hid (opB T = decB T) := by show _ = _; unfold opB; rw [if_neg h0]
    obtain ⟨k, hk⟩ : ∃ k, k = (parD T).2 := ⟨_, rfl⟩
    rw [← hk] at HRe
    have HRe : Hid (Calls Tryd.prog 11 #[.string ⟨T.toArray⟩] w fun e w' => ∃ v, e = .returned (.tuple #[v, .int .i64 90, .int .i64 (k : Int)]) ∧ OwnS w.heap.size w' v [] ∧ RdZ w' v [] ∧ Below w.heap.size w w') := HRe
    clear h0 hk
    go_enter Tryd.func21, Tryd.ntmps21
    go_wp2_with fail
    refine HRe.out.mono ?_
    rintro e w1 ⟨v, rfl, own1, _, bel1⟩
    have HD : Hid (Calls Tryd.prog 20 #[.slice a T.length c] w1 (DecP w1 (decB T))) := decode_any w1 _ T (HR.out.below bel1) hbig
    generalize decB T = X at *
    obtain ⟨l, E, P⟩ := X
    go_wp2_with (go_at_call 20; refine HD.out.mono ?_; rintro e w2 ⟨v2, rfl, own2, bel2⟩)
    go_returns
    rw [HX.out]
    exact ⟨_, rfl, own2.mono bel1.size, Below.step bel1 bel2⟩

/-- the values of steps that are read -/
theorem rdz_vals {w : World} {v : Value} {l : List Stp} (h : RdZ w v l) : ∃ L : List SV, svS L = l ∧ (∃ a c, v = .slice a L.length c ∧ (l ≠ [] → ∃ b off, a = some ⟨b, off, none⟩ ∧ ∀ j u, (svC L)[j]? = some u → w.cell? ((⟨b, off, none⟩ : Addr).add j) = some u)) ∧ ∀ x ∈ L, Rd w x.2.1 x.2.2 := by
  obtain ⟨h1, a, c, rfl, hc, hm, h2⟩ := h
  by_cases hne : l = []
  · subst hne
    exact ⟨[], rfl, ⟨a, c, rfl, fun h => absurd rfl h⟩, fun x hx => by cases hx⟩
  · obtain ⟨b, off, rfl, hb, hcell⟩ := h2 hne
    have hch : ∀ j : Fin l.length, ∃ u, w.cell? ⟨b, off + j.1 * 2, none⟩ = some (.bool (l.getD j.1 (false, [])).1) ∧ w.cell? ⟨b, off + j.1 * 2 + 1, none⟩ = some u ∧ Rd w u (l.getD j.1 (false, [])).2 := fun j => hcell j.1 j.2
    have hU := fun j => Classical.choose_spec (hch j)
    obtain ⟨U, hU⟩ : ∃ U : Fin l.length → Value, ∀ j, w.cell? ⟨b, off + j.1 * 2, none⟩ = some (.bool (l.getD j.1 (false, [])).1) ∧ w.cell? ⟨b, off + j.1 * 2 + 1, none⟩ = some (U j) ∧ Rd w (U j) (l.getD j.1 (false, [])).2 := ⟨fun j => Classical.choose (hch j), hU⟩
    refine ⟨List.ofFn (fun j : Fin l.length => ((l[j.1]).1, U j, (l[j.1]).2)), ?_, ⟨some ⟨b, off, none⟩, c, by simp, fun _ => ⟨b, off, rfl, fun j u hu => ?_⟩⟩, fun x hx => ?_⟩
    · unfold svS
      apply List.ext_getElem
      · simp
      · intro i h1 h2; simp
    · have hj : j < l.length * 2 := by
        have := (List.getElem?_eq_some_iff.1 hu).1
        rw [svC_len] at this
        simpa using this
      have hj2 : j / 2 < l.length := by omega
      have hat := svC_at (List.ofFn (fun j : Fin l.length => ((l[j.1]).1, U j, (l[j.1]).2))) (j / 2) (by simpa using hj2)
      have hadd : (⟨b, off, none⟩ : Addr).add j = ⟨b, off + j, none⟩ := Addr.add_lit _ _ _
      have hUj := hU ⟨j / 2, hj2⟩
      have e0 : l.getD (j / 2) (false, []) = l[j / 2] := by simp [List.getD_eq_getElem?_getD, hj2]
      rw [hadd]
      rcases Nat.mod_two_eq_zero_or_one j with hm | hm
      · have ej : j / 2 * 2 = j := by omega
        rw [ej] at hat
        rw [hat.1] at hu
        have := hUj.1
        simp only [ej, e0] at this
        rw [this]
        simpa using hu
      · have ej : j / 2 * 2 + 1 = j := by omega
        rw [ej] at hat
        rw [hat.2] at hu
        have := hUj.2.1
        have ej2 : off + j / 2 * 2 + 1 = off + j := by omega
        simp only [ej2] at this
        rw [this]
        simpa using hu
    · obtain ⟨j, rfl⟩ := List.mem_ofFn.1 hx
      have := (hU j).2.2
      have e0 : l.getD j.1 (false, []) = l[j.1] := by simp [List.getD_eq_getElem?_getD]
      rw [e0] at this
      exact this
theorem run_append_none {P : Program} (w : World) (base : Nat) (t ty e : TypeId) (i : TypeInfo) (size c : Nat) (ht : P.underlying t = some (.slice e)) (hi : P.info? e = some i)
    (v : Value) (n : Nat) (xs : List Value) (hown : w.ownsRow base e size v n xs) : (Builtin.append_ #[t, t] ty #[v, .slice none 0 c]).run P w = .ok v w := by
  rcases hown.2 with ⟨rfl, rfl⟩ | ⟨g, cap, cur, rfl, _, _, hnc, _⟩
  · simp [Builtin.append_, run_underlying ht, sizeOf, typeInfo, hi, Builtin.lenOf, Builtin.firstCells]
  · simp [Builtin.append_, run_underlying ht, sizeOf, typeInfo, hi, Builtin.lenOf, Builtin.firstCells, hnc, storeCells]
/-- append of steps that are read onto a row of the call's own -/
theorem wpList_append_z {w : World} {ops : Array Oper} {rest : List Oper} {o : Oper} {a : Act} {Q : Exit → Act → World → Prop} (hgd : o.guard = none) (s x : Operand)
    (ho : o.op = .call { callee := .builtin .append, args := #[s, x], argTypes := #[22, 22] }) (B : Nat) (v : Value) (K : List SV) (hs : a.eval s = v) (hown : w.ownsRow B 61 2 v K.length (svC K))
    (xv : Value) (l : List Stp) (hx : a.eval x = xv) (w0 : World) (hr : RdZ w0 xv l) (hb0 : Below w0.heap.size w0 w) (hb : (K.length + l.length) * 32 ≤ 140737488355328) (hbase : B ≤ w.heap.size)
    (h : ∀ v' w' L, svS L = l → (∀ x ∈ L, Rd w0 x.2.1 x.2.2) → w'.ownsRow B 61 2 v' (K ++ L).length (svC (K ++ L)) → w.grownBy w' v.ownBlock → wpList Tryd.prog ops Q rest (a.put o.dst v') w') : wpList Tryd.prog ops Q (o :: rest) a w := by
  obtain ⟨il, hil, hzl0, hzl1, hzl2⟩ := info_parts infoZ
  obtain ⟨L, hL, ⟨ad, c, rfl, hcell⟩, hRd⟩ := rdz_vals hr
  have hLl : L.length = l.length := by rw [← hL, svS_len]
  have eC : ∀ A B : List SV, svC (A ++ B) = svC A ++ svC B := fun A B => by simp [svC]
  cases ad with
  | none =>
    have hl0 : l = [] := by
      rcases Classical.em (l = []) with h | h
      · exact h
      · obtain ⟨b, off, e, _⟩ := hcell h; cases e
    have hL0 : L = [] := List.length_eq_zero_iff.1 (by rw [hLl, hl0]; rfl)
    subst hL0
    have hrun := run_append_none (P := Tryd.prog) w B 22 o.type 61 il 2 c Tryd.underlying22 hil v K.length _ hown
    refine wpList_plain hgd fun K' hK => ?_
    unfold Oper.wp execOp
    simp only [ho, resolve, invoke, builtin, Sem.run_bind, Sem.run_pure, Result.andThen_ok, List.map_toArray, List.map_cons, List.map_nil, hs, hx, List.length_nil, hrun]
    exact hK _ _ (h _ _ [] hL (fun x hx => by cases hx) (by rw [List.append_nil]; exact hown) ⟨rfl, rfl, rfl, Nat.le_refl _, fun _ _ _ => rfl⟩)
  | some ad =>
    have hnews : ∀ j u, (svC L)[j]? = some u → w.cell? (ad.add j) = some u := by
      rcases Classical.em (l = []) with h0 | h0
      · have hL0 : L = [] := List.length_eq_zero_iff.1 (by rw [hLl, h0]; rfl)
        subst hL0; intro j u hu; simp [svC] at hu
      · obtain ⟨b, off, e, hc⟩ := hcell h0
        obtain rfl : ad = ⟨b, off, none⟩ := by simpa using e
        intro j u hu
        have h1 := hc j u hu
        have h2 := World.block_lt_of_cell? w0 _ h1
        rw [Addr.add_lit] at h1 h2 ⊢
        exact (hb0.cell (p := ⟨b, off + j, none⟩) h2).trans h1
    have hml : K.length + L.length ≤ maxLen := by unfold maxLen; omega
    have hone : ∀ u ∈ svC L, u.oneCell' = true := fun u hu => by
      unfold svC at hu
      obtain ⟨x, hx, hu⟩ := List.mem_flatMap.1 hu
      simp at hu
      rcases hu with rfl | rfl
      · rfl
      · obtain ⟨_, a, c, e, _⟩ := hRd x hx
        rw [e]; rfl
    refine wpList_append_own _ hgd s x 22 ho B 61 il (.agg #[.bool false, .slice none 0 0]) 2 32 Tryd.underlying22 hil hzl0 hzl1 hzl2 rfl (by decide) v K.length (svC K) hs hown ad L.length c (svC L) hx (svC_len L) hnews hone hml (by rw [hLl]; exact hb) hbase ?_
    intro v' w' q1 q2 _
    exact h v' w' L hL hRd (by rw [eC, List.length_append]; exact q1) q2
/-- a row of steps whose lists are read -/
theorem rdz_row {B : Nat} {W : World} {v : Value} {L : List SV} (h : W.ownsRow B 61 2 v L.length (svC L)) (hR : ∀ x ∈ L, Rd W x.2.1 x.2.2) (h32 : L.length * 32 ≤ 140737488351232) : RdZ W v (svS L) := by
  rcases h.2 with ⟨rfl, hn⟩ | ⟨g, cap, cur, hv, hg, hh, hn, hm, hs, ht⟩
  · have : L = [] := List.length_eq_zero_iff.1 hn
    subst this; exact RdZ.nil W
  · subst hv
    refine ⟨by rw [svS_len]; exact h32, _, cap, by rw [svS_len], by rw [svS_len]; exact hn, hm, fun _ => ⟨g, 0, rfl, (Array.getElem?_eq_some_iff.1 hh).1, fun j hj => ?_⟩⟩
    have hj' : j < L.length := by rw [svS_len] at hj; exact hj
    obtain ⟨e1, e2⟩ := svC_at L j hj'
    have e : (svS L).getD j (false, []) = (L[j].1, L[j].2.2) := by simp [svS, List.getD_eq_getElem?_getD, hj']
    rw [e]
    refine ⟨L[j].2.1, ?_, ?_, hR _ (List.getElem_mem hj')⟩
    · rw [Nat.zero_add, World.ownsRow.cellAt h _ (by omega), e1]
    · rw [Nat.zero_add, World.ownsRow.cellAt h _ (by omega), e2]

end Go.Proofs.YtilcokpaeapmeaaDoor
