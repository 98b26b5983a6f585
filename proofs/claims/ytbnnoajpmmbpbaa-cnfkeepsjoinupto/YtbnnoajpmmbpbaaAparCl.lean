/-
  depotkit.ApartClauses, walked.
  KEEP: len set on app at below new trans refl start ap kept rd rds mono row push put step side drew drewN mark weaken less store slice place cell lt prefix setOther own nil add none
-/
import Derived.Test.YtbnnoajpmmbpbaaAparRW
import Derived.Test.YtbnnoajpmmbpbaaAppK
set_option linter.unusedSimpArgs false
set_option linter.unusedVariables false
namespace Go.Proofs.Ytbnnoajpmmbpbaa
open Go Go.RowKit Go.Shelf

/-- a row of one's own is put behind another -/
theorem run_append_rows {P : Program} (w : World) (base base' : Nat) (t ty e : TypeId) (i : TypeInfo) (z : Value) (bytes : Nat) (ht : P.underlying t = some (.slice e)) (hi : P.info? e = some i) (hz : i.zero = some z)
    (hsize : i.size = 1) (hby : i.bytes = bytes) (hzs : z.cells.size = 1)
    (v y : Value) (n m : Nat) (xs ys : List Value) (hown : w.ownsRow base e 1 v n xs) (hy : w.ownsRow base' e 1 y m ys) (h1 : ∀ u ∈ ys, u.oneCell' = true)
    (h63 : n + m ≤ maxLen) (hbytes : (n + m) * bytes ≤ 140737488355328) (hbase : base ≤ w.heap.size) :
    ∃ v' w', (Builtin.append_ #[t, t] ty #[v, y]).run P w = .ok v' w' ∧ w'.ownsRow base e 1 v' (n + m) (xs ++ ys) ∧ Ap w v w' v' := by
  rcases hy.2 with ⟨rfl, rfl⟩ | ⟨g, cap, cur, rfl, hbg, hg, hnc, hcm, hcs, htake⟩
  · have hx : ys = [] := List.eq_nil_of_length_eq_zero (by simpa using hy.1)
    subst hx
    refine ⟨v, w, run_append_owned_none (P := P) w base t ty e i 1 ht hi v n xs hown, by simpa using hown, ⟨rfl, rfl, rfl, Nat.le_refl _, fun _ _ _ => rfl⟩, .inl rfl⟩
  · exact run_append_apk (P := P) w base t ty e i z 1 bytes ht hi hz hsize hby hzs (by decide) v n xs hown ⟨g, 0, none⟩ m cap ys hy.1 (hy.cells (g := g) rfl) h1 h63 hbytes hbase
theorem wpList_append_rows {P : Program} {w : World} {ops : Array Oper} {rest : List Oper} {o : Oper} {a : Act} {Q : Exit → Act → World → Prop} (hgd : o.guard = none) (s x : Operand) (t : TypeId)
    (hop : o.op = .call { callee := .builtin .append, args := #[s, x], argTypes := #[t, t] })
    (base base' : Nat) (e : TypeId) (i : TypeInfo) (z : Value) (bytes : Nat) (ht : P.underlying t = some (.slice e)) (hi : P.info? e = some i) (hz : i.zero = some z)
    (hsize : i.size = 1) (hby : i.bytes = bytes) (hzs : z.cells.size = 1)
    (v y : Value) (n m : Nat) (xs ys : List Value) (hs : a.eval s = v) (hx : a.eval x = y) (hown : w.ownsRow base e 1 v n xs) (hy : w.ownsRow base' e 1 y m ys) (h1 : ∀ u ∈ ys, u.oneCell' = true)
    (h63 : n + m ≤ maxLen) (hbytes : (n + m) * bytes ≤ 140737488355328) (hbase : base ≤ w.heap.size)
    (h : ∀ v' w', w'.ownsRow base e 1 v' (n + m) (xs ++ ys) → Ap w v w' v' → wpList P ops Q rest (a.put o.dst v') w') :
    wpList P ops Q (o :: rest) a w := by
  refine wpList_plain hgd fun K hK => ?_
  obtain ⟨v', w', hr, h2, h3⟩ := run_append_rows (P := P) w base base' t o.type e i z bytes ht hi hz hsize hby hzs v y n m xs ys hown hy h1 h63 hbytes hbase
  unfold Oper.wp execOp
  simp only [hop, resolve, invoke, builtin, Sem.run_bind, Sem.run_pure, Result.andThen_ok, List.map_toArray, List.map_cons, List.map_nil, hs, hx, hr]
  exact hK _ _ (h v' w' h2 h3)
theorem apart_sym {α : Type} {f : α → Option Nat} {L : List α} (h : L.Pairwise (fun x y => f x = none ∨ f x ≠ f y)) : ∀ (i j : Nat) (hi : i < L.length) (hj : j < L.length), i ≠ j → f L[i] = none ∨ f L[i] ≠ f L[j] := fun i j hi hj hne => by
  have hp := List.pairwise_iff_getElem.1 h
  rcases Nat.lt_or_gt_of_ne hne with h1 | h1
  · exact hp i j hi hj h1
  · rcases hp j i hj hi h1 with h2 | h2
    · cases e : f L[i] with
      | none => exact .inl rfl
      | some b => exact .inr (by rw [h2]; simp)
    · exact .inr (Ne.symm h2)
theorem range_getD {α : Type} (L : List α) (d : α) {β : Type} (f : α → β) : (List.range L.length).map (fun j => f (L.getD j d)) = L.map f := by
  apply List.ext_getElem?
  intro i
  by_cases h : i < L.length
  · rw [List.getElem?_map, List.getElem?_range h, List.getElem?_map, List.getElem?_eq_getElem h]
    simp [List.getD_eq_getElem?_getD, h]
  · rw [List.getElem?_eq_none (by simpa using h), List.getElem?_eq_none (by simpa using h)]
theorem flat_len {F : List (Value × List Cls)} {j : Nat} (hj : j < F.length) : (F[j]).2.length ≤ (F.flatMap Prod.snd).length := by
  have h7 : F.flatMap Prod.snd = (F.take j).flatMap Prod.snd ++ (F.drop j).flatMap Prod.snd := by rw [← List.flatMap_append, List.take_append_drop]
  rw [h7, List.drop_eq_getElem_cons hj, List.flatMap_cons, List.length_append, List.length_append]
  omega
theorem cls_one {B : Nat} {w : World} {s : Value} {L : List Cls} (h : OwnR B w s L) : ∀ u ∈ L.map Prod.fst, u.oneCell' = true := fun u hu => by
  obtain ⟨x, hx, rfl⟩ := List.mem_map.1 hu
  obtain ⟨a, c, e⟩ := own_slice (h.own x hx)
  rw [e]; rfl
set_option maxRecDepth 100000 in
set_option maxHeartbeats 6400000 in
theorem apartClauses_any (B : Nat) (rv : Value) (F : List (Value × List Cls)) (w : World) (hB : B ≤ w.heap.size) (hrow : w.ownsRow B 22 1 rv F.length (F.map Prod.fst)) (hown : ∀ x ∈ F, OwnR B w x.1 x.2)
    (hapR : F.Pairwise (fun x y => x.1.ownBlock = none ∨ x.1.ownBlock ≠ y.1.ownBlock)) (hapL : ApartC (F.flatMap Prod.snd)) (hF : F.length ≤ 65536) (hL : (F.flatMap Prod.snd).length ≤ 2147483648) (hl : ∀ x ∈ F.flatMap Prod.snd, x.2.length * 8 ≤ 140737488353280) :
    Calls Try.prog 28 #[rv] w fun e w' => e = .returned (.bool true) ∧ Below B w w' := by
  obtain ⟨iL, hiL, hL0, hL1, hL2⟩ := info_parts infoL
  have HIl : Hid (Try.prog.info? 39 = some iL ∧ iL.zero = some (.slice none 0 0) ∧ iL.size = 1 ∧ iL.bytes = 24) := ⟨hiL, hL0, hL1, hL2⟩
  have HF : Hid (∀ x ∈ F, OwnR B w x.1 x.2) := hown
  have HA : Hid (F.Pairwise (fun x y => x.1.ownBlock = none ∨ x.1.ownBlock ≠ y.1.ownBlock) ∧ ApartC (F.flatMap Prod.snd) ∧ (F.flatMap Prod.snd).length ≤ 2147483648 ∧ (∀ x ∈ F.flatMap Prod.snd, x.2.length * 8 ≤ 140737488353280)) := ⟨hapR, hapL, hL, hl⟩
  have HRow : Hid (w.ownsRow B 22 1 rv F.length (F.map Prod.fst)) := hrow
  obtain ⟨ar, cr, er⟩ : ∃ ar cr, rv = .slice ar F.length cr := row_slice hrow
  have HRv : Hid (rv = .slice ar F.length cr) := er
  subst er
  clear hrow hown hapR hapL hL hl hiL hL0 hL1 hL2
  go_enter Try.func28, Try.ntmps28
  go_wp2
  go_loopg [3, 4] F.length (fun q r' i' wr => ∃ (k : Nat) (av : Option Addr) (cv m : Nat), k + q = F.length ∧ r' = .slice av m cv ∧ i' = .int .i64 k ∧ m = ((F.take k).flatMap Prod.snd).length ∧ wr.ownsRow w.heap.size 39 1 (.slice av m cv) m (((F.take k).flatMap Prod.snd).map Prod.fst) ∧ Below w.heap.size w wr)
  case atStart => exact ⟨0, none, 0, 0, by omega, rfl, rfl, rfl, World.ownsRow_nil _ _ _ _, Below.refl _ _⟩
  case round =>
    obtain ⟨k, av, cv, m, hk, rfl, rfl, hm, ho, hb⟩ := hrel
    have HK : Hid (k + gk = F.length) := hk
    have HO : Hid (wr.ownsRow w.heap.size 39 1 (.slice av m cv) m (((F.take k).flatMap Prod.snd).map Prod.fst) ∧ Below w.heap.size w wr ∧ m = ((F.take k).flatMap Prod.snd).length) := ⟨ho, hb, hm⟩
    clear hk ho hm
    by_cases hlt : k < F.length
    · obtain ⟨gr, cr', er, r1, -, -⟩ := row_some (HRow.out) (by omega)
      injection er with er _ er3
      subst er; subst er3
      have hrw : wr.ownsRow B 22 1 (.slice (some ⟨gr, 0, none⟩) F.length cr) F.length (F.map Prod.fst) := row_kept HRow.out fun q e => hb.block q (HRow.out.lt q e.symm).2
      have kc := row_cell hrw (j := k) (x := (F[k]).1) (by rw [List.getElem?_map, List.getElem?_eq_getElem hlt]; rfl)
      have hfk := (HF.out _ (List.getElem_mem hlt)).below hb
      obtain ⟨ay, cy, ey⟩ := row_form hfk.row
      rw [ey] at kc
      have HFk : Hid (wr.ownsRow B 39 1 (.slice ay (F[k]).2.length cy) (F[k]).2.length ((F[k]).2.map Prod.fst) ∧ ∀ u ∈ (F[k]).2.map Prod.fst, u.oneCell' = true) := ⟨by rw [← ey]; exact hfk.row, cls_one hfk⟩
      have HTk : Hid ((F.take (k + 1)).flatMap Prod.snd = (F.take k).flatMap Prod.snd ++ (F[k]).2) := by show _ = _; rw [List.take_succ_eq_append_getElem hlt, List.flatMap_append]; simp
      have HLen : Hid (m + (F[k]).2.length ≤ 2147483648) := by
        have h5 := HA.out.2.2.1
        have h6 : ((F.take (k + 1)).flatMap Prod.snd).length ≤ (F.flatMap Prod.snd).length := by
          have h7 : F.flatMap Prod.snd = (F.take (k + 1)).flatMap Prod.snd ++ (F.drop (k + 1)).flatMap Prod.snd := by rw [← List.flatMap_append, List.take_append_drop]
          rw [h7, List.length_append]; omega
        rw [HTk.out, List.length_append, ← HO.out.2.2] at h6
        show _ ≤ _
        omega
      have HLT : Hid (k < F.length) := hlt
      have hl5 := HLen.out
      have hl63 : m + (F[k]).2.length ≤ maxLen := by unfold maxLen; omega
      have hl48 : (m + (F[k]).2.length) * 24 ≤ 140737488355328 := by omega
      clear hrw hfk ey hb
      generalize (F[k]).2 = Lk at *
      have HSw : Hid (w.heap.size ≤ wr.heap.size) := HO.out.2.1.size
      go_wp2_with (at_builtin; refine wpList_append_rows rfl _ _ 22 rfl w.heap.size B 39 iL (.slice none 0 0) 24 Try.underlying22 HIl.out.1 HIl.out.2.1 HIl.out.2.2.1 HIl.out.2.2.2 rfl (.slice av m cv) (.slice ay Lk.length cy) m Lk.length (((F.take k).flatMap Prod.snd).map Prod.fst) (Lk.map Prod.fst) rfl rfl HO.out.1 HFk.out.1 HFk.out.2 hl63 hl48 HSw.out ?_; intro v5 w5 own5 ap5; obtain ⟨a5, c5, hv5⟩ := row_form' own5; subst hv5; have F5 : Hid (w5.ownsRow w.heap.size 39 1 (.slice a5 (m + Lk.length) c5) (m + Lk.length) (((F.take k).flatMap Prod.snd).map Prod.fst ++ Lk.map Prod.fst) ∧ Below w.heap.size w w5) := ⟨own5, HO.out.2.1.grown ap5.grown HSw.out (fun q e => (HO.out.1.lt q e).1)⟩; clear own5 ap5)
      go_roundg (gk - 1)
      case measure => have := HK.out; have := HLT.out; omega
      case rel => exact ⟨k + 1, a5, c5, m + Lk.length, by have := HK.out; have := HLT.out; omega, rfl, by go_num, by rw [HTk.out, List.length_append, ← HO.out.2.2], by rw [HTk.out, List.map_append]; exact F5.out.1, F5.out.2⟩
    · have hke : k = F.length := by have := HK.out; omega
      rw [hke, List.take_length] at HO
      obtain ⟨E, hE⟩ : ∃ E, E = F.flatMap Prod.snd := ⟨_, rfl⟩
      rw [← hE] at HO HA
      have HMe : Hid (m = E.length) := HO.out.2.2
      have hBr : B ≤ wr.heap.size := Nat.le_trans hB hb.size
      have HFw : Hid (∀ x ∈ F, OwnR B wr x.1 x.2) := fun x hx => (HF.out x hx).below hb
      have HRw : Hid (wr.ownsRow B 22 1 (.slice ar F.length cr) F.length (F.map Prod.fst)) := row_kept HRow.out fun q e => hb.block q (HRow.out.lt q e.symm).2
      have hEo : ∀ (j : Nat) (hj : j < E.length), Own B wr (E[j]).1 (E[j]).2 := fun j hj => by
        have h5 : ∀ x ∈ E, x ∈ F.flatMap Prod.snd := fun x hx => by rw [← hE]; exact hx
        obtain ⟨x, hx, h6⟩ := List.mem_flatMap.1 (h5 _ (List.getElem_mem hj))
        have := (HFw.out x hx).own _ h6
        exact this
      have HQ : Hid (Calls Try.prog 39 #[.slice av m cv] wr fun e w' => e = .returned (.bool true) ∧ Below B wr w' ∧ ∀ q, ((some q = (Value.slice ar F.length cr).ownBlock ∨ ∃ x ∈ F, some q = x.1.ownBlock)) → w'.heap[q]? = wr.heap[q]?) := by
        have hgd : ∀ j (hj : j < E.length), E.getD j (.slice none 0 0, []) = E[j] := fun j hj => by rw [List.getD_eq_getElem?_getD, List.getElem?_eq_getElem hj]; rfl
        refine apart_q (fun q => some q = (Value.slice ar F.length cr).ownBlock ∨ ∃ x ∈ F, some q = x.1.ownBlock) B (.slice av m cv) m (fun j => (E.getD j (.slice none 0 0, [])).1) (fun j => (E.getD j (.slice none 0 0, [])).2.length) wr hBr ?_ (fun j hj => ?_) (fun i j hi hj hne => ?_) (by have := HMe.out; have := HA.out.2.2.1; omega) (fun j hj => ?_) (fun j hj b e hq => ?_) (fun q hq => ?_)
        · have h5 := range_getD E (.slice none 0 0, []) Prod.fst
          rw [← HMe.out] at h5
          rw [h5]
          exact row_mono HO.out.1 hB
        · have hj' : j < E.length := by have := HMe.out; omega
          exact ⟨(E[j]).2, by rw [hgd j hj']; exact hEo j hj', by rw [hgd j hj']⟩
        · have hi' : i < E.length := by have := HMe.out; omega
          have hj' : j < E.length := by have := HMe.out; omega
          show (E.getD i _).1.ownBlock = none ∨ (E.getD i _).1.ownBlock ≠ (E.getD j _).1.ownBlock
          rw [hgd i hi', hgd j hj']
          exact apart_sym (f := fun x : Cls => x.1.ownBlock) HA.out.2.1 i j hi' hj' hne
        · have hj' : j < E.length := by have := HMe.out; omega
          show (E.getD j _).2.length * 8 ≤ _
          rw [hgd j hj']
          exact HA.out.2.2.2 _ (List.getElem_mem hj')
        · have hj' : j < E.length := by have := HMe.out; omega
          rw [hgd j hj'] at e
          rcases hq with h5 | ⟨x, hx, h5⟩
          · exact block_apart (by decide) HRw.out (hEo j hj') e h5.symm
          · exact block_apart (by decide) (HFw.out x hx).row (hEo j hj') e h5.symm
        · rcases hq with h5 | ⟨x, hx, h5⟩
          · exact (HRw.out.lt q h5.symm).2
          · exact ((HFw.out x hx).row.lt q h5.symm).2
      have HBw : Hid (Below w.heap.size w wr) := hb
      clear hEo hb
      go_wp2_with fail
      refine Calls.mono HQ.out ?_
      rintro e w2 ⟨rfl, hb2, hq2⟩
      have HRr : Hid (Calls Try.prog 40 #[.slice ar F.length cr] w2 fun e w' => e = .returned (.bool true) ∧ Below B w2 w' ∧ ∀ q : Nat, False → w'.heap[q]? = w2.heap[q]?) := by
        have hgd : ∀ j (hj : j < F.length), F.getD j (.slice none 0 0, []) = F[j] := fun j hj => by rw [List.getD_eq_getElem?_getD, List.getElem?_eq_getElem hj]; rfl
        refine apart_r (fun _ => False) B (.slice ar F.length cr) F.length (fun j => (F.getD j (.slice none 0 0, [])).1) (fun j => (F.getD j (.slice none 0 0, [])).2.length) w2 (Nat.le_trans hBr hb2.size) ?_ (fun j hj => ?_) (fun i j hi hj hne => ?_) (by omega) (fun j hj => ?_) (fun j hj b e hq => hq) (fun q hq => hq.elim)
        · rw [range_getD F (.slice none 0 0, []) Prod.fst]
          exact row_kept HRw.out fun q e => hq2 q (.inl e)
        · refine ⟨(F[j]).2.map Prod.fst, ?_, by rw [hgd j hj, List.length_map]⟩
          rw [hgd j hj]
          unfold OwnV
          rw [List.length_map]
          exact row_kept (HFw.out _ (List.getElem_mem hj)).row fun q e => hq2 q (.inr ⟨F[j], List.getElem_mem hj, e⟩)
        · show (F.getD i _).1.ownBlock = none ∨ (F.getD i _).1.ownBlock ≠ (F.getD j _).1.ownBlock
          rw [hgd i hi, hgd j hj]
          exact apart_sym (f := fun x : Value × List Cls => x.1.ownBlock) HA.out.1 i j hi hj hne
        · show (F.getD j _).2.length * 24 ≤ _
          rw [hgd j hj]
          have h5 := HA.out.2.2.1
          have h6 : (F[j]).2.length ≤ E.length := by
            rw [hE]
            exact flat_len hj
          omega
      have HB2 : Hid (Below B w w2) := (HBw.out.mono hB).trans hb2
      clear hb2 hq2 HQ
      go_wp2_with fail
      refine Calls.mono HRr.out ?_
      rintro e w3 ⟨rfl, hb3, -⟩
      have HB3 : Hid (Below B w w3) := HB2.out.trans hb3
      clear hb3
      go_wp2
      go_ret
      exact ⟨rfl, HB3.out⟩
/-- formulas that lie in a row: each its number of variables and its clauses -/
def fcells (F : List (Int × Value × List Cls)) : List Value := F.flatMap fun x => [.int .i64 x.1, x.2.1]
theorem fcells_at : ∀ (F : List (Int × Value × List Cls)) (j : Nat) (hj : j < F.length), (fcells F)[j * 2 + 1]? = some (F[j]).2.1
  | x :: r, 0, _ => rfl
  | x :: r, j + 1, hj => by
    have := fcells_at r j (by simpa using hj)
    have e : fcells (x :: r) = [.int .i64 x.1, x.2.1] ++ fcells r := rfl
    rw [e, List.getElem?_append_right (by simp; omega)]
    simpa [show (j + 1) * 2 + 1 - 2 = j * 2 + 1 by omega] using this
set_option maxRecDepth 100000 in
set_option maxHeartbeats 6400000 in
theorem apartFormulas_any (B : Nat) (rv : Value) (F : List (Int × Value × List Cls)) (w : World) (hB : B ≤ w.heap.size) (hrow : w.ownsRow B 24 2 rv F.length (fcells F)) (hown : ∀ x ∈ F, OwnR B w x.2.1 x.2.2)
    (hapR : (F.map Prod.snd).Pairwise (fun x y => x.1.ownBlock = none ∨ x.1.ownBlock ≠ y.1.ownBlock)) (hapL : ApartC ((F.map Prod.snd).flatMap Prod.snd)) (hF : F.length ≤ 65536) (hL : ((F.map Prod.snd).flatMap Prod.snd).length ≤ 2147483648) (hl : ∀ x ∈ (F.map Prod.snd).flatMap Prod.snd, x.2.length * 8 ≤ 140737488353280) :
    Calls Try.prog 14 #[rv] w fun e w' => e = .returned (.bool true) ∧ Below B w w' := by
  obtain ⟨iL, hiL, hL0, hL1, hL2⟩ := info_parts infoLr3
  have HIl : Hid (Try.prog.info? 22 = some iL ∧ iL.zero = some (.slice none 0 0) ∧ iL.size = 1 ∧ iL.bytes = 24) := ⟨hiL, hL0, hL1, hL2⟩
  have HRow : Hid (w.ownsRow B 24 2 rv F.length (fcells F)) := hrow
  have HAll : Hid (∀ rv2 w2, Below w.heap.size w w2 → w2.ownsRow w.heap.size 22 1 rv2 F.length ((F.map Prod.snd).map Prod.fst) → Calls Try.prog 28 #[rv2] w2 fun e w' => e = .returned (.bool true) ∧ Below B w2 w') := fun rv2 w2 hb2 hr2 => apartClauses_any B rv2 (F.map Prod.snd) w2 (Nat.le_trans hB hb2.size) (by rw [List.length_map]; exact row_mono hr2 hB) (fun x hx => by
    obtain ⟨y, hy, rfl⟩ := List.mem_map.1 hx
    exact (hown y hy).below hb2) hapR hapL (by rw [List.length_map]; exact hF) hL hl
  have HOw : Hid (∀ x ∈ F, OwnR B w x.2.1 x.2.2) := hown
  obtain ⟨ar, cr, er⟩ := row_form' hrow
  subst er
  clear hrow hown hapR hapL hL hl hiL hL0 hL1 hL2
  go_enter Try.func14, Try.ntmps14
  go_wp2
  go_loopg [3, 4] F.length (fun q r' i' wr => ∃ (k : Nat) (av : Option Addr) (cv : Nat), k + q = F.length ∧ r' = .slice av k cv ∧ i' = .int .i64 k ∧ wr.ownsRow w.heap.size 22 1 (.slice av k cv) k (((F.take k).map Prod.snd).map Prod.fst) ∧ Below w.heap.size w wr)
  case atStart => exact ⟨0, none, 0, by omega, rfl, rfl, World.ownsRow_nil _ _ _ _, Below.refl _ _⟩
  case round =>
    obtain ⟨k, av, cv, hk, rfl, rfl, ho, hb⟩ := hrel
    have HK : Hid (k + gk = F.length) := hk
    have HO : Hid (wr.ownsRow w.heap.size 22 1 (.slice av k cv) k (((F.take k).map Prod.snd).map Prod.fst) ∧ Below w.heap.size w wr) := ⟨ho, hb⟩
    clear hk ho
    by_cases hlt : k < F.length
    · obtain ⟨gr, cr', er, r1, -, -⟩ := row_some HRow.out (by omega)
      injection er with er _ er3
      subst er; subst er3
      have kc0 := row_cell HRow.out (fcells_at F k hlt)
      have kc : wr.cell? ⟨gr, k * 2 + 1, none⟩ = some (F[k]).2.1 := (hb.cell (p := ⟨gr, k * 2 + 1, none⟩) (World.block_lt_of_cell? w _ kc0)).trans kc0
      obtain ⟨ay, cy, ey⟩ := row_form (HOw.out _ (List.getElem_mem hlt)).row
      rw [ey] at kc
      have HTk : Hid (((F.take (k + 1)).map Prod.snd).map Prod.fst = ((F.take k).map Prod.snd).map Prod.fst ++ [.slice ay (F[k]).2.2.length cy]) := by show _ = _; rw [List.take_succ_eq_append_getElem hlt, List.map_append, List.map_append, ← ey]; rfl
      have HLT : Hid (k < F.length) := hlt
      clear kc0 ey hb
      generalize (F[k]).2.2.length = ly at *
      have HOa : Hid ((wr.alloc (.cells #[.slice ay ly cy] 22)).ownsRow w.heap.size 22 1 (.slice av k cv) k (((F.take k).map Prod.snd).map Prod.fst)) := World.ownsRow.alloc HO.out.1 _
      have HNa : Hid (∀ j y, [Value.slice ay ly cy][j]? = some y → (wr.alloc (.cells #[.slice ay ly cy] 22)).cell? ((⟨wr.heap.size, 0, none⟩ : Addr).add j) = some y) := cell_one_new wr _ _
      have HSa : Hid (w.heap.size ≤ (wr.alloc (.cells #[.slice ay ly cy] 22)).heap.size) := Nat.le_trans HO.out.2.size (below_box _ _).size
      have hl63 : k + 1 ≤ maxLen := by unfold maxLen; omega
      have hl48 : (k + 1) * 24 ≤ 140737488355328 := by omega
      have HBa : Hid (∀ v5 w5, Ap (wr.alloc (.cells #[.slice ay ly cy] 22)) (.slice av k cv) w5 v5 → Below w.heap.size w w5) := fun v5 w5 ha => (Below.step HO.out.2 (below_box _ _)).grown ha.grown HSa.out (fun q e => (HOa.out.lt q e).1)
      go_wp2_with (at_builtin; refine wpList_append_apk rfl _ _ 49 rfl w.heap.size 22 iL (.slice none 0 0) 1 24 Try.underlying49 HIl.out.1 HIl.out.2.1 HIl.out.2.2.1 HIl.out.2.2.2 rfl (by decide) (.slice av k cv) k (((F.take k).map Prod.snd).map Prod.fst) rfl HOa.out ⟨wr.heap.size, 0, none⟩ 1 1 [.slice ay ly cy] rfl rfl HNa.out (by simp [Value.oneCell']) hl63 hl48 HSa.out ?_; intro v5 w5 own5 ap5; obtain ⟨a5, c5, hv5⟩ := row_form' own5; subst hv5; have F5 : Hid (w5.ownsRow w.heap.size 22 1 (.slice a5 (k + 1) c5) (k + 1) (((F.take k).map Prod.snd).map Prod.fst ++ [.slice ay ly cy]) ∧ Below w.heap.size w w5) := ⟨own5, HBa.out _ _ ap5⟩; clear own5 ap5)
      go_roundg (gk - 1)
      case measure => have := HK.out; have := HLT.out; omega
      case rel => exact ⟨k + 1, a5, c5, by have := HK.out; have := HLT.out; omega, rfl, by go_num, by rw [HTk.out]; exact F5.out.1, F5.out.2⟩
    · obtain rfl : k = F.length := by have := HK.out; omega
      have HC : Hid (Calls Try.prog 28 #[.slice av F.length cv] wr fun e w' => e = .returned (.bool true) ∧ Below B wr w') := HAll.out _ wr HO.out.2 (by have := HO.out.1; rw [List.take_length] at this; exact this)
      clear hb
      go_wp2_with fail
      refine Calls.mono HC.out ?_
      rintro e w3 ⟨rfl, hb3⟩
      have HB3 : Hid (Below B w w3) := (HO.out.2.mono hB).trans hb3
      clear hb3
      go_wp2
      go_ret
      exact ⟨rfl, HB3.out⟩
end Go.Proofs.Ytbnnoajpmmbpbaa
