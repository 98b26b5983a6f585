/-
  depotkit.ApartProofs, with a set of blocks that stay as they were.
  KEEP: len set on app at below new trans refl start ap kept rd rds mono row push put step side drew drewN mark weaken less store slice place cell lt prefix setOther own nil add none
-/
import Derived.Test.YtilcokpaeapmeaaDoorKAparSW
import Derived.Test.YtilcokpaeapmeaaDoorKDrC
set_option linter.unusedSimpArgs false
set_option linter.unusedVariables false
namespace Go.Proofs.YtilcokpaeapmeaaDoor
open Go Go.RowKit Go.Shelf

theorem apart_symz {α : Type} {f : α → Option Nat} {L : List α} (h : L.Pairwise (fun x y => f x = none ∨ f x ≠ f y)) : ∀ (i j : Nat) (hi : i < L.length) (hj : j < L.length), i ≠ j → f L[i] = none ∨ f L[i] ≠ f L[j] := fun i j hi hj hne => by
  have hp := List.pairwise_iff_getElem.1 h
  rcases Nat.lt_or_gt_of_ne hne with h1 | h1
  · exact hp i j hi hj h1
  · rcases hp j i hj hi h1 with h2 | h2
    · cases e : f L[i] with
      | none => exact .inl rfl
      | some b => exact .inr (by rw [h2]; simp)
    · exact .inr (Ne.symm h2)
theorem range_getDz {α : Type} (L : List α) (d : α) {β : Type} (f : α → β) : (List.range L.length).map (fun j => f (L.getD j d)) = L.map f := by
  apply List.ext_getElem?
  intro i
  by_cases h : i < L.length
  · rw [List.getElem?_map, List.getElem?_range h, List.getElem?_map, List.getElem?_eq_getElem h]
    simp [List.getD_eq_getElem?_getD, h]
  · rw [List.getElem?_eq_none (by simpa using h), List.getElem?_eq_none (by simpa using h)]
/-- all lists of all steps -/
def flZ (F : List (Value × List SV)) : List Cls := F.flatMap (fun x => x.2.map Prod.snd)
theorem flZ_snoc {F : List (Value × List SV)} {k : Nat} (h : k < F.length) : flZ (F.take (k + 1)) = flZ (F.take k) ++ (F[k]).2.map Prod.snd := by
  unfold flZ
  rw [List.take_succ_eq_append_getElem h, List.flatMap_append]; simp
theorem flZ_len {F : List (Value × List SV)} {j : Nat} (hj : j < F.length) : (flZ (F.take j)).length + (F[j]).2.length ≤ (flZ F).length := by
  have h7 : flZ F = flZ (F.take (j + 1)) ++ flZ (F.drop (j + 1)) := by unfold flZ; rw [← List.flatMap_append, List.take_append_drop]
  rw [h7, flZ_snoc hj, List.length_append, List.length_append, List.length_map]
  omega
theorem svC_sp (L : List SV) : svC L = spC (L.map fun x => (x.1, x.2.1)) := by
  induction L with
  | nil => rfl
  | cons x r ih =>
    have e1 : svC (x :: r) = .bool x.1 :: x.2.1 :: svC r := rfl
    have e2 : spC ((x :: r).map fun x => (x.1, x.2.1)) = .bool x.1 :: x.2.1 :: spC (r.map fun x => (x.1, x.2.1)) := rfl
    rw [e1, e2, ih]
theorem row_formz {w : World} {base e size n : Nat} {v : Value} {xs : List Value} (h : w.ownsRow base e size v n xs) : ∃ a cap, v = .slice a n cap := by
  rcases h.2 with ⟨rfl, hn⟩ | ⟨g, cap, cur, rfl, _⟩
  · exact ⟨none, 0, by rw [hn]⟩
  · exact ⟨_, cap, rfl⟩
theorem infoLz3 : (Tryd.prog.info? 58).map (fun i => (i.zero, i.size, i.bytes)) = some (some (.slice none 0 0), 1, 24) := by kernel_rfl
set_option maxRecDepth 100000 in
set_option maxHeartbeats 6400000 in
theorem apartProofs_q (Q : Nat → Prop) (B : Nat) (rv : Value) (F : List (Value × List SV)) (w : World) (hB : B ≤ w.heap.size) (hrow : w.ownsRow B 22 1 rv F.length (F.map Prod.fst)) (hown : ∀ x ∈ F, OwnZ B w x.1 x.2)
    (hapR : F.Pairwise (fun x y => x.1.ownBlock = none ∨ x.1.ownBlock ≠ y.1.ownBlock)) (hapL : ApartC (flZ F)) (hF : F.length ≤ 65536) (hL : (flZ F).length ≤ 2147483648) (hl : ∀ x ∈ flZ F, x.2.length * 8 ≤ 140737488353280) (hQs : ∀ k, Q k → k < w.heap.size) (hQr : ∀ x ∈ F, ∀ b, x.1.ownBlock = some b → ¬ Q b) (hQl : ∀ x ∈ flZ F, ∀ b, x.1.ownBlock = some b → ¬ Q b) :
    Calls Tryd.prog 17 #[rv] w fun e w' => e = .returned (.bool true) ∧ Below B w w' ∧ ∀ k, Q k → w'.heap[k]? = w.heap[k]? := by
  have HQq : Hid ((∀ k, Q k → k < w.heap.size) ∧ (∀ x ∈ F, ∀ b, x.1.ownBlock = some b → ¬ Q b) ∧ (∀ x ∈ flZ F, ∀ b, x.1.ownBlock = some b → ¬ Q b)) := ⟨hQs, hQr, hQl⟩
  clear hQs hQr hQl
  obtain ⟨iL, hiL, hL0, hL1, hL2⟩ := info_parts infoLz3
  have HIl : Hid (Tryd.prog.info? 58 = some iL ∧ iL.zero = some (.slice none 0 0) ∧ iL.size = 1 ∧ iL.bytes = 24) := ⟨hiL, hL0, hL1, hL2⟩
  have HF : Hid (∀ x ∈ F, OwnZ B w x.1 x.2) := hown
  have HA : Hid (F.Pairwise (fun x y => x.1.ownBlock = none ∨ x.1.ownBlock ≠ y.1.ownBlock) ∧ ApartC (flZ F) ∧ (flZ F).length ≤ 2147483648 ∧ (∀ x ∈ flZ F, x.2.length * 8 ≤ 140737488353280)) := ⟨hapR, hapL, hL, hl⟩
  have HRow : Hid (w.ownsRow B 22 1 rv F.length (F.map Prod.fst)) := hrow
  obtain ⟨ar, cr, er⟩ := row_formz hrow
  subst er
  clear hrow hown hapR hapL hL hl hiL hL0 hL1 hL2
  go_enter Tryd.func17, Tryd.ntmps17
  go_wp2
  go_loopg [3, 4, 5] F.length (fun q r' i' j' wr => ∃ (k : Nat) (av : Option Addr) (cv m : Nat), k + q = F.length ∧ r' = .slice av m cv ∧ i' = .int .i64 k ∧ m = (flZ (F.take k)).length ∧ wr.ownsRow w.heap.size 58 1 (.slice av m cv) m ((flZ (F.take k)).map Prod.fst) ∧ Below w.heap.size w wr)
  case atStart => exact ⟨0, none, 0, 0, by omega, rfl, rfl, rfl, World.ownsRow_nil _ _ _ _, Below.refl _ _⟩
  case round =>
    obtain ⟨k, av, cv, m, hk, rfl, rfl, hm, ho, hb⟩ := hrel
    have HK : Hid (k + gk = F.length) := hk
    have HO : Hid (wr.ownsRow w.heap.size 58 1 (.slice av m cv) m ((flZ (F.take k)).map Prod.fst) ∧ Below w.heap.size w wr ∧ m = (flZ (F.take k)).length) := ⟨ho, hb, hm⟩
    clear hk ho hm
    by_cases hlt : k < F.length
    · obtain ⟨gr, cr', er, r1, -, -⟩ := row_some (HRow.out) (by omega)
      injection er with er _ er3
      subst er; subst er3
      have HCk : Hid (∀ W, Below w.heap.size w W → W.cell? ⟨gr, k, none⟩ = some (F[k]).1 ∧ OwnZ B W (F[k]).1 (F[k]).2) := fun W hW => by
        have kc0 := row_cell HRow.out (j := k) (x := (F[k]).1) (by rw [List.getElem?_map, List.getElem?_eq_getElem hlt]; rfl)
        exact ⟨(hW.cell (p := ⟨gr, k, none⟩) (World.block_lt_of_cell? w _ kc0)).trans kc0, (HF.out _ (List.getElem_mem hlt)).below hW⟩
      obtain ⟨ay, cy, ey⟩ := row_formz (HCk.out w (Below.refl _ _)).2.row
      have HTk : Hid (flZ (F.take (k + 1)) = flZ (F.take k) ++ (F[k]).2.map Prod.snd) := flZ_snoc hlt
      have HLen : Hid (m + (F[k]).2.length ≤ 2147483648) := by
        have h5 := HA.out.2.2.1
        have h6 := flZ_len hlt
        rw [← HO.out.2.2] at h6
        show _ ≤ _
        omega
      rw [ey] at HCk
      have HLT : Hid (k < F.length) := hlt
      clear hb ey
      generalize (F[k]).2 = Lk at *
      generalize flZ (F.take k) = E0 at *
      generalize wr = w4 at *
      generalize gk = G at *
      go_wp2
      go_loopg [3, 5] Lk.length (fun q r' j' wr => ∃ (j : Nat) (av : Option Addr) (cv : Nat), j + q = Lk.length ∧ r' = .slice av (m + j) cv ∧ j' = .int .i64 j ∧ wr.ownsRow w.heap.size 58 1 (.slice av (m + j) cv) (m + j) ((E0 ++ (Lk.take j).map Prod.snd).map Prod.fst) ∧ Below w.heap.size w wr)
      case atStart => exact ⟨0, av, cv, by omega, rfl, rfl, by simpa using HO.out.1, HO.out.2.1⟩
      case round =>
        obtain ⟨j, av, cv, hj, rfl, rfl, ho, hb⟩ := hrel
        have HJ : Hid (j + gk = Lk.length) := hj
        have HO2 : Hid (wr.ownsRow w.heap.size 58 1 (.slice av (m + j) cv) (m + j) ((E0 ++ (Lk.take j).map Prod.snd).map Prod.fst) ∧ Below w.heap.size w wr) := ⟨ho, hb⟩
        obtain ⟨kc, hz⟩ := HCk.out wr hb
        clear hj ho
        by_cases hjl : j < Lk.length
        · obtain ⟨gy, cy', ery, ry, -, -⟩ := row_some hz.row (by omega)
          injection ery with ery _ ery3
          subst ery; subst ery3
          obtain ⟨s1, s2⟩ := svC_at Lk j hjl
          have kl := row_cell hz.row s2
          obtain ⟨ax, cx, ex⟩ := own_form (hz.own _ (List.getElem_mem hjl))
          rw [ex] at kl
          have HTj : Hid ((E0 ++ (Lk.take (j + 1)).map Prod.snd).map Prod.fst = (E0 ++ (Lk.take j).map Prod.snd).map Prod.fst ++ [.slice ax (Lk[j]).2.2.length cx]) := by
            show _ = _
            rw [List.take_succ_eq_append_getElem hjl, ← ex]
            simp only [List.map_append, List.append_assoc]
            rfl
          have HJL : Hid (j < Lk.length) := hjl
          clear hb hz s1 s2 ex
          generalize (Lk[j]).2.2.length = lx at *
          have HOa : Hid ((wr.alloc (.cells #[.slice ax lx cx] 58)).ownsRow w.heap.size 58 1 (.slice av (m + j) cv) (m + j) ((E0 ++ (Lk.take j).map Prod.snd).map Prod.fst)) := World.ownsRow.alloc HO2.out.1 _
          have HNa : Hid (∀ i y, [Value.slice ax lx cx][i]? = some y → (wr.alloc (.cells #[.slice ax lx cx] 58)).cell? ((⟨wr.heap.size, 0, none⟩ : Addr).add i) = some y) := cell_one_new wr _ _
          have HSa : Hid (w.heap.size ≤ (wr.alloc (.cells #[.slice ax lx cx] 58)).heap.size) := Nat.le_trans HO2.out.2.size (below_box _ _).size
          have hl5 := HLen.out
          have hl63 : m + j + 1 ≤ maxLen := by unfold maxLen; omega
          have hl48 : (m + j + 1) * 24 ≤ 140737488355328 := by omega
          have HBa : Hid (∀ v5 w5, Ap (wr.alloc (.cells #[.slice ax lx cx] 58)) (.slice av (m + j) cv) w5 v5 → Below w.heap.size w w5) := fun v5 w5 ha => (Below.step HO2.out.2 (below_box _ _)).grown ha.grown HSa.out (fun q e => (HOa.out.lt q e).1)
          go_wp2_with (at_builtin; refine wpList_append_apk rfl _ _ 23 rfl w.heap.size 58 iL (.slice none 0 0) 1 24 Tryd.underlying23 HIl.out.1 HIl.out.2.1 HIl.out.2.2.1 HIl.out.2.2.2 rfl (by decide) (.slice av (m + j) cv) (m + j) ((E0 ++ (Lk.take j).map Prod.snd).map Prod.fst) rfl HOa.out ⟨wr.heap.size, 0, none⟩ 1 1 [.slice ax lx cx] rfl rfl HNa.out (by simp [Value.oneCell']) hl63 hl48 HSa.out ?_; intro v5 w5 own5 ap5; obtain ⟨a5, c5, hv5⟩ := row_formz own5; subst hv5; have F5 : Hid (w5.ownsRow w.heap.size 58 1 (.slice a5 (m + j + 1) c5) (m + j + 1) ((E0 ++ (Lk.take j).map Prod.snd).map Prod.fst ++ [.slice ax lx cx]) ∧ Below w.heap.size w w5) := ⟨own5, HBa.out _ _ ap5⟩; clear own5 ap5)
          go_roundg (gk - 1)
          case measure => have := HJ.out; have := HJL.out; omega
          case rel => exact ⟨j + 1, a5, c5, by have := HJ.out; have := HJL.out; omega, rfl, by go_num, by rw [HTj.out]; exact F5.out.1, F5.out.2⟩
        · obtain rfl : j = Lk.length := by have := HJ.out; omega
          clear hb hz
          go_wp2
          go_roundg (G - 1)
          case measure => have := HK.out; have := HLT.out; omega
          case rel => exact ⟨k + 1, av, cv, m + Lk.length, by have := HK.out; have := HLT.out; omega, rfl, by go_num, by rw [HTk.out, List.length_append, List.length_map, ← HO.out.2.2], by have h5 := HO2.out.1; rw [List.take_length] at h5; rw [HTk.out]; exact h5, HO2.out.2⟩
    · have hke : k = F.length := by have := HK.out; omega
      rw [hke, List.take_length] at HO
      obtain ⟨E, hE⟩ : ∃ E, E = flZ F := ⟨_, rfl⟩
      rw [← hE] at HO HA HQq
      have HMe : Hid (m = E.length) := HO.out.2.2
      have hBr : B ≤ wr.heap.size := Nat.le_trans hB hb.size
      have HFw : Hid (∀ x ∈ F, OwnZ B wr x.1 x.2) := fun x hx => (HF.out x hx).below hb
      have HRw : Hid (wr.ownsRow B 22 1 (.slice ar F.length cr) F.length (F.map Prod.fst)) := row_kept HRow.out fun q e => hb.block q (HRow.out.lt q e.symm).2
      have hEo : ∀ (j : Nat) (hj : j < E.length), Own B wr (E[j]).1 (E[j]).2 := fun j hj => by
        have h5 : ∀ x ∈ E, x ∈ flZ F := fun x hx => by rw [← hE]; exact hx
        obtain ⟨x, hx, h6⟩ := List.mem_flatMap.1 (h5 _ (List.getElem_mem hj))
        obtain ⟨y, hy, h7⟩ := List.mem_map.1 h6
        have := (HFw.out x hx).own _ hy
        rw [← h7]
        exact this
      have HQ : Hid (Calls Tryd.prog 43 #[.slice av m cv] wr fun e w' => e = .returned (.bool true) ∧ Below B wr w' ∧ ∀ q, ((some q = (Value.slice ar F.length cr).ownBlock ∨ ∃ x ∈ F, some q = x.1.ownBlock) ∨ Q q) → w'.heap[q]? = wr.heap[q]?) := by
        have hgd : ∀ j (hj : j < E.length), E.getD j (.slice none 0 0, []) = E[j] := fun j hj => by rw [List.getD_eq_getElem?_getD, List.getElem?_eq_getElem hj]; rfl
        refine apart_q (fun q => (some q = (Value.slice ar F.length cr).ownBlock ∨ ∃ x ∈ F, some q = x.1.ownBlock) ∨ Q q) B (.slice av m cv) m (fun j => (E.getD j (.slice none 0 0, [])).1) (fun j => (E.getD j (.slice none 0 0, [])).2.length) wr hBr ?_ (fun j hj => ?_) (fun i j hi hj hne => ?_) (by have := HMe.out; have := HA.out.2.2.1; omega) (fun j hj => ?_) (fun j hj b e hq => ?_) (fun q hq => ?_)
        · have h5 := range_getDz E (.slice none 0 0, []) Prod.fst
          rw [← HMe.out] at h5
          rw [h5]
          exact row_mono HO.out.1 hB
        · have hj' : j < E.length := by have := HMe.out; omega
          exact ⟨(E[j]).2, by rw [hgd j hj']; exact hEo j hj', by rw [hgd j hj']⟩
        · have hi' : i < E.length := by have := HMe.out; omega
          have hj' : j < E.length := by have := HMe.out; omega
          show (E.getD i _).1.ownBlock = none ∨ (E.getD i _).1.ownBlock ≠ (E.getD j _).1.ownBlock
          rw [hgd i hi', hgd j hj']
          exact apart_symz (f := fun x : Cls => x.1.ownBlock) HA.out.2.1 i j hi' hj' hne
        · have hj' : j < E.length := by have := HMe.out; omega
          show (E.getD j _).2.length * 8 ≤ _
          rw [hgd j hj']
          exact HA.out.2.2.2 _ (List.getElem_mem hj')
        · have hj' : j < E.length := by have := HMe.out; omega
          rw [hgd j hj'] at e
          rcases hq with (h5 | ⟨x, hx, h5⟩) | h5
          · exact block_apart (by decide) HRw.out (hEo j hj') e h5.symm
          · exact block_apart (by decide) (HFw.out x hx).row (hEo j hj') e h5.symm
          · exact HQq.out.2.2 _ (List.getElem_mem hj') b e h5
        · rcases hq with (h5 | ⟨x, hx, h5⟩) | h5
          · exact (HRw.out.lt q h5.symm).2
          · exact ((HFw.out x hx).row.lt q h5.symm).2
          · exact Nat.lt_of_lt_of_le (HQq.out.1 q h5) hb.size
      have HBw : Hid (Below w.heap.size w wr) := hb
      clear hEo hb
      go_wp2_with fail
      refine Calls.mono HQ.out ?_
      rintro e w2 ⟨rfl, hb2, hq2⟩
      have HRr : Hid (Calls Tryd.prog 44 #[.slice ar F.length cr] w2 fun e w' => e = .returned (.bool true) ∧ Below B w2 w' ∧ ∀ q : Nat, Q q → w'.heap[q]? = w2.heap[q]?) := by
        have hgd : ∀ j (hj : j < F.length), F.getD j (.slice none 0 0, []) = F[j] := fun j hj => by rw [List.getD_eq_getElem?_getD, List.getElem?_eq_getElem hj]; rfl
        refine apart_s Q B (.slice ar F.length cr) F.length (fun j => (F.getD j (.slice none 0 0, [])).1) (fun j => (F.getD j (.slice none 0 0, [])).2.length) w2 (Nat.le_trans hBr hb2.size) ?_ (fun j hj => ?_) (fun i j hi hj hne => ?_) (by omega) (fun j hj => ?_) (fun j hj b e hq => by rw [hgd j hj] at e; exact HQq.out.2.1 _ (List.getElem_mem hj) b e hq) (fun q hq => Nat.lt_of_lt_of_le (HQq.out.1 q hq) (Nat.le_trans HBw.out.size hb2.size))
        · rw [range_getDz F (.slice none 0 0, []) Prod.fst]
          exact row_kept HRw.out fun q e => hq2 q (.inl (.inl e))
        · refine ⟨(F[j]).2.map (fun x => (x.1, x.2.1)), ?_, by rw [hgd j hj, List.length_map]⟩
          rw [hgd j hj]
          unfold OwnSp
          rw [List.length_map, ← svC_sp]
          exact row_kept (HFw.out _ (List.getElem_mem hj)).row fun q e => hq2 q (.inl (.inr ⟨F[j], List.getElem_mem hj, e⟩))
        · show (F.getD i _).1.ownBlock = none ∨ (F.getD i _).1.ownBlock ≠ (F.getD j _).1.ownBlock
          rw [hgd i hi, hgd j hj]
          exact apart_symz (f := fun x : Value × List SV => x.1.ownBlock) HA.out.1 i j hi hj hne
        · show (F.getD j _).2.length * 32 ≤ _
          rw [hgd j hj]
          have h5 := HA.out.2.2.1
          have h6 := flZ_len hj
          rw [← hE] at h6
          omega
      have HB2 : Hid (Below B w w2) := (HBw.out.mono hB).trans hb2
      have HQ2 : Hid (∀ k, Q k → w2.heap[k]? = w.heap[k]?) := fun k hk => (hq2 k (.inr hk)).trans (HBw.out.block k (HQq.out.1 k hk))
      clear hb2 hq2 HQ
      go_wp2_with fail
      refine Calls.mono HRr.out ?_
      rintro e w3 ⟨rfl, hb3, hq3⟩
      have HB3 : Hid (Below B w w3 ∧ ∀ k, Q k → w3.heap[k]? = w.heap[k]?) := ⟨HB2.out.trans hb3, fun k hk => (hq3 k hk).trans (HQ2.out k hk)⟩
      clear hb3 hq3
      go_wp2
      go_ret
      exact ⟨rfl, HB3.out⟩
end Go.Proofs.YtilcokpaeapmeaaDoor
