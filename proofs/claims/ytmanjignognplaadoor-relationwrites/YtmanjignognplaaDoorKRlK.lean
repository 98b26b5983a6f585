/-
  The document's WriteList of relations, walked.
  KEEP: one_row22 rd22 lisF head22 put22 cellAt22 OwnR OwnRs St22 LsAns RdR RdRs all22 below22 at22 blw Ap put_app step_append_apk len below nil form rd mono on app start at new trans refl kept own row out grown rdz set one more lt size cell some none letL tail next step go add put del get look no yes e c f b k n m box take each block shape os tape output setCell heap alloc addr last blk drew keep done
-/
import Derived.Test.YtmanjignognplaaDoorKRlJ
set_option linter.unusedSimpArgs false
set_option linter.unusedVariables false
namespace Go.Proofs.YtmanjignognplaaDoor
open Go Go.RowKit

theorem relC_at : ∀ (rs : List Rl) (j : Nat), j < rs.length → (relC rs)[j * 3]? = some (.string (rs.getD j noRl).1) ∧ (relC rs)[j * 3 + 1]? = some (.int .i64 (rs.getD j noRl).2.1) ∧ (relC rs)[j * 3 + 2]? = some (.string (rs.getD j noRl).2.2)
  | x :: r, 0, _ => ⟨rfl, rfl, rfl⟩
  | x :: r, j + 1, h => by
    have := relC_at r j (by simpa using h)
    have e : relC (x :: r) = .string x.1 :: .int .i64 x.2.1 :: .string x.2.2 :: relC r := rfl
    rw [e, show (j + 1) * 3 = j * 3 + 1 + 1 + 1 by omega, show j * 3 + 1 + 1 + 1 + 1 = (j * 3 + 1) + 1 + 1 + 1 by omega, show j * 3 + 1 + 1 + 1 + 2 = (j * 3 + 2) + 1 + 1 + 1 by omega]
    simpa using this
theorem OwnR.rd22 {B : Nat} {W : World} {v : Value} {rs : List Rl} (h : OwnR B W v rs) (h40 : rs.length * 40 ≤ 140737488351232) : RdR W v rs := by
  rcases h.2 with ⟨rfl, hn⟩ | ⟨g, cap, cur, rfl, hg, hh, hn, hm, hs, ht⟩
  · have : rs = [] := List.eq_nil_of_length_eq_zero hn
    subst this
    exact ⟨by simp, none, 0, rfl, Nat.le_refl _, Nat.zero_le _, fun h => absurd rfl h⟩
  · refine ⟨h40, _, cap, rfl, hn, hm, fun hne => ⟨g, 0, rfl, (Array.getElem?_eq_some_iff.1 hh).1, fun j hj => ?_⟩⟩
    have h1 := World.ownsRow.cellAt h (j * 3) (by omega)
    have h2 := World.ownsRow.cellAt h (j * 3 + 1) (by omega)
    have h3 := World.ownsRow.cellAt h (j * 3 + 2) (by omega)
    obtain ⟨e1, e2, e3⟩ := relC_at rs j hj
    rw [e1] at h1
    rw [e2] at h2
    rw [e3] at h3
    exact ⟨by simpa using h1, by simpa using h2, by simpa using h3⟩
theorem OwnRs.rd22 {B : Nat} {W : World} {v : Value} {L : List RG} (h : OwnRs B W v L) (h24 : L.length * 24 ≤ 140737488351232) (he : ∀ x ∈ L, x.2.length * 40 ≤ 140737488351232) : RdRs W v (rgS L) := by
  have hl : (rgS L).length = L.length := by simp [rgS]
  obtain ⟨a, c, rfl⟩ := row_form22 h.row
  rcases h.row.2 with ⟨e, hn⟩ | ⟨g, cap, cur, hv, hg, hh, hn, hm, hs, ht⟩
  · have : L = [] := List.eq_nil_of_length_eq_zero hn
    subst this
    injection e with q1 q2 q3
    subst q1 q3
    exact ⟨by simp [rgS], none, 0, rfl, Nat.le_refl _, Nat.zero_le _, fun h => absurd rfl h⟩
  · injection hv with q1 q2 q3
    subst q1 q3
    refine ⟨by rw [hl]; exact h24, _, _, by rw [hl], by rw [hl]; exact hn, hm, fun hne => ⟨g, 0, rfl, (Array.getElem?_eq_some_iff.1 hh).1, fun j hj => ?_⟩⟩
    rw [hl] at hj
    obtain ⟨g', e', _, hcell⟩ := h.cellAt22 hj
    injection e' with e'
    injection e' with e'
    subst e'
    have hx : L.getD j (undef, []) ∈ L := by rw [List.getD_eq_getElem?_getD, List.getElem?_eq_getElem hj]; exact List.getElem_mem hj
    refine ⟨_, by simpa using hcell, ?_⟩
    have h2 := (h.own _ hx).rd22 (he _ hx)
    have h3 : (rgS L).getD j [] = (L.getD j (undef, [])).2 := by unfold rgS; rw [List.getD_eq_getElem?_getD, List.getElem?_map, List.getD_eq_getElem?_getD, List.getElem?_eq_getElem hj]; rfl
    rw [h3]; exact h2
theorem one_row22 {B : Nat} (W : World) (r : Rl) (hB : B ≤ W.heap.size) : OwnR B (W.alloc (.cells #[.string r.1, .int .i64 r.2.1, .string r.2.2] 23)) (.slice (some ⟨W.heap.size, 0, none⟩) 1 1) [r] :=
  ⟨rfl, .inr ⟨W.heap.size, 1, #[.string r.1, .int .i64 r.2.1, .string r.2.2], rfl, hB, World.alloc_heap_new W _, Nat.le_refl _, by unfold maxLen; omega, rfl, rfl⟩⟩
theorem OwnRs.one22 {B : Nat} {W : World} {s : Value} {L : List RG} (h : OwnRs B W s L) (r : Rl) (hB : B ≤ W.heap.size) :
    St22 B (W.alloc (.cells #[.string r.1, .int .i64 r.2.1, .string r.2.2] 23)) s L (.slice (some ⟨W.heap.size, 0, none⟩) 1 1) [r] := by
  have hk : ∀ k, k < W.heap.size → (W.alloc (.cells #[.string r.1, .int .i64 r.2.1, .string r.2.2] 23)).heap[k]? = W.heap[k]? := fun k hk => Below.heap_alloc W _ k hk
  refine ⟨⟨row_kept22 h.row fun k e => hk k (World.ownsRow.lt h.row k e).2, fun x hx => row_kept22 (h.own x hx) fun k e => hk k (World.ownsRow.lt (h.own x hx) k e).2, h.ap⟩, one_row22 W r hB, fun x hx g e e2 => ?_⟩
  have h1 := (World.ownsRow.lt (h.own x hx) g e).2
  have h2 : W.heap.size = g := by simpa [Value.ownBlock] using e2
  omega

set_option maxHeartbeats 3200000 in
set_option maxRecDepth 20000 in
theorem rWriteList22_any (v : Value) (rs : List Rl) (w : World) (hr : RdR w v rs) (htot : szL (rs.map (fun r => [r])) ≤ 1099511627776) :
    Calls Tryd.prog 21 #[v] w fun e w' => e = .returned (wrA22 (lisT 0 ⟨#[]⟩ (rs.map (fun r => [r])))) ∧ Below w.heap.size w w' := by
  have hlen := hr.1
  have HR : Hid (RdR w v rs) := hr
  obtain ⟨a, c, rfl, hc, hm, _⟩ := hr.at22
  have HZ : Hid (szL (rs.map (fun r => [r])) ≤ 1099511627776) := htot
  obtain ⟨i1, hi, hz0, hz1, hz2⟩ := info_parts infoRs22
  have HIn1 : Hid (Tryd.prog.info? 32 = some i1 ∧ i1.zero = some (.slice none 0 0) ∧ i1.size = 1 ∧ i1.bytes = 24) := ⟨hi, hz0, hz1, hz2⟩
  clear hi hz0 hz1 hz2 hr htot
  go_enter Tryd.func21, Tryd.ntmps21
  go_wp2
  go_loopg [4, 5] rs.length (fun g x4 i wr => ∃ (k : Nat) (L : List RG) (a4 : Option Addr) (c4 : Nat), k + g = rs.length ∧ L.length = k ∧ i = .int .i64 k ∧ x4 = .slice a4 L.length c4 ∧ Hid (rgS L ++ (rs.drop k).map (fun r => [r]) = rs.map (fun r => [r])) ∧ Hid (OwnRs w.heap.size wr (.slice a4 L.length c4) L) ∧ Hid (Below w.heap.size w wr))
  case atStart => exact ⟨0, [], none, 0, by omega, rfl, rfl, rfl, rfl, OwnRs.nil _ _, Below.refl _ _⟩
  case round =>
    obtain ⟨k, L, a4, c4, hk, hLk, rfl, rfl, HK, HO, HB⟩ := hrel
    have HG : Hid (k + gk = rs.length) := hk
    by_cases hlt : k < rs.length
    · have HRw : RdR wr (.slice a rs.length c) rs := HR.out.below22 HB.out
      obtain ⟨a', c', e', _, _, hcl⟩ := HRw.at22
      have e3 : a' = a ∧ c' = c := by injection e' with q1 q2 q3; exact ⟨q1.symm, q3.symm⟩
      obtain ⟨rfl, rfl⟩ := e3
      obtain ⟨b, off, rfl, z0, z1, z2⟩ := hcl k hlt
      have hdr : rs.drop k = rs.getD k noRl :: rs.drop (k + 1) := by rw [List.drop_eq_getElem_cons hlt, List.getD_eq_getElem?_getD, List.getElem?_eq_getElem hlt]; rfl
      have HK2 : Hid ((rgS L ++ [[rs.getD k noRl]]) ++ (rs.drop (k + 1)).map (fun r => [r]) = rs.map (fun r => [r])) := by show _ = _; rw [← HK.out, hdr]; simp
      generalize rs.getD k noRl = r at *
      obtain ⟨n, o, v⟩ := r
      have HS : Hid (St22 w.heap.size (wr.alloc (.cells #[.string n, .int .i64 o, .string v] 23)) (.slice a4 L.length c4) L (.slice (some ⟨wr.heap.size, 0, none⟩) 1 1) [(n, o, v)]) := HO.out.one22 (n, o, v) HB.out.size
      have HBa : Hid (Below w.heap.size w (wr.alloc (.cells #[.string n, .int .i64 o, .string v] 23))) := Below.alloc HB.out HB.out.size _
      have y0 : wr.cell? ⟨b, off + k * 3, none⟩ = some (.string n) := z0
      have y1 : wr.cell? ⟨b, off + k * 3 + 1, none⟩ = some (.int .i64 o) := z1
      have y2 : wr.cell? ⟨b, off + k * 3 + 2, none⟩ = some (.string v) := z2
      have HRow2 : Hid (((wr.alloc (.cells #[.string n, .int .i64 o, .string v] 23)).alloc (.cells #[.slice (some ⟨wr.heap.size, 0, none⟩) 1 1] 32)).ownsRow w.heap.size 32 1 (.slice a4 L.length c4) L.length (rgC L)) := World.ownsRow.alloc HS.out.t.row _
      have hsn : (wr.alloc (.cells #[.string n, .int .i64 o, .string v] 23)).heap.size = wr.heap.size + 1 := by simp
      have HNw0 := one_new22 (wr.alloc (.cells #[.string n, .int .i64 o, .string v] 23)) (.slice (some ⟨wr.heap.size, 0, none⟩) 1 1) 32
      rw [hsn] at HNw0
      have HNw2 : Hid (∀ j u, [Value.slice (some ⟨wr.heap.size, 0, none⟩) 1 1][j]? = some u → ((wr.alloc (.cells #[.string n, .int .i64 o, .string v] 23)).alloc (.cells #[.slice (some ⟨wr.heap.size, 0, none⟩) 1 1] 32)).cell? ((⟨wr.heap.size + 1, 0, none⟩ : Addr).add j) = some u) := HNw0
      have HPt2 : Hid (∀ v9 w9, w9.ownsRow w.heap.size 32 1 v9 (L.length + 1) (rgC L ++ [.slice (some ⟨wr.heap.size, 0, none⟩) 1 1]) → Ap ((wr.alloc (.cells #[.string n, .int .i64 o, .string v] 23)).alloc (.cells #[.slice (some ⟨wr.heap.size, 0, none⟩) 1 1] 32)) (.slice a4 L.length c4) w9 v9 → (OwnRs w.heap.size w9 v9 (L ++ [(.slice (some ⟨wr.heap.size, 0, none⟩) 1 1, [(n, o, v)])]) ∧ ∃ a9 c9, v9 = .slice a9 (L.length + 1) c9) ∧ Below w.heap.size w w9) := fun v9 w9 o9 p9 => ⟨HS.out.done o9 p9, (Below.alloc HBa.out HBa.out.size _).grown p9.grown (Nat.le_trans HBa.out.size (by simp)) (fun q hq => (World.ownsRow.lt HS.out.t.row q hq).1)⟩
      have hszb : w.heap.size ≤ wr.heap.size := HB.out.size
      have hw1 : IntKind.i64.wrap ((k : Int) + 1) = (k : Int) + 1 := by rw [IntKind.wrap_i64]; omega
      clear e' hcl HRw hdr HK z0 z1 z2 hk HNw0 hsn HS HBa
      go_wp2_with (at_builtin; refine wpList_append_apk rfl (.tmp 12) (.tmp 18) 27 rfl w.heap.size 32 i1 (.slice none 0 0) 1 24 Tryd.underlying27 HIn1.out.1 HIn1.out.2.1 HIn1.out.2.2.1 HIn1.out.2.2.2 rfl (by decide) (.slice a4 L.length c4) L.length (rgC L) rfl HRow2.out ⟨wr.heap.size + 1, 0, none⟩ 1 1 [.slice (some ⟨wr.heap.size, 0, none⟩) 1 1] rfl rfl HNw2.out (by simp [Value.oneCell']) (by unfold maxLen; omega) (by omega) (by simp; omega) ?_; intro v9 w9 own9 ap9; obtain ⟨⟨s9, a9, c9, rfl⟩, b9⟩ := HPt2.out v9 w9 own9 ap9; have HT9 : Hid (OwnRs w.heap.size w9 (.slice a9 (L.length + 1) c9) (L ++ [(.slice (some ⟨wr.heap.size, 0, none⟩) 1 1, [(n, o, v)])])) := s9; have HB9 : Hid (Below w.heap.size w w9) := b9; clear own9 ap9 s9 b9)
      all_goals
        go_roundg (gk - 1)
        case measure => have := HG.out; omega
        case rel => exact ⟨k + 1, L ++ [(.slice (some ⟨wr.heap.size, 0, none⟩) 1 1, [(n, o, v)])], a9, c9, by have := HG.out; omega, by simp; omega, by first | rfl | go_num, by simp; omega, by show _ = _; have := HK2.out; simpa [rgS] using this, by rw [List.length_append]; exact HT9.out, HB9.out⟩
    · have HE : Hid (rgS L = rs.map (fun r => [r])) := by show _ = _; have := HK.out; rw [List.drop_eq_nil_of_le (by omega)] at this; simpa using this
      have hone : ∀ x ∈ L, x.2.length * 40 ≤ 140737488351232 := fun x hx => by
        have : x.2 ∈ rgS L := List.mem_map.2 ⟨x, hx, rfl⟩
        rw [HE.out] at this
        obtain ⟨r, _, e⟩ := List.mem_map.1 this
        rw [← e]; simp
      have hrd := HO.out.rd22 (by omega) hone
      rw [HE.out] at hrd
      have HW : Hid (Calls Tryd.prog 18 #[.slice a4 L.length c4] wr fun e w' => e = .returned (wrA22 (lisT 0 ⟨#[]⟩ (rs.map (fun r => [r])))) ∧ Below wr.heap.size wr w') := rWrite22_any _ _ wr hrd HZ.out
      clear hk HK hone hrd hLk
      generalize hLi : lisT 0 ⟨#[]⟩ (rs.map (fun r => [r])) = R at HW
      have HLi : Hid (lisT 0 ⟨#[]⟩ (rs.map (fun r => [r])) = R) := hLi
      clear hLi
      obtain ⟨tx, er, hA⟩ : ∃ tx er, wrA22 R = .tuple #[.string tx, .int .i64 er] := by cases R <;> exact ⟨_, _, rfl⟩
      rw [hA] at HW
      have HA : Hid (wrA22 R = .tuple #[.string tx, .int .i64 er]) := hA
      clear hA
      go_wp2_with fail
      refine HW.out.mono ?_
      rintro e w3 ⟨rfl, h3⟩
      have HB3 : Hid (Below w.heap.size w w3) := HB.out.trans (h3.mono HB.out.size)
      clear h3 HW
      go_wp2
      go_returns
      exact ⟨(congrArg Ending.returned (Eq.symm HA.out)).trans (by rw [HLi.out]), HB3.out⟩
end Go.Proofs.YtmanjignognplaaDoor
