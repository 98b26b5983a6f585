/-
  The document's Write of relations, walked.
  KEEP: lisF head22 put22 cellAt22 OwnR OwnRs St22 LsAns RdR RdRs all22 below22 at22 blw Ap put_app step_append_apk len below nil form rd mono on app start at new trans refl kept own row out grown rdz set one more lt size cell some none letL tail next step go add put del get look no yes e c f b k n m box take each block shape os tape output setCell heap alloc addr last blk drew keep done
-/
import Derived.Test.YtmanjignognplaaDoorJRlG
set_option linter.unusedSimpArgs false
set_option linter.unusedVariables false
namespace Go.Proofs.YtmanjignognplaaDoor
open Go Go.RowKit

theorem RdRs.all22 {w : World} {a : Option Addr} {c k : Nat} {l : List (List Rl)} (h : RdRs w (.slice a l.length c) l) (hk : k < l.length) :
    ∃ b off au cu, a = some ⟨b, off, none⟩ ∧ (l.getD k []).length ≤ cu ∧ cu ≤ maxLen ∧ (∀ W', Below w.heap.size w W' → W'.cell? ⟨b, off + k, none⟩ = some (.slice au (l.getD k []).length cu)) ∧
      (l.getD k [] ≠ [] → ∃ b2 off2, au = some ⟨b2, off2, none⟩ ∧ ∀ j, j < (l.getD k []).length → ∀ W', Below w.heap.size w W' → W'.cell? ⟨b2, off2 + j * 3, none⟩ = some (.string ((l.getD k []).getD j noRl).1) ∧ W'.cell? ⟨b2, off2 + j * 3 + 1, none⟩ = some (.int .i64 ((l.getD k []).getD j noRl).2.1) ∧ W'.cell? ⟨b2, off2 + j * 3 + 2, none⟩ = some (.string ((l.getD k []).getD j noRl).2.2)) := by
  obtain ⟨h1, a', c', e, hc, hm, h2⟩ := h
  injection e with q1 q2 q3
  subst q1
  obtain ⟨b, off, rfl, hlt, hcell⟩ := h2 (by intro e; subst e; simp at hk)
  obtain ⟨u, x, y⟩ := hcell k hk
  obtain ⟨y1, au, cu, rfl, yc, ym, y2⟩ := y
  refine ⟨b, off, au, cu, rfl, yc, ym, fun W' hb => (hb.cell (p := ⟨b, off + k, none⟩) hlt).trans x, fun hne => ?_⟩
  obtain ⟨b2, off2, e2, hl2, hc2⟩ := y2 hne
  refine ⟨b2, off2, e2, fun j hj W' hb => ?_⟩
  obtain ⟨p1, p2, p3⟩ := hc2 j hj
  exact ⟨(hb.cell (p := ⟨b2, off2 + j * 3, none⟩) hl2).trans p1, (hb.cell (p := ⟨b2, off2 + j * 3 + 1, none⟩) hl2).trans p2, (hb.cell (p := ⟨b2, off2 + j * 3 + 2, none⟩) hl2).trans p3⟩

set_option maxHeartbeats 6400000 in
set_option maxRecDepth 20000 in
theorem rWrite22_any (v : Value) (l : List (List Rl)) (w : World) (hr : RdRs w v l) (htot : szL l ≤ 1099511627776) :
    Calls Tryd.prog 18 #[v] w fun e w' => e = .returned (wrA22 (lisT 0 ⟨#[]⟩ l)) ∧ Below w.heap.size w w' := by
  have hlen := hr.1
  have HR : Hid (RdRs w v l) := hr
  obtain ⟨a, c, rfl, hc, hm, _⟩ := hr.at22
  have HK0 : Hid (lisT 0 ⟨#[]⟩ l = lisT 0 ⟨#[]⟩ (l.drop 0)) := by show _ = _; rw [List.drop_zero]
  have HT0 : Hid ((⟨#[]⟩ : ByteArray).size + szL (l.drop 0) ≤ 1099511627776) := by show _ ≤ _; rw [List.drop_zero]; show 0 + szL l ≤ _; omega
  generalize lisT 0 ⟨#[]⟩ l = R at *
  clear hr htot
  go_enter Tryd.func18, Tryd.ntmps18
  go_wp2
  go_loopg [4, 5, 6] l.length (fun g x4 i x6 wr => ∃ (k : Nat) (acc : ByteArray), k + g = l.length ∧ i = .int .i64 k ∧ x4 = .string acc ∧ Hid (R = lisT k acc (l.drop k)) ∧ Hid (acc.size + szL (l.drop k) ≤ 1099511627776) ∧ Hid (Below w.heap.size w wr))
  case atStart => exact ⟨0, ⟨#[]⟩, by omega, rfl, rfl, HK0.out, HT0.out, Below.refl _ _⟩
  case round =>
    obtain ⟨k, acc, hk, rfl, rfl, HK, HT, HB⟩ := hrel
    have HG : Hid (k + gk = l.length) := hk
    clear HK0 HT0
    by_cases hlt : k < l.length
    · obtain ⟨b, off, au, cu, rfl, hcu1, hcu2, hcw, hcc⟩ := HR.out.all22 hlt
      have hK2 := HK.out
      rw [lis_drop acc hlt] at hK2
      have hT2 := HT.out
      rw [szL_drop hlt] at hT2
      have HK2 : Hid (R = if l.getD k [] = [] then none else match altT 0 (if k = 0 then acc else acc ++ ⟨#[44, 32]⟩) (l.getD k []) with | none => none | some a => lisT (k + 1) a (l.drop (k + 1))) := hK2
      have HT2 : Hid (acc.size + (szR (l.getD k []) + 2 + szL (l.drop (k + 1))) ≤ 1099511627776) := hT2
      have HCw : Hid (∀ W', Below w.heap.size w W' → W'.cell? ⟨b, off + k, none⟩ = some (.slice au (l.getD k []).length cu)) := hcw
      have HCc : Hid (l.getD k [] ≠ [] → ∃ b2 off2, au = some ⟨b2, off2, none⟩ ∧ ∀ j, j < (l.getD k []).length → ∀ W', Below w.heap.size w W' → W'.cell? ⟨b2, off2 + j * 3, none⟩ = some (.string ((l.getD k []).getD j noRl).1) ∧ W'.cell? ⟨b2, off2 + j * 3 + 1, none⟩ = some (.int .i64 ((l.getD k []).getD j noRl).2.1) ∧ W'.cell? ⟨b2, off2 + j * 3 + 2, none⟩ = some (.string ((l.getD k []).getD j noRl).2.2)) := hcc
      have hcu := HCw.out wr HB.out
      clear hcw hcc hK2 hT2 HK HT hk
      generalize l.getD k [] = rs at *
      have hw1 : IntKind.i64.wrap ((k : Int) + 1) = (k : Int) + 1 := by rw [IntKind.wrap_i64]; omega
      by_cases hrs : rs.length = 0
      · have hrn : rs = [] := List.eq_nil_of_length_eq_zero hrs
        have HE : Hid (R = none) := by show _ = _; rw [HK2.out, if_pos hrn]
        have hb : ((rs.length : Int) == 0) = true := by simp; omega
        clear HK2 hrn hrs
        go_wp2
        go_returns
        rw [HE.out]
        exact ⟨rfl, HB.out⟩
      have hrn : rs ≠ [] := fun e => hrs (by rw [e]; rfl)
      obtain ⟨b2, off2, rfl, hcc⟩ := HCc.out hrn
      have HCd : Hid (∀ j, j < rs.length → ∀ W', Below w.heap.size w W' → W'.cell? ⟨b2, off2 + j * 3, none⟩ = some (.string (rs.getD j noRl).1) ∧ W'.cell? ⟨b2, off2 + j * 3 + 1, none⟩ = some (.int .i64 (rs.getD j noRl).2.1) ∧ W'.cell? ⟨b2, off2 + j * 3 + 2, none⟩ = some (.string (rs.getD j noRl).2.2)) := hcc
      clear hcc HCc
      have hrb : ((rs.length : Int) == 0) = false := by simp; omega
      obtain ⟨acc0, hacc⟩ : ∃ acc0, acc0 = (if k = 0 then acc else acc ++ (⟨#[44, 32]⟩ : ByteArray)) := ⟨_, rfl⟩
      have hs2 : (acc ++ (⟨#[44, 32]⟩ : ByteArray)).size = acc.size + 2 := ByteArray.size_append
      have hs0 : acc0.size ≤ acc.size + 2 := by rw [hacc]; split <;> omega
      have HK3 : Hid (R = match altT 0 acc0 (rs.drop 0) with | none => none | some a => lisT (k + 1) a (l.drop (k + 1))) := by show _ = _; rw [HK2.out, if_neg hrn, hacc, List.drop_zero]
      have HT3 : Hid (acc0.size + szR (rs.drop 0) + szL (l.drop (k + 1)) ≤ 1099511627776) := by show _ ≤ _; rw [List.drop_zero]; have := HT2.out; omega
      have HAs : Hid (∀ t, altT 0 acc0 (rs.drop 0) = some t → t.size + szL (l.drop (k + 1)) ≤ 1099511627776) := fun t h => by have := alt_size _ _ _ _ h; have := HT3.out; omega
      have hcat := cat22 acc ⟨#[44, 32]⟩ (by have := HT2.out; show acc.size + 2 ≤ _; omega)
      have hHa : Hid ((k : Int) = 0 → acc0 = acc) := fun h => by rw [hacc, if_pos (by omega)]
      have hHb : Hid (0 < (k : Int) → acc ++ (⟨#[44, 32]⟩ : ByteArray) = acc0) := fun h => by rw [hacc, if_neg (by omega)]
      clear HK2 HT2 hacc hrs hs2 hs0
      generalize acc ++ (⟨#[44, 32]⟩ : ByteArray) = acc1 at *
      obtain ⟨A, hA⟩ : ∃ A, A = altT 0 acc0 (rs.drop 0) := ⟨_, rfl⟩
      rw [← hA] at HK3 HAs
      have HA : Hid (A = altT 0 acc0 (rs.drop 0)) := hA
      clear hA
      have goal1 : (0 < (k : Int) ∧ acc1 = acc0) ∨ (¬ 0 < (k : Int) ∧ acc = acc0) := by
        by_cases h : (k : Int) = 0
        · exact .inr ⟨by omega, (hHa.out h).symm⟩
        · exact .inl ⟨by omega, hHb.out (by omega)⟩
      clear hHa hHb
      rcases goal1 with ⟨hp, hq⟩ | ⟨hp, hq⟩
      all_goals
        subst hq
        go_wp2
        clear hcat hcu hrb hrn hp
        try generalize decide (0 < k) = dk at *
        go_loopg [4, 6] rs.length (fun g x4 j wx => ∃ (q : Nat) (ac : ByteArray), q + g = rs.length ∧ j = .int .i64 q ∧ x4 = .string ac ∧ Hid (A = altT q ac (rs.drop q)) ∧ Hid (ac.size + szR (rs.drop q) ≤ 1099511627776) ∧ Hid (Below w.heap.size w wx))
        case atStart => exact ⟨0, _, by omega, rfl, rfl, HA.out, by have := HT3.out; show _ ≤ _; omega, HB.out⟩
        case round =>
          obtain ⟨q, ac, hq, rfl, rfl, HJ, HU, HC⟩ := hrel
          have HGq : Hid (q + gk = rs.length) := hq
          clear HA HT3 HB
          have hcw := HCw.out wr HC.out
          by_cases hql : q < rs.length
          · have hj2 := HJ.out
            rw [alt_drop ac hql] at hj2
            have hu2 := HU.out
            rw [szR_drop hql] at hu2
            have HJ2 : Hid (A = if relB (rs.getD q noRl).1 (rs.getD q noRl).2.1 (rs.getD q noRl).2.2 = false then none else altT (q + 1) ((if q = 0 then ac else ac ++ ⟨#[32, 124, 32]⟩) ++ txtB (rs.getD q noRl).1 (rs.getD q noRl).2.1 (rs.getD q noRl).2.2) (rs.drop (q + 1))) := hj2
            have HU2 : Hid (ac.size + ((rs.getD q noRl).1.size + (rs.getD q noRl).2.2.size + 10 + szR (rs.drop (q + 1))) ≤ 1099511627776) := hu2
            have HCq : Hid (∀ W', Below w.heap.size w W' → W'.cell? ⟨b2, off2 + q * 3, none⟩ = some (.string (rs.getD q noRl).1) ∧ W'.cell? ⟨b2, off2 + q * 3 + 1, none⟩ = some (.int .i64 (rs.getD q noRl).2.1) ∧ W'.cell? ⟨b2, off2 + q * 3 + 2, none⟩ = some (.string (rs.getD q noRl).2.2)) := HCd.out q hql
            clear hj2 hu2 HJ HU hq
            generalize rs.getD q noRl = r at *
            obtain ⟨n, o, v⟩ := r
            have HJ3 : Hid (A = if relB n o v = false then none else altT (q + 1) ((if q = 0 then ac else ac ++ ⟨#[32, 124, 32]⟩) ++ txtB n o v) (rs.drop (q + 1))) := HJ2.out
            have HU3 : Hid (ac.size + (n.size + v.size + 10 + szR (rs.drop (q + 1))) ≤ 1099511627776) := HU2.out
            have hnv : n.size ≤ 1099511627776 ∧ v.size ≤ 1099511627776 := by have := HU3.out; omega
            have HFo : Hid (∀ V, Calls Tryd.prog 8 #[.agg #[.string n, .int .i64 o, .string v]] V fun e w' => e = .returned (.bool (relB n o v)) ∧ Below V.heap.size V w') := fun V => rFormed22_any n o v V (by omega) (by omega) (fun V => rLegal20_any v V (by omega))
            have HTx : Hid (∀ V, Calls Tryd.prog 37 #[.agg #[.string n, .int .i64 o, .string v]] V fun e w' => e = .returned (.string (txtB n o v)) ∧ Below V.heap.size V w') := fun V => rText22_any n o v V hnv.1 hnv.2
            have HTs : Hid ((txtB n o v).size ≤ n.size + v.size + 6) := txtB_size n o v
            obtain ⟨e0, e1, e2⟩ : wr.cell? ⟨b2, off2 + q * 3, none⟩ = some (.string n) ∧ wr.cell? ⟨b2, off2 + q * 3 + 1, none⟩ = some (.int .i64 o) ∧ wr.cell? ⟨b2, off2 + q * 3 + 2, none⟩ = some (.string v) := HCq.out wr HC.out
            have hw2 : IntKind.i64.wrap ((q : Int) + 1) = (q : Int) + 1 := by have hm2 := hcu2; unfold maxLen at hm2; rw [IntKind.wrap_i64]; omega
            clear HJ2 HU2 hnv
            generalize txtB n o v = T at *
            go_wp2_with fail
            refine (HFo.out _).mono ?_
            rintro e w3 ⟨rfl, h3⟩
            have HC3 : Hid (Below w.heap.size w w3) := HC.out.trans (h3.mono HC.out.size)
            clear h3 HFo hcw e0 e1 e2 HC
            cases hrel : relB n o v
            · have HE : Hid (R = none) := by show _ = _; rw [HK3.out, HJ3.out, if_pos hrel]
              clear HJ3 HK3 HAs hrel
              go_wp2
              go_returns
              rw [HE.out]
              exact ⟨rfl, HC3.out⟩
            have hcw := HCw.out w3 HC3.out
            obtain ⟨e0, e1, e2⟩ : w3.cell? ⟨b2, off2 + q * 3, none⟩ = some (.string n) ∧ w3.cell? ⟨b2, off2 + q * 3 + 1, none⟩ = some (.int .i64 o) ∧ w3.cell? ⟨b2, off2 + q * 3 + 2, none⟩ = some (.string v) := HCq.out w3 HC3.out
            obtain ⟨ac0, hac⟩ : ∃ ac0, ac0 = (if q = 0 then ac else ac ++ (⟨#[32, 124, 32]⟩ : ByteArray)) := ⟨_, rfl⟩
            have hs3 : (ac ++ (⟨#[32, 124, 32]⟩ : ByteArray)).size = ac.size + 3 := ByteArray.size_append
            have hs0 : ac0.size ≤ ac.size + 3 := by rw [hac]; split <;> omega
            have HJ4 : Hid (A = altT (q + 1) (ac0 ++ T) (rs.drop (q + 1))) := by show _ = _; rw [HJ3.out, if_neg (by rw [hrel]; simp), hac]
            have hcat := cat22 ac ⟨#[32, 124, 32]⟩ (by have := HU3.out; show ac.size + 3 ≤ _; omega)
            have hcat2 := cat22 ac0 T (by have := HU3.out; have := HTs.out; omega)
            have hs4 : (ac0 ++ T).size = ac0.size + T.size := ByteArray.size_append
            have HU4 : Hid ((ac0 ++ T).size + szR (rs.drop (q + 1)) ≤ 1099511627776) := by show _ ≤ _; have := HU3.out; have := HTs.out; omega
            have goal2 : (0 < (q : Int) ∧ ac ++ (⟨#[32, 124, 32]⟩ : ByteArray) = ac0) ∨ (¬ 0 < (q : Int) ∧ ac = ac0) := by
              by_cases h : q = 0
              · exact .inr ⟨by omega, by rw [hac, if_pos h]⟩
              · exact .inl ⟨by omega, by rw [hac, if_neg h]⟩
            clear HJ3 HU3 HTs hac hs3 hs0 hs4 hrel
            generalize ac ++ (⟨#[32, 124, 32]⟩ : ByteArray) = ac1 at *
            generalize ac0 ++ T = ac2 at *
            rcases goal2 with ⟨hp2, hq2⟩ | ⟨hp2, hq2⟩
            all_goals
              subst hq2
              go_wp2_with fail
              refine (HTx.out _).mono ?_
              rintro e w4 ⟨rfl, h4⟩
              have HC4 : Hid (Below w.heap.size w w4) := HC3.out.trans (h4.mono HC3.out.size)
              clear h4 hcw e0 e1 e2 hcat
              go_wp2
              go_roundg (rs.length - (q + 1))
              case measure => have := HGq.out; omega
              case rel => exact ⟨q + 1, ac2, by have := HGq.out; omega, by first | rfl | go_num, rfl, HJ4.out, HU4.out, HC4.out⟩
          · have HE : Hid (A = some ac) := by show _ = _; rw [HJ.out, List.drop_eq_nil_of_le (by omega)]; rfl
            have HK4 : Hid (R = lisT (k + 1) ac (l.drop (k + 1))) := by show _ = _; rw [HK3.out, HE.out]
            have HT4 := HAs.out ac HE.out
            have HT5 : Hid (ac.size + szL (l.drop (k + 1)) ≤ 1099511627776) := HT4
            clear hq HJ HT4 HE
            go_wp2
            go_roundg (l.length - (k + 1))
            case measure => have := HG.out; omega
            case rel => exact ⟨k + 1, ac, by have := HG.out; omega, by first | rfl | go_num, rfl, HK4.out, HT5.out, HC.out⟩
    · have HE : Hid (R = some acc) := by show _ = _; rw [HK.out, List.drop_eq_nil_of_le (by omega)]; rfl
      clear HK hk
      go_wp2
      go_returns
      rw [HE.out]
      exact ⟨rfl, HB.out⟩
end Go.Proofs.YtmanjignognplaaDoor
