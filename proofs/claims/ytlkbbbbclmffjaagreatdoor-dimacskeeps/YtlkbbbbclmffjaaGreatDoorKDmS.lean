/-
  The document's Spoken, walked: rows of words with their lines.
  KEEP: len below nil form rd mono on app start at new trans refl kept own row out one grown rdz
-/
import Derived.Test.YtlkbbbbclmffjaaGreatDoorJRdV
import Derived.Test.YtlkbbbbclmffjaaGreatDoorJAppK
import Derived.Sort.AtCall
set_option linter.unusedSimpArgs false
set_option linter.unusedVariables false
namespace Go.Proofs.YtlkbbbbclmffjaaGreatDoor
open Go Go.RowKit

theorem infoWd : (Tryz.prog.info? 77).map (fun i => (i.zero, i.size, i.bytes)) = some (some (.agg #[.string ⟨#[]⟩, .int .i64 0]), 2, 24) := by kernel_rfl
abbrev Wrd := List UInt8 × Nat
def wdC (l : List Wrd) : List Value := l.flatMap fun x => [strV x.1, .int .i64 (x.2 : Int)]
theorem wdC_len (l : List Wrd) : (wdC l).length = l.length * 2 := by
  induction l with
  | nil => rfl
  | cons x r ih => simp only [wdC, List.flatMap_cons, List.length_append, List.length_cons, List.length_nil] at ih ⊢; omega
theorem wdC_at : ∀ (L : List Wrd) (j : Nat) (h : j < L.length), (wdC L)[j * 2]? = some (strV L[j].1) ∧ (wdC L)[j * 2 + 1]? = some (.int .i64 (L[j].2 : Int))
  | x :: r, 0, _ => ⟨rfl, rfl⟩
  | x :: r, j + 1, h => by
    have := wdC_at r j (by simpa using h)
    have e : wdC (x :: r) = strV x.1 :: .int .i64 (x.2 : Int) :: wdC r := rfl
    rw [e, show (j + 1) * 2 = j * 2 + 1 + 1 by omega, show j * 2 + 1 + 1 + 1 = (j * 2 + 1) + 1 + 1 by omega]
    simpa using this
/-- a row of words of a call's own -/
def OwnW (B : Nat) (w : World) (v : Value) (l : List Wrd) : Prop := w.ownsRow B 77 2 v l.length (wdC l)
theorem OwnW.nil (B : Nat) (w : World) : OwnW B w (.slice none 0 0) [] := World.ownsRow_nil _ _ _ _
theorem OwnW.below {B : Nat} {w w' : World} {v : Value} {l : List Wrd} (h : OwnW B w v l) (hb : Below w.heap.size w w') : OwnW B w' v l := World.ownsRow.kept h (grown_below hb) (one_or _)
theorem OwnW.form {B : Nat} {w : World} {v : Value} {l : List Wrd} (h : OwnW B w v l) : ∃ a c, v = .slice a l.length c ∧ l.length ≤ c ∧ c ≤ maxLen ∧ ∀ k, k < l.length → ∃ g, a = some ⟨g, 0, none⟩ ∧ g < w.heap.size ∧ w.cell? ⟨g, k * 2, none⟩ = some (strV (l.getD k ([], 0)).1) ∧ w.cell? ⟨g, k * 2 + 1, none⟩ = some (.int .i64 ((l.getD k ([], 0)).2 : Int)) := by
  rcases h.2 with ⟨rfl, hn⟩ | ⟨g, cap, cur, rfl, hg, hh, hn, hm, hs, ht⟩
  · exact ⟨none, 0, by rw [hn], by omega, Nat.zero_le _, fun k hk => by omega⟩
  · refine ⟨_, cap, rfl, hn, hm, fun k hk => ⟨g, rfl, (Array.getElem?_eq_some_iff.1 hh).1, ?_, ?_⟩⟩
    · rw [World.ownsRow.cellAt h _ (by omega), (wdC_at l k hk).1]
      simp [hk, List.getD_eq_getElem?_getD]
    · rw [World.ownsRow.cellAt h _ (by omega), (wdC_at l k hk).2]
      simp [hk, List.getD_eq_getElem?_getD]
theorem OwnW.one {B : Nat} {w : World} {v : Value} {l : List Wrd} {T : List UInt8} {k : Nat} {s : ByteArray} (hs : s.data.toList = T) (h : w.ownsRow B 77 2 v (l.length + 1) (wdC l ++ [.string s, .int .i64 (k : Int)])) : OwnW B w v (l ++ [(T, k)]) := by
  unfold OwnW
  have e : Value.string s = strV T := by unfold strV; congr 1; cases s; simp at hs; rw [← hs]
  rw [e] at h
  simpa [wdC] using h
theorem cell_two_newP (w : World) (x y : Value) (t : TypeId) : ∀ j u, [x, y][j]? = some u → (w.alloc (.cells #[x, y] t)).cell? ((⟨w.heap.size, 0, none⟩ : Addr).add j) = some u := by
  intro j u hu
  have hadd : (⟨w.heap.size, 0, none⟩ : Addr).add j = ⟨w.heap.size, j, none⟩ := by unfold Addr.add; split <;> simp_all
  rw [hadd, World.cell?_alloc_mark]
  simpa using hu
theorem OwnL.monoS {B B' : Nat} {w : World} {v : Value} {ws : List (List UInt8)} (h : OwnL B w v ws) (hb : B' ≤ B) : OwnL B' w v ws := row_mono h hb

set_option maxHeartbeats 6400000 in
set_option maxRecDepth 100000 in
theorem rSpoken_any (B : Nat) (lv : Value) (ls : List (List UInt8)) (w : World) (ho : OwnL B w lv ls) (hsum : lenS ls ≤ 1099511627776) (hlen : ls.length ≤ 1099511627776) :
    Calls Tryz.prog 43 #[lv] w fun e w' => ∃ v, e = .returned v ∧ OwnW w.heap.size w' v (spk 1 ls) ∧ (spk 1 ls).length ≤ 1099511627776 ∧ Below w.heap.size w w' := by
  obtain ⟨il, hil, hzl0, hzl1, hzl2⟩ := info_parts infoWd
  have HSum : Hid (lenS ls ≤ 1099511627776) := hsum
  have HOL : Hid (OwnL B w lv ls) := ho
  obtain ⟨la, lc, rfl, hlc, hlm, _⟩ := ho.form
  obtain ⟨X, hX⟩ : ∃ X, X = spk 1 ls := ⟨_, rfl⟩
  rw [← hX]
  have HX : Hid (spk 1 ls = X) := hX.symm
  clear ho hX hsum
  go_enter Tryz.func43, Tryz.ntmps43
  go_wp2
  go_loopg [3, 4] ls.length (fun g u i wr => ∃ (k : Nat) (L : List Wrd), k + g = ls.length ∧ i = .int .i64 k ∧ L.length + lenS (ls.drop k) ≤ 1099511627776 ∧ Hid (L ++ spk (k + 1) (ls.drop k) = X) ∧ Hid (OwnW w.heap.size wr u L) ∧ Hid (Below w.heap.size w wr))
  case atStart => exact ⟨0, [], by omega, rfl, by simpa using HSum.out, by show _ = _; simpa using HX.out, OwnW.nil _ _, Below.refl _ _⟩
  case round =>
    clear HX
    obtain ⟨k, L, hk, rfl, hw, HX, OW, BL⟩ := hrel
    have HK : Hid (k + gk = ls.length) := hk
    have hsb := BL.out.size
    by_cases hlt : k < ls.length
    · obtain ⟨_, _, e', _, _, hcell⟩ := (HOL.out.below BL.out).form
      obtain ⟨g, hg, hgl, hc0⟩ := hcell k hlt
      have e3 : la = some ⟨g, 0, none⟩ := by injection e' with q1 q2 q3; rw [q1]; exact hg
      clear hcell e' hg
      subst e3
      have HD : Hid (ls.drop k = ls.getD k [] :: ls.drop (k + 1)) := getD_drop ls [] hlt
      have HLe : Hid ((ls.getD k []).length ≤ 1099511627776) := by
        have h1 := lenS_each ls (ls.getD k []) (by rw [List.getD_eq_getElem?_getD, List.getElem?_eq_getElem hlt]; exact List.getElem_mem hlt)
        have h2 := HSum.out
        show _ ≤ _
        omega
      have HWx : Hid (L.length + (ls.getD k []).length + lenS (ls.drop (k + 1)) ≤ 1099511627776) := by
        have h1 := hw
        rw [HD.out, lenS_cons] at h1
        show _ ≤ _
        omega
      rw [HD.out] at HX
      generalize ls.getD k [] = ln at *
      obtain ⟨b, hb⟩ : ∃ b : ByteArray, b = ⟨ln.toArray⟩ := ⟨_, rfl⟩
      have HB : Hid (b.data.toList = ln) := by show _ = _; rw [hb]
      have hc1 : wr.cell? ⟨g, k, none⟩ = some (.string b) := by rw [hc0, hb]; rfl
      have hbs : b.size ≤ 1099511627776 := by rw [← ba_len, HB.out]; exact HLe.out
      clear hc0 hb hw hk HD
      by_cases hh : ln.head? = some 99
      · have hb0 : 0 < b.size := by
          rcases Nat.eq_zero_or_pos b.size with h | h
          · have : b.data.toList = [] := List.length_eq_zero_iff.1 (by rw [ba_len]; exact h)
            rw [HB.out] at this; rw [this] at hh; cases hh
          · exact h
        have hq : ((b[0].toNat : Int) == 99) = true := by
          have := ba_head hb0
          rw [HB.out, hh] at this
          have e : b[0] = 99 := by simpa using this.symm
          rw [e]; rfl
        have HX2 : Hid (L ++ spk (k + 1 + 1) (ls.drop (k + 1)) = X) := by show _ = _; rw [← HX.out, spk, if_pos hh]; simp
        clear hh HX
        go_wp2
        go_roundg (gk - 1)
        case measure => have := HK.out; omega
        case rel => exact ⟨k + 1, L, by have := HK.out; omega, by go_num, by have := HWx.out; omega, HX2.out, OW.out, BL.out⟩
      · have HX2 : Hid (L ++ ((wdsF ln []).map (fun w => (w, k + 1)) ++ spk (k + 1 + 1) (ls.drop (k + 1))) = X) := by show _ = _; rw [← HX.out, spk, if_neg hh]
        have HWd := rWords_any b wr hbs
        rw [HB.out] at HWd
        have hwl : (wdsF ln []).length ≤ ln.length := by have := wds_len ln []; simpa using this
        have HWl : Hid (L.length + ((wdsF ln []).length - 0) + lenS (ls.drop (k + 1)) ≤ 1099511627776) := by have := HWx.out; show _ ≤ _; omega
        have hwsl : (wdsF ln []).length ≤ 1099511627776 := by have := HLe.out; omega
        have HQ : Hid ((h : 0 < b.size) → ((b[0].toNat : Int) == 99) = false) := fun h => by
          rw [beq_eq_false_iff_ne]; intro e
          have hy : b[0].toNat < 256 := b[0].toNat_lt
          have h2 : b[0] = 99 := UInt8.toNat_inj.1 ((by omega : b[0].toNat = 99).trans rfl)
          exact hh (by rw [← HB.out, ba_head h, h2])
        generalize wdsF ln [] = ws at *
        have HWd : Hid (Calls Tryz.prog 61 #[.string b] wr fun e w' => ∃ v, e = .returned v ∧ OwnL wr.heap.size w' v ws ∧ Below wr.heap.size wr w') := HWd
        clear hh hwl HX HWx HLe HB
        obtain ⟨G, hG⟩ : ∃ G, G = gk := ⟨gk, rfl⟩
        subst hG
        by_cases hb0 : 0 < b.size
        all_goals
          first | have hq := HQ.out hb0 | skip
          clear HQ
          go_wp2_with fail
          refine HWd.out.mono ?_
          rintro e w3 ⟨wv, rfl, ow, bel3⟩
          have HOW : Hid (OwnL w.heap.size w3 wv ws) := ow.monoS hsb
          obtain ⟨wa, wc, rfl, hwc, hwm, _⟩ := ow.form
          have OW3 : Hid (OwnW w.heap.size w3 _ L) := OW.out.below bel3
          have BL3 : Hid (Below w.heap.size w w3) := BL.out.trans (bel3.mono hsb)
          clear ow HWd bel3 OW BL hc1
          go_wp2
          go_loopg [3, 6] ws.length (fun g2 u i wr => ∃ (j : Nat) (L : List Wrd), j + g2 = ws.length ∧ i = .int .i64 j ∧ L.length + (ws.length - j) + lenS (ls.drop (k + 1)) ≤ 1099511627776 ∧ Hid (L ++ ((ws.drop j).map (fun w => (w, k + 1)) ++ spk (k + 1 + 1) (ls.drop (k + 1))) = X) ∧ Hid (OwnW w.heap.size wr u L) ∧ Hid (OwnL w.heap.size wr (.slice wa ws.length wc) ws) ∧ Hid (Below w.heap.size w wr))
          case atStart => exact ⟨0, L, by omega, rfl, HWl.out, HX2.out, OW3.out, HOW.out, BL3.out⟩
          case round =>
            clear HX2 OW3 HWl HOW BL3
            obtain ⟨j, L, hj, rfl, hw2, HX, OW, HOW, BL⟩ := hrel
            have HJ : Hid (j + gk = ws.length) := hj
            have hsb2 := BL.out.size
            by_cases hjl : j < ws.length
            · obtain ⟨_, _, e', _, _, hcell⟩ := HOW.out.form
              obtain ⟨g2, hg2, hgl2, hc2⟩ := hcell j hjl
              have e3 : wa = some ⟨g2, 0, none⟩ := by injection e' with q1 q2 q3; rw [q1]; exact hg2
              clear hcell e' hg2
              subst e3
              have HD : Hid (ws.drop j = ws.getD j [] :: ws.drop (j + 1)) := getD_drop ws [] hjl
              rw [HD.out] at HX
              have HW : Hid (L.length + 1 + (ws.length - (j + 1)) + lenS (ls.drop (k + 1)) ≤ 1099511627776) := by show _ ≤ _; omega
              have hLl : L.length ≤ 1099511627776 := by omega
              generalize ws.getD j [] = wd at *
              obtain ⟨y, hy⟩ : ∃ y : ByteArray, y = ⟨wd.toArray⟩ := ⟨_, rfl⟩
              have HB : Hid (y.data.toList = wd) := by show _ = _; rw [hy]
              have hc3 : wr.cell? ⟨g2, j, none⟩ = some (.string y) := by rw [hc2, hy]; rfl
              have HX2 : Hid (L ++ [(wd, k + 1)] ++ ((ws.drop (j + 1)).map (fun w => (w, k + 1)) ++ spk (k + 1 + 1) (ls.drop (k + 1))) = X) := by show _ = _; rw [← HX.out]; simp
              clear hc2 hy hw2 hj HD HX
              go_wp2_with (at_builtin; refine wpList_append_own _ rfl _ _ 73 rfl w.heap.size 77 il (.agg #[.string ⟨#[]⟩, .int .i64 0]) 2 24 Tryz.underlying73 hil hzl0 hzl1 hzl2 rfl (by decide) _ L.length (wdC L) rfl (World.ownsRow.alloc OW.out _) _ 1 1 [.string y, .int .i64 ((k : Int) + 1)] rfl rfl (cell_two_newP _ _ _ _) (by simp [Value.oneCell']) (by unfold maxLen; omega) (by omega) (by simp; omega) ?_; intro v7 w7 own7 gr7 hn7)
              go_roundg (gk - 1)
              case measure => have := HJ.out; omega
              case rel => exact ⟨j + 1, L ++ [(wd, k + 1)], by have := HJ.out; omega, by go_num, by have := HW.out; simp; omega, HX2.out, OwnW.one (k := k + 1) HB.out own7, row_apart (by decide) (World.ownsRow.alloc HOW.out _) (World.ownsRow.alloc OW.out _) gr7, (BL.out.alloc hsb2 _).grown gr7 (by simp; omega) (fun q hq => (World.ownsRow.lt OW.out q hq).1)⟩
            · obtain rfl : j = ws.length := by omega
              have HX2 : Hid (L ++ spk (k + 1 + 1) (ls.drop (k + 1)) = X) := by have := HX.out; rw [List.drop_length] at this; show _ = _; rw [← this]; simp
              have HW : Hid (L.length + lenS (ls.drop (k + 1)) ≤ 1099511627776) := by show _ ≤ _; omega
              clear hj HX hw2
              go_wp2
              go_roundg (G - 1)
              case measure => have := HK.out; omega
              case rel => exact ⟨k + 1, L, by have := HK.out; omega, by go_num, HW.out, HX2.out, OW.out, BL.out⟩
    · obtain rfl : k = ls.length := by omega
      have HX2 : Hid (L = X) := by have := HX.out; rw [List.drop_length] at this; show _ = _; rw [← this]; simp [spk]
      have HLl : Hid (L.length ≤ 1099511627776) := by show _ ≤ _; omega
      clear hk hw
      go_wp2
      go_ret
      rw [← HX2.out]
      exact ⟨_, rfl, OW.out, HLl.out, BL.out⟩

end Go.Proofs.YtlkbbbbclmffjaaGreatDoor
