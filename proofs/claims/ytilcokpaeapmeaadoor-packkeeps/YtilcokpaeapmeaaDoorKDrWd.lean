/-
  drat.words, walked (walks/genwords.py writes it).
  KEEP: out block size
-/
import Derived.Test.YtilcokpaeapmeaaDoorKDrS
import Derived.Lib.OthersKept
import Derived.Lib.Hide
import Derived.Lib.Strings
import Derived.Deep.LoopGhost
import Derived.BigCall
import Derived.BigGuard
import Derived.BigQuiet
set_option linter.unusedSimpArgs false
set_option linter.unusedVariables false
namespace Go.Proofs.YtilcokpaeapmeaaDoor
open Go Go.RowKit

theorem ba9_ext {s : ByteArray} {l : List UInt8} (h : s.data.toList = l) : s = ⟨l.toArray⟩ := by cases s; subst h; simp
theorem ext9_list (s : ByteArray) (a b : Nat) : (s.extract a b).data.toList = (s.data.toList.drop a).take (b - a) := by
  rw [ByteArray.data_extract, Array.toList_extract, List.extract_eq_take_drop]
theorem size9 (s : ByteArray) : s.data.toList.length = s.size := by cases s; simp [ByteArray.size]
theorem drop9 {s : ByteArray} {p : Nat} (h : p < s.size) : s.data.toList.drop p = s[p] :: s.data.toList.drop (p + 1) := by
  have hl : p < s.data.toList.length := by rw [size9]; exact h
  rw [List.drop_eq_getElem_cons hl]; simp [ByteArray.getElem_eq_getElem_data]
theorem cur9 {L : List UInt8} {wa p : Nat} {b : UInt8} (hw : wa ≤ p) (h : L.drop p = b :: L.drop (p + 1)) : (L.drop wa).take (p + 1 - wa) = (L.drop wa).take (p - wa) ++ [b] := by
  have e : (L.drop wa)[p - wa]? = some b := by
    rw [List.getElem?_drop, show wa + (p - wa) = p by omega]
    have := congrArg List.head? h
    rw [List.head?_drop] at this
    simpa using this
  rw [show p + 1 - wa = (p - wa) + 1 by omega, List.take_add_one, e]; rfl
theorem run9 {s : ByteArray} {p d : Nat} (h : p + d ≤ s.size) (hb : ∀ j, j < d → 128 ≤ (s.get! (p + j)).toNat) : ∃ r, s.data.toList.drop p = r ++ s.data.toList.drop (p + d) ∧ r.length = d ∧ r.all wdB = true ∧ (0 < d → r.head?.all (fun b => !plB b) = true ∧ r ≠ []) := by
  refine ⟨(s.data.toList.drop p).take d, ?_, ?_, ?_, ?_⟩
  · rw [← List.drop_drop, List.take_append_drop]
  · rw [List.length_take, List.length_drop, size9]; omega
  · rw [List.all_eq_true]
    intro b hm
    obtain ⟨j, hj, rfl⟩ := List.getElem_of_mem hm
    have hj2 : j < d := by rw [List.length_take] at hj; omega
    have := hb j hj2
    rw [List.getElem_take, List.getElem_drop]
    refine hi_wd ?_
    rw [get_bang (by omega)] at this
    simpa [ByteArray.getElem_eq_getElem_data] using this
  · intro hd
    have hp : p < s.size := by omega
    have := hb 0 hd
    rw [Nat.add_zero, get_bang hp] at this
    rw [drop9 hp]
    obtain ⟨e, rfl⟩ : ∃ e, d = e + 1 := ⟨d - 1, by omega⟩
    simp [hi_pl this]
theorem cur9r {L r : List UInt8} {wa p d : Nat} (hw : wa ≤ p) (h : L.drop p = r ++ L.drop (p + d)) (hr : r.length = d) : (L.drop wa).take (p + d - wa) = (L.drop wa).take (p - wa) ++ r := by
  have e : L.drop wa = (L.drop wa).take (p - wa) ++ L.drop p := by
    conv => lhs; rw [← List.take_append_drop (p - wa) (L.drop wa)]
    rw [List.drop_drop, show wa + (p - wa) = p by omega]
  by_cases hl : p - wa ≤ (L.drop wa).length
  · have hlen : ((L.drop wa).take (p - wa)).length = p - wa := by rw [List.length_take]; omega
    conv => lhs; rw [e]
    rw [List.take_append, hlen, List.take_of_length_le (by rw [hlen]; omega), show p + d - wa - (p - wa) = d by omega, h, List.take_left' hr]
  · have h0 : L.drop p = [] := by
      apply List.eq_nil_of_length_eq_zero
      rw [List.length_drop] at hl ⊢; omega
    rw [h0] at h
    have hr0 : r = [] := by
      have := congrArg List.length h; simp at this; exact List.eq_nil_of_length_eq_zero (by omega)
    subst hr0
    simp at hr
    subst hr
    simp

theorem two9 {e : Ending} {P1 P2 P3 : Prop} (h : (e = .returned (.bool true) ∧ P1 ∧ P2) ∨ (e = .returned (.bool false) ∧ P3)) : ∃ b : Bool, e = .returned (.bool b) ∧ (b = true → P1 ∧ P2) ∧ (b = false → P3) := by
  rcases h with ⟨rfl, h⟩ | ⟨rfl, h⟩
  · exact ⟨true, rfl, fun _ => h, fun e => by cases e⟩
  · exact ⟨false, rfl, (fun e => by cases e), fun _ => h⟩
section steps
variable {b : UInt8} {r cur : List UInt8} {k : Nat} {beg rem : Bool}
theorem sc_rem (h : b ≠ 10) (hp : plB b = true) : scan (b :: r) k cur beg true = scan r k cur false true := by
  have : (b != 10) = true := by simpa using h
  rw [scan]; simp [this, hp]
theorem sc_bad (h : b ≠ 10) (hp : plB b = false) : scan (b :: r) k cur beg true = [(none, k)] := by
  have : (b != 10) = true := by simpa using h
  rw [scan]; simp [this, hp]
theorem sc_c : scan (99 :: r) k cur true false = scan r k cur false true := by rw [scan]; simp
theorem sc_nl : scan (10 :: r) k cur beg rem = one9 rem cur k ++ scan r (k + 1) [] true false := by
  rw [scan]; cases rem <;> cases beg <;> simp
theorem sc_bl (h : isBl b = true) : scan (b :: r) k cur beg false = one9 false cur k ++ scan r k [] false false := by
  have h1 : (b == 10) = false := by
    simp only [isBl, Bool.or_eq_true, beq_iff_eq] at h; rcases h with rfl | rfl <;> rfl
  have h2 : (b == 99) = false := by
    simp only [isBl, Bool.or_eq_true, beq_iff_eq] at h; rcases h with rfl | rfl <;> rfl
  rw [scan]; simp [h, h1, h2]
theorem sc_wd (h : wdB b = true) (hc : (beg && b == 99) = false) : scan (b :: r) k cur beg false = scan r k (cur ++ [b]) false false := by
  simp only [wdB, Bool.and_eq_true, Bool.not_eq_true', bne_iff_ne, ne_eq] at h
  have h1 : (b == 10) = false := by simpa using h.2
  rw [scan]; simp [h.1, h1, hc]
theorem en_nl : endL (10 :: r) k beg = endL r (k + 1) true := by rw [endL]; simp
theorem en_no (h : b ≠ 10) : endL (b :: r) k beg = endL r k false := by
  have : (b == 10) = false := by simpa using h
  rw [endL]; simp [this]
end steps

set_option maxRecDepth 100000 in
set_option maxHeartbeats 6400000 in
theorem words_any (s : ByteArray) (D : Nat) (I : List Tok → World → Prop) (Z : Nat → World → Prop) (W0 : World) (hs : s.size ≤ 1099511627776)
    (h0 : I (scan s.data.toList 1 [] true false) (W0.iter s 0))
    (hst : ∀ ts A B, I ts A → A.grownBy B (some W0.heap.size) → I ts B)
    (hZ : ∀ k ts A, I ((none, k) :: ts) A → Z k A)
    (htake : ∀ wd k ts A p, I ((some wd, k) :: ts) A → wd.length ≤ 1099511627776 → A.heap[W0.heap.size]? = some (.stringIter s p) →
      Calls Tryd.prog 53 #[.pointer (some ⟨D, 0, none⟩), .string ⟨wd.toArray⟩] A fun e B => (e = .returned (.bool true) ∧ I ts B ∧ B.heap[W0.heap.size]? = some (.stringIter s p)) ∨ (e = .returned (.bool false) ∧ Z k B)) :
    Calls Tryd.prog 52 #[.string s, .func (.func 53) #[.pointer (some ⟨D, 0, none⟩)] #[]] W0 fun e B =>
      (e = .returned (.tuple #[.int .i64 (endL s.data.toList 1 true), .bool true]) ∧ I [] B) ∨ (∃ k : Nat, e = .returned (.tuple #[.int .i64 k, .bool false]) ∧ Z k B) := by
  have HST : Hid (∀ ts A B, I ts A → A.grownBy B (some W0.heap.size) → I ts B) := hst
  have HZ : Hid (∀ k ts A, I ((none, k) :: ts) A → Z k A) := hZ
  have HTK : Hid (∀ wd k ts A p, I ((some wd, k) :: ts) A → wd.length ≤ 1099511627776 → A.heap[W0.heap.size]? = some (.stringIter s p) →
      Calls Tryd.prog 53 #[.pointer (some ⟨D, 0, none⟩), .string ⟨wd.toArray⟩] A fun e B => (e = .returned (.bool true) ∧ I ts B ∧ B.heap[W0.heap.size]? = some (.stringIter s p)) ∨ (e = .returned (.bool false) ∧ Z k B)) := htake
  have HSz : Hid (s.data.toList.length = s.size) := size9 s
  obtain ⟨E, hE⟩ : ∃ E, E = endL s.data.toList 1 true := ⟨_, rfl⟩
  rw [← hE]
  have HE0 : Hid (endL s.data.toList 1 true = E) := hE.symm
  have H0 : Hid (I (scan s.data.toList 1 [] true false) (W0.iter s 0)) := h0
  obtain ⟨N, hN⟩ : ∃ N, N = W0.heap.size := ⟨_, rfl⟩
  rw [← hN] at HST HTK
  have HN : Hid (N = W0.heap.size) := hN
  clear hst hZ htake hE h0
  go_enter Tryd.func52, Tryd.ntmps52
  go_wp2
  rw [← hN]
  clear hN
  go_loopg [4, 6, 7, 8] s.size (fun g l4 l6 l7 l8 wr => ∃ (p k la wa : Nat) (rem : Bool) (cur : List UInt8), p + g = s.size ∧ l4 = .int .i64 k ∧ l6 = .int .i64 la ∧ l7 = .int .i64 wa ∧ l8 = .bool rem ∧ la ≤ p ∧ wa ≤ p ∧ k ≤ p + 1 ∧ Hid (rem = false → cur = (s.data.toList.drop wa).take (p - wa)) ∧ Hid (I (scan (s.data.toList.drop p) k cur (decide (la = p)) rem) wr) ∧ Hid (endL (s.data.toList.drop p) k (decide (la = p)) = E) ∧ wr.heap[N]? = some (.stringIter s p))
  case atStart =>
    exact ⟨0, 1, 0, 0, false, [], by omega, rfl, rfl, rfl, rfl, by omega, by omega, by omega, fun _ => by simp, H0.out, HE0.out, by rw [HN.out]; exact World.iter_heap _ _ _⟩
  case round =>
    obtain ⟨p, k, la, wa, rem, cur, hg, rfl, rfl, rfl, rfl, hla, hwa, hkp, HC, HI, HE, hit⟩ := hrel
    have HG : Hid (p + gk = s.size) := hg
    clear HE0 H0
    by_cases hp : p < s.size
    · by_cases hb : (s[p]'hp).toNat < 128
      · have hnx : ∀ ty, (Instr.next (.pointer (some ⟨N, 0, none⟩)) true ty).run Tryd.prog wr = .ok (.tuple #[.bool true, .int .i64 p, .int .i32 (s[p]'hp).toNat]) (wr.iterAt N s (p + 1)) := fun ty => Lib.run_next_ascii_at wr N s p ty hit hp hb
        have HI2 : Hid (I (scan (s.data.toList.drop p) k cur (decide (la = p)) rem) (wr.iterAt N s (p + 1))) := HST.out _ _ _ HI.out ⟨rfl, rfl, rfl, by rw [Lib.iterAt_size]; exact Nat.le_refl _, fun j _ hj => Lib.iterAt_other _ _ _ _ _ (fun e => hj (by rw [e]))⟩
        have hit2 := Lib.iterAt_heap wr N s p (p + 1) hit
        have HD : Hid (s.data.toList.drop p = s[p] :: s.data.toList.drop (p + 1)) := drop9 hp
        rw [HD.out] at HI2 HE
        have HCu : Hid ((s.data.toList.drop wa).take (p + 1 - wa) = (s.data.toList.drop wa).take (p - wa) ++ [s[p]]) := cur9 hwa HD.out
        have HEx : Hid (s.extract wa p = ⟨((s.data.toList.drop wa).take (p - wa)).toArray⟩) := ba9_ext (ext9_list _ _ _)
        have HLn : Hid (((s.data.toList.drop wa).take (p - wa)).length = p - wa) := by show _ = _; rw [List.length_take, List.length_drop, HSz.out]; omega
        generalize wr.iterAt N s (p + 1) = w1 at *
        have hbz : ∀ x : UInt8, s[p] = x → (s[p].toNat : Int) = x.toNat := fun x h => by rw [h]
        have hbn : ∀ x : UInt8, s[p] ≠ x → (s[p].toNat : Int) ≠ x.toNat := fun x h e => h (UInt8.toNat_inj.1 (by omega))
        have HPl : Hid (plR (s[p].toNat : Int) = plB s[p]) := plR_byte _
        clear hit HI HD hb
        generalize s[p]'hp = b at *
        obtain ⟨z, hz⟩ : ∃ z : Int, z = (b.toNat : Int) := ⟨_, rfl⟩
        rw [← hz] at hnx HPl hbz hbn
        clear hz
        cases rem
        case true =>
          clear HC HCu HEx HLn
          by_cases h10 : b = 10
          · have hz' : z = 10 := hbz 10 h10
            clear hbz hbn HPl
            subst hz'
            rw [h10] at HI2 HE
            rw [sc_nl] at HI2
            rw [en_nl] at HE
            have e0 : one9 true cur k = [] := rfl
            rw [e0, List.nil_append] at HI2
            go_wp2
            all_goals
              go_roundg (gk - 1)
              case measure => have := HG.out; omega
              case rel => exact ⟨p + 1, k + 1, p + 1, p + 1, false, [], by have := HG.out; omega, by go_num, by go_num, by go_num, rfl, by omega, by omega, by omega, fun _ => (by simp), by rw [decide_eq_true rfl]; exact HI2.out, by rw [decide_eq_true rfl]; exact HE.out, hit2⟩
          · have hz : z ≠ 10 := hbn 10 h10
            have q1 : (z != 10) = true := by simpa using hz
            rw [en_no h10] at HE
            clear hbz hbn
            cases hpl : plB b
            · rw [hpl] at HPl
              rw [sc_bad h10 hpl] at HI2
              have HZ2 : Hid (Z k w1) := HZ.out k _ _ HI2.out
              go_wp2_with (go_at_call 63; refine (plain9_any z _).mono ?_; rw [HPl.out]; rintro e w' ⟨rfl, rfl⟩)
              go_returns
              exact .inr ⟨k, rfl, HZ2.out⟩
            · rw [hpl] at HPl
              rw [sc_rem h10 hpl] at HI2
              go_wp2_with (go_at_call 63; refine (plain9_any z _).mono ?_; rw [HPl.out]; rintro e w' ⟨rfl, rfl⟩)
              go_roundg (gk - 1)
              case measure => have := HG.out; omega
              case rel => exact ⟨p + 1, k, la, wa, true, cur, by have := HG.out; omega, rfl, rfl, rfl, rfl, by omega, by omega, by omega, fun h => (by cases h), by rw [decide_eq_false (by omega)]; exact HI2.out, by rw [decide_eq_false (by omega)]; exact HE.out, hit2⟩
        case false =>
          have hcur : cur = (s.data.toList.drop wa).take (p - wa) := HC.out rfl
          subst hcur
          clear HC HPl
          by_cases hc : la = p ∧ b = 99
          · obtain ⟨h1, h2⟩ := hc
            have hz' : z = 99 := hbz 99 h2
            rw [h2, decide_eq_true h1, sc_c] at HI2
            rw [h2, en_no (by decide)] at HE
            clear hbz hbn
            subst hz'
            have q : ((p : Int) == (la : Int)) = true := by simp; omega
            go_wp2
            go_roundg (gk - 1)
            case measure => have := HG.out; omega
            case rel => exact ⟨p + 1, k, la, wa, true, _, by have := HG.out; omega, rfl, rfl, rfl, rfl, by omega, by omega, by omega, fun h => (by cases h), by rw [decide_eq_false (by omega)]; exact HI2.out, by rw [decide_eq_false (by omega)]; exact HE.out, hit2⟩
          by_cases h10 : b = 10
          · have hz' : z = 10 := hbz 10 h10
            clear hbz hbn hc
            subst hz'
            rw [h10] at HI2 HE
            rw [sc_nl] at HI2
            rw [en_nl] at HE
            by_cases hw : wa < p
            · have hne : (s.data.toList.drop wa).take (p - wa) ≠ [] := fun e => by have := HLn.out; rw [e] at this; simp at this; omega
              rw [one9_word k hne, List.singleton_append] at HI2
              have HCall := HTK.out _ _ _ w1 (p + 1) HI2.out (by rw [HLn.out]; omega) hit2
              rw [← HEx.out] at HCall
              have HCl : Hid (Calls Tryd.prog 53 #[.pointer (some ⟨D, 0, none⟩), .string (s.extract wa p)] w1 fun e B => ∃ bb : Bool, e = .returned (.bool bb) ∧ (bb = true → I (scan (s.data.toList.drop (p + 1)) (k + 1) [] true false) B ∧ B.heap[N]? = some (.stringIter s (p + 1))) ∧ (bb = false → Z k B)) := HCall.mono fun e B h => two9 h
              have hsl : ∀ W, (Instr.slice 9 (.string s) (some (.int .i64 wa)) (some (.int .i64 p)) none).run Tryd.prog W = .ok (.string (s.extract wa p)) W := fun W => by
                rw [run_slice_string W 9 s .i64 .i64 wa p Tryd.underlying9 (by omega) (by omega) (by omega)]; simp
              clear HCall hne HEx HCu HLn HI2 hit2
              generalize s.extract wa p = sw at *
              obtain ⟨bl, q0⟩ : ∃ bl : Bool, ((p : Int) == (la : Int)) = bl := ⟨_, rfl⟩
              cases bl
              all_goals
                go_wp2_with fail
                refine HCl.out.mono ?_
                rintro e w2 ⟨bb, rfl, h1, h2⟩
                clear HCl
                cases bb
                case true =>
                  obtain ⟨hI3, hit2⟩ := h1 rfl
                  have HI3 : Hid (I (scan (s.data.toList.drop (p + 1)) (k + 1) [] true false) w2) := hI3
                  clear hI3 h1 h2
                  go_wp2
                  go_roundg (gk - 1)
                  case measure => have := HG.out; omega
                  case rel => exact ⟨p + 1, k + 1, p + 1, p + 1, false, [], by have := HG.out; omega, by go_num, by go_num, by go_num, rfl, by omega, by omega, by omega, fun _ => (by simp), by rw [decide_eq_true rfl]; exact HI3.out, by rw [decide_eq_true rfl]; exact HE.out, hit2⟩
                case false =>
                  have hZ3 := h2 rfl
                  clear h1 h2
                  go_wp2
                  go_returns
                  exact .inr ⟨k, rfl, hZ3⟩
            · have hwe : wa = p := by omega
              have e0 : (s.data.toList.drop wa).take (p - wa) = [] := List.eq_nil_of_length_eq_zero (by rw [HLn.out]; omega)
              rw [e0] at HI2
              rw [show one9 false [] k = [] from rfl, List.nil_append] at HI2
              clear e0 HEx HCu HLn hwe
              go_wp2
              all_goals
                go_roundg (gk - 1)
                case measure => have := HG.out; omega
                case rel => exact ⟨p + 1, k + 1, p + 1, p + 1, false, [], by have := HG.out; omega, by go_num, by go_num, by go_num, rfl, by omega, by omega, by omega, fun _ => (by simp), by rw [decide_eq_true rfl]; exact HI2.out, by rw [decide_eq_true rfl]; exact HE.out, hit2⟩
          by_cases h32 : b = 32
          · have hz' : z = 32 := hbz 32 h32
            clear hbz hbn hc
            subst hz'
            rw [h32] at HI2 HE
            rw [sc_bl (by decide)] at HI2
            rw [en_no (by decide)] at HE
            by_cases hw : wa < p
            · have hne : (s.data.toList.drop wa).take (p - wa) ≠ [] := fun e => by have := HLn.out; rw [e] at this; simp at this; omega
              rw [one9_word k hne, List.singleton_append] at HI2
              have HCall := HTK.out _ _ _ w1 (p + 1) HI2.out (by rw [HLn.out]; omega) hit2
              rw [← HEx.out] at HCall
              have HCl : Hid (Calls Tryd.prog 53 #[.pointer (some ⟨D, 0, none⟩), .string (s.extract wa p)] w1 fun e B => ∃ bb : Bool, e = .returned (.bool bb) ∧ (bb = true → I (scan (s.data.toList.drop (p + 1)) (k) [] false false) B ∧ B.heap[N]? = some (.stringIter s (p + 1))) ∧ (bb = false → Z k B)) := HCall.mono fun e B h => two9 h
              have hsl : ∀ W, (Instr.slice 9 (.string s) (some (.int .i64 wa)) (some (.int .i64 p)) none).run Tryd.prog W = .ok (.string (s.extract wa p)) W := fun W => by
                rw [run_slice_string W 9 s .i64 .i64 wa p Tryd.underlying9 (by omega) (by omega) (by omega)]; simp
              clear HCall hne HEx HCu HLn HI2 hit2
              generalize s.extract wa p = sw at *
              obtain ⟨bl, q0⟩ : ∃ bl : Bool, ((p : Int) == (la : Int)) = bl := ⟨_, rfl⟩
              cases bl
              all_goals
                go_wp2_with fail
                refine HCl.out.mono ?_
                rintro e w2 ⟨bb, rfl, h1, h2⟩
                clear HCl
                cases bb
                case true =>
                  obtain ⟨hI3, hit2⟩ := h1 rfl
                  have HI3 : Hid (I (scan (s.data.toList.drop (p + 1)) (k) [] false false) w2) := hI3
                  clear hI3 h1 h2
                  go_wp2
                  go_roundg (gk - 1)
                  case measure => have := HG.out; omega
                  case rel => exact ⟨p + 1, k, la, p + 1, false, [], by have := HG.out; omega, rfl, rfl, by go_num, rfl, by omega, by omega, by omega, fun _ => (by simp), by rw [decide_eq_false (by omega)]; exact HI3.out, by rw [decide_eq_false (by omega)]; exact HE.out, hit2⟩
                case false =>
                  have hZ3 := h2 rfl
                  clear h1 h2
                  go_wp2
                  go_returns
                  exact .inr ⟨k, rfl, hZ3⟩
            · have hwe : wa = p := by omega
              have e0 : (s.data.toList.drop wa).take (p - wa) = [] := List.eq_nil_of_length_eq_zero (by rw [HLn.out]; omega)
              rw [e0] at HI2
              rw [show one9 false [] k = [] from rfl, List.nil_append] at HI2
              clear e0 HEx HCu HLn hwe
              go_wp2
              all_goals
                go_roundg (gk - 1)
                case measure => have := HG.out; omega
                case rel => exact ⟨p + 1, k, la, p + 1, false, [], by have := HG.out; omega, rfl, rfl, by go_num, rfl, by omega, by omega, by omega, fun _ => (by simp), by rw [decide_eq_false (by omega)]; exact HI2.out, by rw [decide_eq_false (by omega)]; exact HE.out, hit2⟩
          by_cases h9 : b = 9
          · have hz' : z = 9 := hbz 9 h9
            clear hbz hbn hc
            subst hz'
            rw [h9] at HI2 HE
            rw [sc_bl (by decide)] at HI2
            rw [en_no (by decide)] at HE
            by_cases hw : wa < p
            · have hne : (s.data.toList.drop wa).take (p - wa) ≠ [] := fun e => by have := HLn.out; rw [e] at this; simp at this; omega
              rw [one9_word k hne, List.singleton_append] at HI2
              have HCall := HTK.out _ _ _ w1 (p + 1) HI2.out (by rw [HLn.out]; omega) hit2
              rw [← HEx.out] at HCall
              have HCl : Hid (Calls Tryd.prog 53 #[.pointer (some ⟨D, 0, none⟩), .string (s.extract wa p)] w1 fun e B => ∃ bb : Bool, e = .returned (.bool bb) ∧ (bb = true → I (scan (s.data.toList.drop (p + 1)) (k) [] false false) B ∧ B.heap[N]? = some (.stringIter s (p + 1))) ∧ (bb = false → Z k B)) := HCall.mono fun e B h => two9 h
              have hsl : ∀ W, (Instr.slice 9 (.string s) (some (.int .i64 wa)) (some (.int .i64 p)) none).run Tryd.prog W = .ok (.string (s.extract wa p)) W := fun W => by
                rw [run_slice_string W 9 s .i64 .i64 wa p Tryd.underlying9 (by omega) (by omega) (by omega)]; simp
              clear HCall hne HEx HCu HLn HI2 hit2
              generalize s.extract wa p = sw at *
              obtain ⟨bl, q0⟩ : ∃ bl : Bool, ((p : Int) == (la : Int)) = bl := ⟨_, rfl⟩
              cases bl
              all_goals
                go_wp2_with fail
                refine HCl.out.mono ?_
                rintro e w2 ⟨bb, rfl, h1, h2⟩
                clear HCl
                cases bb
                case true =>
                  obtain ⟨hI3, hit2⟩ := h1 rfl
                  have HI3 : Hid (I (scan (s.data.toList.drop (p + 1)) (k) [] false false) w2) := hI3
                  clear hI3 h1 h2
                  go_wp2
                  go_roundg (gk - 1)
                  case measure => have := HG.out; omega
                  case rel => exact ⟨p + 1, k, la, p + 1, false, [], by have := HG.out; omega, rfl, rfl, by go_num, rfl, by omega, by omega, by omega, fun _ => (by simp), by rw [decide_eq_false (by omega)]; exact HI3.out, by rw [decide_eq_false (by omega)]; exact HE.out, hit2⟩
                case false =>
                  have hZ3 := h2 rfl
                  clear h1 h2
                  go_wp2
                  go_returns
                  exact .inr ⟨k, rfl, hZ3⟩
            · have hwe : wa = p := by omega
              have e0 : (s.data.toList.drop wa).take (p - wa) = [] := List.eq_nil_of_length_eq_zero (by rw [HLn.out]; omega)
              rw [e0] at HI2
              rw [show one9 false [] k = [] from rfl, List.nil_append] at HI2
              clear e0 HEx HCu HLn hwe
              go_wp2
              all_goals
                go_roundg (gk - 1)
                case measure => have := HG.out; omega
                case rel => exact ⟨p + 1, k, la, p + 1, false, [], by have := HG.out; omega, rfl, rfl, by go_num, rfl, by omega, by omega, by omega, fun _ => (by simp), by rw [decide_eq_false (by omega)]; exact HI2.out, by rw [decide_eq_false (by omega)]; exact HE.out, hit2⟩
          have hwd : wdB b = true := by simp [wdB, isBl, h10, h32, h9]
          have hcc : (decide (la = p) && b == 99) = false := by
            cases hd : decide (la = p) with
            | false => rfl
            | true =>
              have h1 := of_decide_eq_true hd
              have : b ≠ 99 := fun e => hc ⟨h1, e⟩
              simpa using this
          have HI3 := HI2.out
          rw [sc_wd hwd hcc, ← HCu.out] at HI3
          have HI4 : Hid (I (scan (s.data.toList.drop (p + 1)) k ((s.data.toList.drop wa).take (p + 1 - wa)) false false) w1) := HI3
          rw [en_no h10] at HE
          have q10 : (z == 10) = false := by simpa using (hbn 10 h10 : z ≠ 10)
          have q32 : (z == 32) = false := by simpa using (hbn 32 h32 : z ≠ 32)
          have q9 : (z == 9) = false := by simpa using (hbn 9 h9 : z ≠ 9)
          have q99 : la = p → (z == 99) = false := fun e => by simpa using (hbn 99 (fun h => hc ⟨e, h⟩) : z ≠ 99)
          clear hbz hbn HI2 HI3 HCu HEx HLn hwd hcc hc h10 h32 h9
          by_cases hlp : la = p
          · have q := q99 hlp
            clear q99
            have q2 : ((p : Int) == (la : Int)) = true := by simp; omega
            go_wp2
            go_roundg (gk - 1)
            case measure => have := HG.out; omega
            case rel => exact ⟨p + 1, k, la, wa, false, _, by have := HG.out; omega, rfl, rfl, rfl, rfl, by omega, by omega, by omega, fun _ => rfl, by rw [decide_eq_false (by omega)]; exact HI4.out, by rw [decide_eq_false (by omega)]; exact HE.out, hit2⟩
          · have q : ((p : Int) == (la : Int)) = false := by simp; omega
            clear q99
            go_wp2
            go_roundg (gk - 1)
            case measure => have := HG.out; omega
            case rel => exact ⟨p + 1, k, la, wa, false, _, by have := HG.out; omega, rfl, rfl, rfl, rfl, by omega, by omega, by omega, fun _ => rfl, by rw [decide_eq_false (by omega)]; exact HI4.out, by rw [decide_eq_false (by omega)]; exact HE.out, hit2⟩
      · obtain ⟨d1, d2, d3⟩ := decode_span s p hp (by omega)
        have d4 := (decode_high s p hp (by omega)).1
        have d5 := decode_le s p
        have hnx : ∀ ty, (Instr.next (.pointer (some ⟨N, 0, none⟩)) true ty).run Tryd.prog wr = .ok (.tuple #[.bool true, .int .i64 p, .int .i32 (Utf8.decode s p).1]) (wr.iterAt N s (p + (Utf8.decode s p).2)) := fun ty => Lib.run_next_any_at wr N s p ty hit hp
        have HI2 : Hid (I (scan (s.data.toList.drop p) k cur (decide (la = p)) rem) (wr.iterAt N s (p + (Utf8.decode s p).2))) := HST.out _ _ _ HI.out ⟨rfl, rfl, rfl, by rw [Lib.iterAt_size]; exact Nat.le_refl _, fun j _ hj => Lib.iterAt_other _ _ _ _ _ (fun e => hj (by rw [e]))⟩
        have hit2 := Lib.iterAt_heap wr N s p (p + (Utf8.decode s p).2) hit
        obtain ⟨rn, r1, r2, r3, r4⟩ := run9 d2 d3
        obtain ⟨r5, r6⟩ := r4 (by omega)
        rw [r1] at HI2 HE
        have HCu : Hid ((s.data.toList.drop wa).take (p + (Utf8.decode s p).2 - wa) = (s.data.toList.drop wa).take (p - wa) ++ rn) := cur9r hwa r1 r2
        have HH : Hid (rn.all wdB = true ∧ rn ≠ [] ∧ rn.head?.all (fun b => !plB b) = true) := ⟨r3, r6, r5⟩
        generalize (Utf8.decode s p).1 = zn at *
        generalize (Utf8.decode s p).2 = d at *
        generalize wr.iterAt N s (p + d) = w1 at *
        obtain ⟨z, hz⟩ : ∃ z : Int, z = (zn : Int) := ⟨_, rfl⟩
        rw [← hz] at hnx
        have hz1 : 128 ≤ z := by omega
        rw [endL_in rn _ k _ r3 r6] at HE
        clear hit HI d3 d4 d5 r1 r3 r5 r6 hz r2 r4 hb
        have q10 : (z == 10) = false := by simp; omega
        have q32 : (z == 32) = false := by simp; omega
        have q9 : (z == 9) = false := by simp; omega
        have q99 : (z == 99) = false := by simp; omega
        have qn : (z != 10) = true := by simp; omega
        cases rem
        case true =>
          have HPl : Hid (plR z = false) := plR_hi hz1
          have HZ2 : Hid (Z k w1) := by
            obtain ⟨h1, h2, h3⟩ := HH.out
            have hi := HI2.out
            cases rn with
            | nil => exact absurd rfl h2
            | cons b r =>
              have hb1 : plB b = false := by simpa using h3
              have hb2 : b ≠ 10 := by rintro rfl; revert h1; simp [wdB]
              rw [List.cons_append, sc_bad hb2 hb1] at hi
              exact HZ.out k _ _ hi
          clear HI2 HH HCu HC
          go_wp2_with (go_at_call 63; refine (plain9_any z _).mono ?_; rw [HPl.out]; rintro e w' ⟨rfl, rfl⟩)
          go_returns
          exact .inr ⟨k, rfl, HZ2.out⟩
        case false =>
          have hcur : cur = (s.data.toList.drop wa).take (p - wa) := HC.out rfl
          subst hcur
          have HI4 : Hid (I (scan (s.data.toList.drop (p + d)) k ((s.data.toList.drop wa).take (p + d - wa)) false false) w1) := by
            obtain ⟨h1, h2, h3⟩ := HH.out
            have hi := HI2.out
            have e : scan (rn ++ s.data.toList.drop (p + d)) k ((s.data.toList.drop wa).take (p - wa)) (decide (la = p)) false = scan (s.data.toList.drop (p + d)) k ((s.data.toList.drop wa).take (p - wa) ++ rn) false false := by
              cases rn with
              | nil => exact absurd rfl h2
              | cons b r =>
                have hb1 : plB b = false := by simpa using h3
                simp only [List.all_cons, Bool.and_eq_true] at h1
                have hb9 : (b == 99) = false := by
                  rw [beq_eq_false_iff_ne]; rintro rfl; revert hb1; decide
                rw [List.cons_append, sc_wd h1.1 (by rw [hb9]; simp), scan_in r _ k _ h1.2]; simp
            rw [e, ← HCu.out] at hi
            exact hi
          clear HI2 HH HCu HC
          by_cases hlp : la = p
          all_goals
            have q : la = p ∨ ((p : Int) == (la : Int)) = false := by
              rcases Classical.em (la = p) with h | h
              · exact .inl h
              · exact .inr (by simp; omega)
            first | (subst hlp; clear q) | (have q := q.resolve_left hlp)
            go_wp2
            go_roundg (gk - d)
            case measure => have := HG.out; omega
            case rel => exact ⟨_, k, _, wa, false, _, by have := HG.out; omega, rfl, rfl, rfl, rfl, by omega, by omega, by omega, fun _ => rfl, by rw [decide_eq_false (by omega)]; exact HI4.out, by rw [decide_eq_false (by omega)]; exact HE.out, hit2⟩
    · have hpe : p = s.size := by omega
      have hnx : ∀ ty, (Instr.next (.pointer (some ⟨N, 0, none⟩)) true ty).run Tryd.prog wr = .ok (.tuple #[.bool false]) wr := fun ty => Lib.run_next_end_at wr N s p ty hit hp
      have hd0 : s.data.toList.drop p = [] := List.drop_eq_nil_of_le (by rw [HSz.out]; omega)
      rw [hd0] at HI HE
      have HEx : Hid (s.extract wa s.size = ⟨((s.data.toList.drop wa).take (p - wa)).toArray⟩) := by show _ = _; rw [hpe]; exact ba9_ext (ext9_list _ _ _)
      have HLn : Hid (((s.data.toList.drop wa).take (p - wa)).length = p - wa) := by show _ = _; rw [List.length_take, List.length_drop, HSz.out]; omega
      have HE1 : Hid (la < s.size → (E : Int) = (k : Int) + 1) := fun h => by
        have := HE.out; rw [endL, decide_eq_false (by omega)] at this; simp at this; omega
      have HE2 : Hid (¬ la < s.size → (E : Int) = k) := fun h => by
        have := HE.out; rw [endL, decide_eq_true (by omega)] at this; simp at this; omega
      have HEk : Hid (endL [] k (decide (la = p)) = E) := HE.out
      clear hd0 HE
      have fin : Hid (∀ B, I [] B → (Ending.returned (.tuple #[.int .i64 (E : Int), .bool true]) = Ending.returned (.tuple #[.int .i64 (E : Int), .bool true]) ∧ I [] B)) := fun B h => ⟨rfl, h⟩
      have hint : (p : Int) = s.size := by omega
      cases rem
      case true =>
        rw [scan, show one9 true cur k = [] from rfl] at HI
        clear HC HEx HLn
        by_cases hls : la < s.size
        · have HEl : Hid ((E : Int) = (k : Int) + 1) := HE1.out hls
          clear HE1 HE2 HEk
          go_wp2
          go_returns
          exact .inl ⟨by rw [HEl.out]; rfl, HI.out⟩
        · have HEl : Hid ((E : Int) = (k : Int)) := HE2.out hls
          clear HE1 HE2 HEk
          go_wp2
          go_returns
          exact .inl ⟨by rw [HEl.out]; rfl, HI.out⟩
      case false =>
        have hcur : cur = (s.data.toList.drop wa).take (p - wa) := HC.out rfl
        subst hcur
        rw [scan] at HI
        by_cases hw : wa < s.size
        · have hne : (s.data.toList.drop wa).take (p - wa) ≠ [] := fun e => by have := HLn.out; rw [e] at this; simp at this; omega
          rw [one9_word k hne] at HI
          have HCall := HTK.out _ _ _ wr p HI.out (by rw [HLn.out]; omega) hit
          rw [← HEx.out] at HCall
          have HCl : Hid (Calls Tryd.prog 53 #[.pointer (some ⟨D, 0, none⟩), .string (s.extract wa s.size)] wr fun e B => ∃ bb : Bool, e = .returned (.bool bb) ∧ (bb = true → I [] B ∧ B.heap[N]? = some (.stringIter s p)) ∧ (bb = false → Z k B)) := HCall.mono fun e B h => two9 h
          clear HCall hne HEx HLn HI hit HC
          go_wp2_with fail
          refine HCl.out.mono ?_
          rintro e w2 ⟨bb, rfl, h1, h2⟩
          clear HCl
          cases bb
          case true =>
            obtain ⟨hI3, hit2⟩ := h1 rfl
            clear h1 h2
            by_cases hls : la < s.size
            · have HEl : Hid ((E : Int) = (k : Int) + 1) := HE1.out hls
              clear HE1 HE2 HEk
              go_wp2
              go_returns
              exact .inl ⟨by rw [HEl.out]; rfl, hI3⟩
            · have HEl : Hid ((E : Int) = (k : Int)) := HE2.out hls
              clear HE1 HE2 HEk
              go_wp2
              go_returns
              exact .inl ⟨by rw [HEl.out]; rfl, hI3⟩
          case false =>
            have hZ3 := h2 rfl
            clear h1 h2
            go_wp2
            go_returns
            exact .inr ⟨k, rfl, hZ3⟩
        · have e0 : (s.data.toList.drop wa).take (p - wa) = [] := List.eq_nil_of_length_eq_zero (by rw [HLn.out]; omega)
          rw [e0, show one9 false [] k = [] from rfl] at HI
          clear e0 HEx HLn HC
          by_cases hls : la < s.size
          · have HEl : Hid ((E : Int) = (k : Int) + 1) := HE1.out hls
            clear HE1 HE2 HEk
            go_wp2
            go_returns
            exact .inl ⟨by rw [HEl.out]; rfl, HI.out⟩
          · have HEl : Hid ((E : Int) = (k : Int)) := HE2.out hls
            clear HE1 HE2 HEk
            go_wp2
            go_returns
            exact .inl ⟨by rw [HEl.out]; rfl, HI.out⟩

end Go.Proofs.YtilcokpaeapmeaaDoor
