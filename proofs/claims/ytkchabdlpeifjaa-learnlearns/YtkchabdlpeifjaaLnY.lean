/-
  learn, the document's side: last.
  KEEP: len below nil form rd mono one more grown lt size cell some none of ofNat add out step row get at mk new made look put del kept drew alloc has same other map rde take lit lev lstB pre ws cells bnd on start app set box bel rz tidy ms reason c f max lv
-/
import Derived.Test.YtkchabdlpeifjaaLnX
import Derived.Test.YtkchabdlpeifjaaLnRc
import Derived.Test.YtkchabdlpeifjaaRefW
set_option linter.unusedSimpArgs false
set_option linter.unusedVariables false
namespace Go.Proofs.Ytkchabdlpeifjaa
open Go Go.RowKit
theorem filter_yes {zs : List Int} {q : Int → Bool} {k : Nat} (h : k < zs.length) (hq : q (zs.getD k 0) = true) : (zs.take (k + 1)).filter q = (zs.take k).filter q ++ [zs.getD k 0] := by
  rw [take_succ_getD zs 0 k h, List.filter_append, List.filter_cons, if_pos hq]; rfl
theorem filter_no {zs : List Int} {q : Int → Bool} {k : Nat} (h : k < zs.length) (hq : q (zs.getD k 0) = false) : (zs.take (k + 1)).filter q = (zs.take k).filter q := by
  rw [take_succ_getD zs 0 k h, List.filter_append, List.filter_cons, if_neg (by rw [hq]; simp)]; simp
/-- the last one so far -/
def LaS (t : List Ent) (L : Int) (c : List Int) (one : Int) : Prop := ((c.filter fun x => lvl t x == L).length = 0 ∧ one = 0) ∨ (0 < (c.filter fun x => lvl t x == L).length ∧ LastP t L c one)
theorem LaS.skip {t : List Ent} {L : Int} {c : List Int} {one : Int} {k : Nat} (hk : k < c.length) (h : LaS t L (c.take k) one) (hn : lvl t (c.getD k 0) ≠ L) : LaS t L (c.take (k + 1)) one := by
  have e := filter_no (q := fun x => lvl t x == L) hk (by simpa using hn)
  unfold LaS at h ⊢
  rw [e]
  rcases h with h | ⟨h1, h2⟩
  · exact .inl h
  · refine .inr ⟨h1, ?_, h2.lv, ?_⟩
    · rw [take_succ_getD c 0 k hk]; exact List.mem_append_left _ h2.has
    · intro y hy hl
      rw [take_succ_getD c 0 k hk] at hy
      rcases List.mem_append.1 hy with q | q
      · exact h2.max y q hl
      · rw [List.mem_singleton.1 q] at hl; exact absurd hl hn
theorem LaS.take' {t : List Ent} {L : Int} {c : List Int} {one : Int} {k : Nat} (hk : k < c.length) (h : LaS t L (c.take k) one) (hl : lvl t (c.getD k 0) = L) (hp : one = 0 ∨ plN t one < plN t (c.getD k 0)) (hne : ∀ x ∈ c, x ≠ 0) : LaS t L (c.take (k + 1)) (c.getD k 0) := by
  have e := filter_yes (q := fun x => lvl t x == L) hk (by simpa using hl)
  unfold LaS at h ⊢
  rw [e]
  refine .inr ⟨by simp, ?_, hl, ?_⟩
  · rw [take_succ_getD c 0 k hk]; simp
  · intro y hy hly
    rw [take_succ_getD c 0 k hk] at hy
    rcases List.mem_append.1 hy with q | q
    · rcases h with h | ⟨h1, h2⟩
      · have : y ∈ (c.take k).filter fun x => lvl t x == L := List.mem_filter.2 ⟨q, by simpa using hly⟩
        rw [List.length_eq_zero_iff.1 h.1] at this
        cases this
      · have := h2.max y q hly
        rcases hp with hp | hp
        · exact absurd hp (hne one (List.mem_of_mem_take h2.has))
        · omega
    · rw [List.mem_singleton.1 q]; exact Nat.le_refl _
theorem LaS.keep {t : List Ent} {L : Int} {c : List Int} {one : Int} {k : Nat} (hk : k < c.length) (h : LaS t L (c.take k) one) (hl : lvl t (c.getD k 0) = L) (h0 : one ≠ 0) (hp : plN t (c.getD k 0) ≤ plN t one) : LaS t L (c.take (k + 1)) one := by
  have e := filter_yes (q := fun x => lvl t x == L) hk (by simpa using hl)
  unfold LaS at h ⊢
  rw [e]
  rcases h with h | ⟨h1, h2⟩
  · exact absurd h.2 h0
  · refine .inr ⟨by simp, ?_, h2.lv, ?_⟩
    · rw [take_succ_getD c 0 k hk]; exact List.mem_append_left _ h2.has
    · intro y hy hly
      rw [take_succ_getD c 0 k hk] at hy
      rcases List.mem_append.1 hy with q | q
      · exact h2.max y q hly
      · rw [List.mem_singleton.1 q]; exact hp
theorem plI_plN {t : List Ent} (h : Ws t) {x : Int} (hx : isF t x = true) : plI t x = (plN t x : Int) := plI_some (h.isF_at hx).2.2.2.2
set_option maxRecDepth 100000 in
set_option maxHeartbeats 3200000 in
theorem rLast_any (v vc : Value) (t : List Ent) (zs : List Int) (L : Int) (w : World) (hr : RdE w v t) (hz : Rd w vc zs) (hw : Ws t) (hf : ∀ x ∈ zs, isF t x = true) :
    Calls Try.prog 37 #[v, vc, .int .i64 L] w fun e w' => ∃ one, e = .returned (.tuple #[.int .i64 ((zs.filter fun x => lvl t x == L).length : Int), .int .i64 one]) ∧ LaS t L zs one ∧ w' = w := by
  have hl := hz.len
  have hl2 := hr.len
  have HR : Hid (RdE w v t) := hr
  have HWs : Hid (Ws t) := hw
  have HFl : Hid (∀ x ∈ zs, isF t x = true) := hf
  have HNz : Hid (∀ x ∈ zs, x ≠ 0) := fun x hx => (fmd_range (hw.isF_at (hf x hx)).1).1
  obtain ⟨a, c, rfl, hc, hm, _⟩ := hr.form
  obtain ⟨ua, uc, rfl, huc, hum, hcell⟩ := hz.form
  have HC : Hid (∀ k, k < zs.length → ∃ b off, ua = some ⟨b, off, none⟩ ∧ w.cell? ⟨b, off + k, none⟩ = some (.int .i64 (zs.getD k 0))) := hcell
  clear hcell hz hr hw hf
  go_enter Try.func37, Try.ntmps37
  go_wp2
  go_loopg [8, 9, 10] zs.length (fun g n o i wr => ∃ (k : Nat) (one : Int), k + g = zs.length ∧ n = .int .i64 (((zs.take k).filter fun x => lvl t x == L).length : Int) ∧ o = .int .i64 one ∧ i = .int .i64 k ∧ Hid (LaS t L (zs.take k) one) ∧ wr = w)
  case atStart => exact ⟨0, 0, by omega, rfl, rfl, rfl, .inl ⟨rfl, rfl⟩, rfl⟩
  case round =>
    obtain ⟨k, one, hk, rfl, rfl, rfl, HL, rfl⟩ := hrel
    have HK : Hid (k + gk = zs.length) := hk
    by_cases hlt : k < zs.length
    · obtain ⟨b, off, rfl, hck⟩ := HC.out k hlt
      have hmem := getD_mem' (l := zs) (k := k) (d := 0) hlt
      obtain ⟨hfm, _, _, _, _⟩ := HWs.out.isF_at (HFl.out _ hmem)
      have HLv : Hid (Calls Try.prog 36 #[.slice a t.length c, .int .i64 (zs.getD k 0)] wr fun e w' => e = .returned (.int .i64 (lvl t (zs.getD k 0))) ∧ w' = wr) := by
        rw [← HWs.out.lvR_lvl (HFl.out _ hmem)]; exact rLevel_any _ t _ wr HR.out hfm
      have hflen := List.length_filter_le (fun x => lvl t x == L) (zs.take k)
      rw [List.length_take] at hflen
      by_cases hlv : lvl t (zs.getD k 0) = L
      · have hFy := filter_yes (q := fun x => lvl t x == L) hlt (by simpa using hlv)
        have hFl : (((zs.take (k + 1)).filter fun x => lvl t x == L).length : Int) = (((zs.take k).filter fun x => lvl t x == L).length : Int) + 1 := by rw [hFy]; simp
        have HFy : Hid ((((zs.take (k + 1)).filter fun x => lvl t x == L).length : Int) = (((zs.take k).filter fun x => lvl t x == L).length : Int) + 1) := hFl
        rw [hlv] at HLv
        have HPP : Hid (∀ x, (fmd x = true) → Calls Try.prog 27 #[.slice a t.length c, .int .i64 x] wr fun e w' => e = .returned (.int .i64 (plI t x)) ∧ w' = wr) := fun x hx => rPlace_any _ t x wr HR.out hx
        have hpy := plI_plN HWs.out (HFl.out _ hmem)
        by_cases h0 : one = 0
        · have HN : Hid (LaS t L (zs.take (k + 1)) (zs.getD k 0)) := HL.out.take' hlt hlv (.inl h0) HNz.out
          subst h0
          clear hk hmem hFy hFl hlv HPP hpy
          generalize ((zs.take k).filter fun x => lvl t x == L).length = n at *
          generalize hy : zs.getD k 0 = y at *
          have hwn : IntKind.i64.wrap ((n : Int) + 1) = (n : Int) + 1 := by rw [IntKind.wrap_i64]; omega
          go_wp2_with (first | (go_at_call 36; refine HLv.out.mono ?_; rintro e w' ⟨rfl, hw⟩; obtain rfl := hw.symm))
          go_roundg (gk - 1)
          case measure => have := HK.out; omega
          case rel => exact ⟨k + 1, y, by have := HK.out; omega, by rw [HFy.out], rfl, by go_num, HN.out, rfl⟩
        · have hone : isF t one = true := by
            rcases HL.out with q | ⟨_, q⟩
            · exact absurd q.2 h0
            · exact HFl.out _ (List.mem_of_mem_take q.has)
          have hpo := plI_plN HWs.out hone
          obtain ⟨hfo, _, _, _, _⟩ := HWs.out.isF_at hone
          have h0b : (one == 0) = false := by simpa using h0
          by_cases hgt : plN t one < plN t (zs.getD k 0)
          · have HN : Hid (LaS t L (zs.take (k + 1)) (zs.getD k 0)) := HL.out.take' hlt hlv (.inr hgt) HNz.out
            have hgi : plI t one < plI t (zs.getD k 0) := by rw [hpy, hpo]; omega
            clear hk hmem hFy hFl hlv hpy hpo hone
            generalize ((zs.take k).filter fun x => lvl t x == L).length = n at *
            generalize hy : zs.getD k 0 = y at *
            generalize plI t = pv at *
            have hwn : IntKind.i64.wrap ((n : Int) + 1) = (n : Int) + 1 := by rw [IntKind.wrap_i64]; omega
            go_wp2_with (first | (go_at_call 36; refine HLv.out.mono ?_; rintro e w' ⟨rfl, hw⟩; obtain rfl := hw.symm) | (go_at_call 27; refine (HPP.out _ (by first | exact hfm | exact hfo)).mono ?_; rintro e w' ⟨rfl, hw⟩; obtain rfl := hw.symm))
            go_roundg (gk - 1)
            case measure => have := HK.out; omega
            case rel => exact ⟨k + 1, y, by have := HK.out; omega, by rw [HFy.out], rfl, by go_num, HN.out, rfl⟩
          · have HN : Hid (LaS t L (zs.take (k + 1)) one) := HL.out.keep hlt hlv h0 (by omega)
            have hgi : ¬ plI t one < plI t (zs.getD k 0) := by rw [hpy, hpo]; omega
            clear hk hmem hFy hFl hlv hpy hpo hone
            generalize ((zs.take k).filter fun x => lvl t x == L).length = n at *
            generalize hy : zs.getD k 0 = y at *
            generalize plI t = pv at *
            have hwn : IntKind.i64.wrap ((n : Int) + 1) = (n : Int) + 1 := by rw [IntKind.wrap_i64]; omega
            go_wp2_with (first | (go_at_call 36; refine HLv.out.mono ?_; rintro e w' ⟨rfl, hw⟩; obtain rfl := hw.symm) | (go_at_call 27; refine (HPP.out _ (by first | exact hfm | exact hfo)).mono ?_; rintro e w' ⟨rfl, hw⟩; obtain rfl := hw.symm))
            go_roundg (gk - 1)
            case measure => have := HK.out; omega
            case rel => exact ⟨k + 1, one, by have := HK.out; omega, by rw [HFy.out], rfl, by go_num, HN.out, rfl⟩
      · have HFn : Hid (((zs.take (k + 1)).filter fun x => lvl t x == L).length = ((zs.take k).filter fun x => lvl t x == L).length) := congrArg List.length (filter_no (q := fun x => lvl t x == L) hlt (by simpa using hlv))
        have HN : Hid (LaS t L (zs.take (k + 1)) one) := HL.out.skip hlt hlv
        have hlb : (lvl t (zs.getD k 0) == L) = false := by simpa using hlv
        clear hk hmem
        generalize ((zs.take k).filter fun x => lvl t x == L).length = n at *
        generalize zs.getD k 0 = y at *
        generalize lvl t y = ly at *
        go_wp2_with (first | (go_at_call 36; refine HLv.out.mono ?_; rintro e w' ⟨rfl, hw⟩; obtain rfl := hw.symm))
        go_roundg (gk - 1)
        case measure => have := HK.out; omega
        case rel => exact ⟨k + 1, one, by have := HK.out; omega, by rw [HFn.out], rfl, by go_num, HN.out, rfl⟩
    · obtain rfl : k = zs.length := by omega
      have HE : Hid (LaS t L zs one) := by have := HL.out; rw [List.take_length] at this; exact this
      rw [List.take_length]
      clear hk
      go_wp2
      go_ret2
      exact ⟨one, rfl, HE.out, rfl⟩
end Go.Proofs.Ytkchabdlpeifjaa
