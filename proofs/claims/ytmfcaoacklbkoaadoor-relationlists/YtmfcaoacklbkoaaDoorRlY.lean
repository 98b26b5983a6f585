/-
  The program's alternatives, several lists, whole, Read, ReadList, walked.
  KEEP: off c0 c1 c2 c3 c4 s0 s1 s2 s3 s4 newS rds lt f t q x walk LsAns Ap blw put22 OwnR OwnRs len below nil form rd mono on app start at new trans refl kept own row out grown rdz set one more lt size cell some none letL tail next step go add put del get look no yes e c f b k n m box c0 c1 c2 s0 s1 s2 s3 newS drewN x t q done keep
-/
import Derived.Test.YtmfcaoacklbkoaaDoorRlX
set_option linter.unusedSimpArgs false
set_option linter.unusedVariables false
namespace Go.Proofs.YtmfcaoacklbkoaaDoor
open Go Go.RowKit

set_option maxHeartbeats 1600000 in
theorem alternatives22 (s : ByteArray) (k D : Nat) (w : World) (hR : Rx w D s k) (hT : OpT w) (hk : k ≤ s.size) (hs : s.size ≤ 1099511627776) :
    Calls Tryd.prog 30 #[.pointer (some ⟨D, 0, none⟩)] w fun e w' => SvAns w w' e D s (sevF s 124 (s.size + 1) (runF gapZ s.data.toList k) []) := by
  have HS : Hid (Calls Tryd.prog 46 #[.pointer (some ⟨D, 0, none⟩), .int .i64 6, .func (.func 32) #[.pointer (some ⟨D, 0, none⟩)] #[]] w fun e w' => SvAns w w' e D s (sevF s 124 (s.size + 1) (runF gapZ s.data.toList k) [])) := several22 s k D 6 124 w kd_6 (by decide) (by decide) hR hT hk hs
  generalize sevF s 124 (s.size + 1) (runF gapZ s.data.toList k) [] = R at *
  go_enter Tryd.func30, Tryd.ntmps30
  go_wp2_with fail
  refine HS.out.mono ?_
  intro e w1 h1
  cases R with
  | error p =>
    obtain ⟨rfl, h2, h3, h4⟩ := h1
    go_wp2
    go_returns
    exact ⟨rfl, h2, h3, h4⟩
  | ok p =>
    obtain ⟨a, c, rfl, h2, h3⟩ := h1
    go_wp2
    go_returns
    exact ⟨a, c, rfl, h2, h3⟩
/-- what several lists answer -/
def SlAns (w w' : World) (e : Ending) (D : Nat) (s : ByteArray) : Except (Int × Nat) (List (List Rl) × Nat) → Prop
  | .error p => e = .returned (.tuple #[.slice none 0 0, .int .i64 p.1]) ∧ p.1 ≠ 0 ∧ p.2 ≤ s.size ∧ LkA w w' D s p.2
  | .ok p => ∃ a c L, e = .returned (.tuple #[.slice a L.length c, .int .i64 0]) ∧ OwnRs w.heap.size w' (.slice a L.length c) L ∧ rgS L = p.1 ∧ p.2 ≤ s.size ∧ runF gapZ s.data.toList p.2 = p.2 ∧ LkA w w' D s p.2
theorem OwnRs.lk22 {B : Nat} {W W' : World} {D : Nat} {s : ByteArray} {a : Nat} {v : Value} {L : List RG} (h : OwnRs B W v L) (hD : D < B) (hk : LkA W W' D s a) : OwnRs B W' v L :=
  ⟨row_kept22 h.row fun k e => hk.2.block k (World.ownsRow.lt h.row k e).2 (fun q => by injection q with q; have := (World.ownsRow.lt h.row k e).1; omega), fun x hx => OwnR.lk22 (h.own x hx) hD hk, h.ap⟩
theorem OwnRs.st22 {B B' : Nat} {W : World} {s v : Value} {L : List RG} {N : List Rl} (h : OwnRs B W s L) (g : OwnR B' W v N) (hB : B ≤ B') (hlt : ∀ x ∈ L, ∀ k, x.1.ownBlock = some k → k < B') : St22 B W s L v N :=
  ⟨h, row_mono g hB, fun x hx k e e2 => by have h1 := hlt x hx k e; have h2 := (World.ownsRow.lt g k e2).1; omega⟩
set_option maxHeartbeats 6400000 in
set_option maxRecDepth 20000 in
theorem severalL22 (s : ByteArray) (k D : Nat) (w : World) (hR : Rx w D s k) (hT : OpT w) (hk : k ≤ s.size) (hs : s.size ≤ 1099511627776) :
    Calls Tryd.prog 45 #[.pointer (some ⟨D, 0, none⟩), .int .i64 7, .func (.func 30) #[.pointer (some ⟨D, 0, none⟩)] #[]] w fun e w' => SlAns w w' e D s (lsF s (s.size + 1) (runF gapZ s.data.toList k) []) := by
  obtain ⟨R, hRr⟩ : ∃ R, R = lsF s (s.size + 1) (runF gapZ s.data.toList k) [] := ⟨_, rfl⟩
  rw [← hRr]
  have HRe : Hid (∀ W j, Rx W D s j → OpT W → j ≤ s.size → Calls Tryd.prog 30 #[.pointer (some ⟨D, 0, none⟩)] W fun e w' => SvAns W w' e D s (sevF s 124 (s.size + 1) (runF gapZ s.data.toList j) [])) := fun W j h ht hj => alternatives22 s j D W h ht hj hs
  have HPs : Hid (∀ W j, Rx W D s j → j ≤ s.size → Calls Tryd.prog 48 #[.pointer (some ⟨D, 0, none⟩), .int .i64 7] W fun e w' => e = .returned (.bool (lkF s (runF gapZ s.data.toList j) == 7)) ∧ LkA W w' D s (psA s (runF gapZ s.data.toList j) 7)) := fun W j h hj => pass22 s j D 7 W h hj (by omega)
  have HLk : Hid (∀ a, lkF s a = 7 ↔ atB s a = 44) := fun a => lk_at kd_7 (by decide) (by decide)
  have HDw : Hid (D < w.heap.size) := hR.lt
  have HOT : Hid (∀ W a, LkA w W D s a → OpT W) := fun W a h => hT.lk hR h
  obtain ⟨i1, hi, hz0, hz1, hz2⟩ := info_parts infoRs22
  have HIn1 : Hid (Tryd.prog.info? 26 = some i1 ∧ i1.zero = some (.slice none 0 0) ∧ i1.size = 1 ∧ i1.bytes = 24) := ⟨hi, hz0, hz1, hz2⟩
  clear hi hz0 hz1 hz2
  have HRr : Hid (R = lsF s (s.size + 1) (runF gapZ s.data.toList k) []) := hRr
  have HX0 : Hid (LkA w w D s k) := ⟨hR, gr_b22 (Below.refl _ _)⟩
  clear hRr hR hT
  go_enter Tryd.func45, Tryd.ntmps45
  go_wp2
  go_loopg [8] (s.size + 1) (fun g o wr => ∃ (j : Nat) (L : List RG) (a8 : Option Addr) (c8 : Nat), s.size < runF gapZ s.data.toList j + g ∧ j ≤ s.size ∧ L.length ≤ j ∧ o = .slice a8 L.length c8 ∧ Hid (OwnRs w.heap.size wr (.slice a8 L.length c8) L) ∧ Hid (R = lsF s g (runF gapZ s.data.toList j) (rgS L)) ∧ Hid (LkA w wr D s j))
  case atStart => exact ⟨k, [], none, 0, by omega, hk, by simp, rfl, OwnRs.nil _ _, HRr.out, HX0.out⟩
  case round =>
    obtain ⟨j, L, a8, c8, hfu, hj, hL, rfl, HO, HK, HX⟩ := hrel
    clear HRr HX0 hk
    have ha1 := runF_ge gapZ s.data.toList j
    have ha2 := runF_le22 gapZ s hj
    obtain ⟨f, rfl⟩ : ∃ f, gk = f + 1 := ⟨gk - 1, by omega⟩
    have HC := HRe.out wr j HX.out.1 (HOT.out _ _ HX.out) hj
    have HSv := fun p => sev_ok (s := s) (Z := 124) (by decide) (s.size + 1) (runF gapZ s.data.toList j) [] p ha2
    generalize runF gapZ s.data.toList j = a at *
    have HK2 : R = (match sevF s 124 (s.size + 1) a [] with | .error e => .error e | .ok p => if atB s p.2 = 44 then lsF s f (runF gapZ s.data.toList (p.2 + 1)) (rgS L ++ [p.1]) else .ok (rgS L ++ [p.1], p.2)) := HK.out
    clear HK
    generalize sevF s 124 (s.size + 1) a [] = V at *
    have HC1 : Hid (Calls Tryd.prog 30 #[.pointer (some ⟨D, 0, none⟩)] wr fun e w' => SvAns wr w' e D s V) := HC
    clear HC
    go_wp2_with fail
    refine HC1.out.mono ?_
    intro e w2 h2
    cases V with
    | error p =>
      obtain ⟨rfl, he, hp, hx2⟩ := h2
      have HE : Hid (R = .error p) := HK2
      have hb : (p.1 != 0) = true := by simpa using he
      have HX2 : Hid (LkA w w2 D s p.2) := HX.out.trans22 hx2
      have HEr : Hid (p.1 ≠ 0) := he
      clear HK2 hx2 HSv HC1 he
      go_wp2
      go_returns
      rw [HE.out]
      exact ⟨rfl, HEr.out, hp, HX2.out⟩
    | ok p =>
      obtain ⟨N, q⟩ := p
      obtain ⟨va, vc, rfl, ho2, hx2⟩ := h2
      simp only at ho2 hx2
      obtain ⟨haq, hqs, hgq, hNl⟩ := HSv (N, q) rfl
      simp only at haq hqs hgq hNl
      have HK4 : Hid (R = if atB s q = 44 then lsF s f (runF gapZ s.data.toList (q + 1)) (rgS L ++ [N]) else .ok (rgS L ++ [N], q)) := HK2
      have HX2 : Hid (LkA w w2 D s q) := HX.out.trans22 hx2
      have HOl : Hid (OwnRs w.heap.size w2 (.slice a8 L.length c8) L) := HO.out.lk22 HDw.out hx2
      have hww : w.heap.size ≤ wr.heap.size := HX.out.2.size
      have HSt : Hid (St22 w.heap.size w2 (.slice a8 L.length c8) L (.slice va N.length vc) N) := HOl.out.st22 ho2 hww (fun x hx g e => (World.ownsRow.lt (HO.out.own x hx) g e).2)
      have HGq : Hid (runF gapZ s.data.toList q = q) := hgq
      clear HK2 HSv HC1 hx2 ho2 HX HO HOl hgq hNl hww
      simp only
      generalize N.length = nl at *
      have HRow2 : Hid ((w2.alloc (.cells #[.slice va nl vc] 26)).ownsRow w.heap.size 26 1 (.slice a8 L.length c8) L.length (rgC L)) := World.ownsRow.alloc HSt.out.t.row _
      have HNw2 : Hid (∀ j u, [Value.slice va nl vc][j]? = some u → (w2.alloc (.cells #[.slice va nl vc] 26)).cell? ((⟨w2.heap.size, 0, none⟩ : Addr).add j) = some u) := one_new22 w2 _ _
      have HPt2 : Hid (∀ v9 w9, w9.ownsRow w.heap.size 26 1 v9 (L.length + 1) (rgC L ++ [.slice va nl vc]) → Ap (w2.alloc (.cells #[.slice va nl vc] 26)) (.slice a8 L.length c8) w9 v9 → (OwnRs w.heap.size w9 v9 (L ++ [((.slice va nl vc), N)]) ∧ ∃ a9 c9, v9 = .slice a9 (L.length + 1) c9) ∧ LkA w w9 D s q) := fun v9 w9 o9 p9 => ⟨HSt.out.done o9 p9, HX2.out.app22 HDw.out (fun g e => (World.ownsRow.lt HSt.out.t.row g e).1) p9⟩
      have hsz9 : w.heap.size ≤ w2.heap.size := HX2.out.2.size
      go_upto_region 6 with (at_builtin; refine wpList_append_apk rfl (.tmp 19) (.tmp 21) 22 rfl w.heap.size 26 i1 (.slice none 0 0) 1 24 Tryd.underlying22 HIn1.out.1 HIn1.out.2.1 HIn1.out.2.2.1 HIn1.out.2.2.2 rfl (by decide) (.slice a8 L.length c8) L.length (rgC L) rfl HRow2.out ⟨w2.heap.size, 0, none⟩ 1 1 [.slice va nl vc] rfl rfl HNw2.out (by simp [Value.oneCell']) (by unfold maxLen; omega) (by omega) (by simp; omega) ?_; intro v9 w9 own9 ap9; obtain ⟨⟨s9, a9, c9, rfl⟩, b9⟩ := HPt2.out v9 w9 own9 ap9; have HT9 : Hid (OwnRs w.heap.size w9 (.slice a9 (L.length + 1) c9) (L ++ [((.slice va nl vc), N)])) := s9; have HX9 : Hid (LkA w w9 D s q) := b9; clear own9 ap9 s9 b9)
      clear HRow2 HNw2 HPt2 hsz9 HSt HX2
      have HC2 : Hid (Calls Tryd.prog 48 #[.pointer (some ⟨D, 0, none⟩), .int .i64 7] w9 fun e w' => e = .returned (.bool (lkF s q == 7)) ∧ LkA w9 w' D s (psA s q 7)) := by
        have := HPs.out w9 q HX9.out.1 hqs
        rw [HGq.out] at this
        exact this
      have HPq : Hid (psA s q 7 = if lkF s q = 7 then q + 1 else q) := rfl
      have hlk := HLk.out q
      by_cases hz : atB s q = 44
      · have hl : lkF s q = 7 := hlk.2 hz
        have hb : (lkF s q == 7) = true := by simpa using hl
        have hp : psA s q 7 = q + 1 := by rw [HPq.out, if_pos hl]
        rw [hb, hp] at HC2
        have hlt := at_lt22 (by decide) hz
        have g1 := runF_ge gapZ s.data.toList (q + 1)
        have g2 := runF_le22 gapZ s (k := q + 1) hlt
        have HKn : Hid (R = lsF s f (runF gapZ s.data.toList (q + 1)) (rgS L ++ [N])) := by show _ = _; rw [HK4.out, if_pos hz]
        clear HK4 HPq hlk hl hb hp hz
        go_wp2_with (go_at_call 48; refine HC2.out.mono ?_; rintro e w3 ⟨rfl, h9⟩; have HX3 : Hid (LkA w w3 D s (q + 1)) := HX9.out.trans22 h9; have HO3 : Hid (OwnRs w.heap.size w3 (.slice a9 (L.length + 1) c9) (L ++ [((.slice va nl vc), N)])) := HT9.out.lk22 HDw.out h9; clear h9)
        go_roundg f
        case measure => omega
        case rel => exact ⟨q + 1, L ++ [((.slice va nl vc), N)], a9, c9, by omega, hlt, by simp; omega, by simp, by rw [List.length_append]; exact HO3.out, by rw [rgS, List.map_append]; exact HKn.out, HX3.out⟩
      · have hl : ¬ lkF s q = 7 := fun h => hz (hlk.1 h)
        have hb : (lkF s q == 7) = false := by simpa using hl
        have hp : psA s q 7 = q := by rw [HPq.out, if_neg hl]
        rw [hb, hp] at HC2
        have HE : Hid (R = .ok (rgS L ++ [N], q)) := by show _ = _; rw [HK4.out, if_neg hz]
        clear HK4 HPq hlk hl hb hp hz
        go_wp2_with (go_at_call 48; refine HC2.out.mono ?_; rintro e w3 ⟨rfl, h9⟩; have HX3 : Hid (LkA w w3 D s q) := HX9.out.trans22 h9; have HO3 : Hid (OwnRs w.heap.size w3 (.slice a9 (L.length + 1) c9) (L ++ [((.slice va nl vc), N)])) := HT9.out.lk22 HDw.out h9; clear h9)
        go_returns
        rw [HE.out]
        exact ⟨a9, c9, L ++ [((.slice va nl vc), N)], by simp, by rw [List.length_append]; exact HO3.out, by rw [rgS, List.map_append]; rfl, hqs, HGq.out, HX3.out⟩

end Go.Proofs.YtmfcaoacklbkoaaDoor
