/-
  The program's whole, Read, ReadList, walked.
  KEEP: off c0 c1 c2 c3 c4 s0 s1 s2 s3 s4 newS rds lt f t q x walk lisF LsAns Ap blw put22 OwnR OwnRs len below nil form rd mono on app start at new trans refl kept own row out grown rdz set one more lt size cell some none letL tail next step go add put del get look no yes e c f b k n m box c0 c1 c2 s0 s1 s2 s3 newS drewN x t q done keep lk22 st22
-/
import Derived.Test.YtmfcaoacklbkoaaDoorRlY
set_option linter.unusedSimpArgs false
set_option linter.unusedVariables false
namespace Go.Proofs.YtmfcaoacklbkoaaDoor
open Go Go.RowKit

/-- what whole answers of lists -/
def WlAns (B : Nat) (w w' : World) (e : Ending) (D : Nat) : Except (Int × Int) (List (List Rl)) → Prop
  | .error p => e = .returned (.tuple #[.slice none 0 0, .int .i64 p.1, .int .i64 p.2]) ∧ w.grownBy w' (some D)
  | .ok l => ∃ v L, e = .returned (.tuple #[v, .int .i64 0, .int .i64 0]) ∧ OwnRs B w' v L ∧ rgS L = l ∧ w.grownBy w' (some D)
/-- .. of plain lists -/
def WpAns (B : Nat) (w w' : World) (e : Ending) (D : Nat) : Except (Int × Int) (List Rl) → Prop
  | .error p => e = .returned (.tuple #[.slice none 0 0, .int .i64 p.1, .int .i64 p.2]) ∧ w.grownBy w' (some D)
  | .ok l => ∃ v, e = .returned (.tuple #[v, .int .i64 0, .int .i64 0]) ∧ OwnR B w' v l ∧ w.grownBy w' (some D)
def whL (s : ByteArray) : Except (Int × Int) (List (List Rl)) := if runF gapZ s.data.toList 0 = s.size then .ok [] else whF s (lsF s (s.size + 1) (runF gapZ s.data.toList 0) [])
def whP (s : ByteArray) : Except (Int × Int) (List Rl) := if runF gapZ s.data.toList 0 = s.size then .ok [] else whF s (sevF s 44 (s.size + 1) (runF gapZ s.data.toList 0) [])
set_option maxHeartbeats 3200000 in
set_option maxRecDepth 20000 in
theorem wholeL22 (s : ByteArray) (D : Nat) (w : World) (hR : Rx w D s 0) (hT : OpT w) (hs : s.size ≤ 1099511627776) :
    Calls Tryd.prog 29 #[.pointer (some ⟨D, 0, none⟩), .func (.func 30) #[.pointer (some ⟨D, 0, none⟩)] #[]] w fun e w' => WlAns w.heap.size w w' e D (whL s) := by
  have ha := runF_le22 gapZ s (Nat.zero_le s.size)
  have HLo : Hid (∀ W j, Rx W D s j → j ≤ s.size → Calls Tryd.prog 44 #[.pointer (some ⟨D, 0, none⟩)] W fun e w' => e = .returned (.int .i64 (lkF s (runF gapZ s.data.toList j))) ∧ LkA W w' D s (runF gapZ s.data.toList j)) := fun W j h hj => look22 s j D W h hj (by omega)
  have HC1 := HLo.out w 0 hR (Nat.zero_le _)
  have HSt : Hid (runF gapZ s.data.toList (runF gapZ s.data.toList 0) = runF gapZ s.data.toList 0) := runF_stop (Nat.zero_le _)
  have HSv : Hid (∀ W j, Rx W D s j → OpT W → j ≤ s.size → Calls Tryd.prog 45 #[.pointer (some ⟨D, 0, none⟩), .int .i64 7, .func (.func 30) #[.pointer (some ⟨D, 0, none⟩)] #[]] W fun e w' => SlAns W w' e D s (lsF s (s.size + 1) (runF gapZ s.data.toList j) [])) := fun W j h ht hj => severalL22 s j D W h ht hj hs
  have HW : Hid (whL s = if runF gapZ s.data.toList 0 = s.size then .ok [] else whF s (lsF s (s.size + 1) (runF gapZ s.data.toList 0) [])) := rfl
  have HDw : Hid (D < w.heap.size) := hR.lt
  have HOT : Hid (∀ W a, LkA w W D s a → OpT W) := fun W a h => hT.lk hR h
  have HCl : Hid (Calls Tryd.prog 44 #[.pointer (some ⟨D, 0, none⟩)] w fun e w' => e = .returned (.int .i64 (lkF s (runF gapZ s.data.toList 0))) ∧ LkA w w' D s (runF gapZ s.data.toList 0)) := HC1
  clear HC1 hR hT
  generalize whL s = R at *
  generalize runF gapZ s.data.toList 0 = a at *
  go_enter Tryd.func29, Tryd.ntmps29
  go_wp2_with fail
  refine HCl.out.mono ?_
  rintro e w1 ⟨rfl, h1⟩
  have HX1 : Hid (LkA w w1 D s a) := h1
  clear h1 HCl
  by_cases h0 : a = s.size
  · have hl : lkF s a = 0 := lk_end.2 (by omega)
    have HE : Hid (R = .ok []) := by show _ = _; rw [HW.out, if_pos h0]
    rw [hl]
    clear hl HW h0
    go_wp2
    go_returns
    rw [HE.out]
    exact ⟨_, [], rfl, OwnRs.nil _ _, rfl, HX1.out.2⟩
  have hl : ¬ lkF s a = 0 := fun h => h0 (by have := lk_end.1 h; omega)
  have hb : (lkF s a == 0) = false := by simpa using hl
  have HW2 : Hid (R = whF s (lsF s (s.size + 1) a [])) := by show _ = _; rw [HW.out, if_neg h0]
  have HC2 := HSv.out w1 a HX1.out.1 (HOT.out _ _ HX1.out) ha
  rw [HSt.out] at HC2
  generalize lkF s a = L0 at *
  clear hl HW h0 HSt HSv HOT
  have HSl := fun (p : List Rl) (q : Nat) => (trivial : True)
  generalize lsF s (s.size + 1) a [] = V at *
  have HC3 : Hid (Calls Tryd.prog 45 #[.pointer (some ⟨D, 0, none⟩), .int .i64 7, .func (.func 30) #[.pointer (some ⟨D, 0, none⟩)] #[]] w1 fun e w' => SlAns w1 w' e D s V) := HC2
  clear HC2
  go_wp2_with fail
  refine HC3.out.mono ?_
  intro e w2 h2
  have hww : w.heap.size ≤ w1.heap.size := HX1.out.2.size
  cases V with
  | error p =>
    obtain ⟨rfl, he, hp, hx2⟩ := h2
    have HE : Hid (R = .error (p.1, (p.2 : Int))) := HW2.out
    have hb1 : (p.1 != 0) = true := by simpa using he
    have hb2 : (p.1 == 0) = false := by simpa using he
    have HX2 : Hid (LkA w w2 D s p.2) := HX1.out.trans22 hx2
    have c1 := HX2.out.1.c1
    clear HW2 hx2 HC3 he HLo HSl
    go_wp2_with fail
    go_quiet (fail)
    go_wp2
    go_returns
    rw [HE.out]
    exact ⟨rfl, (HX2.out.drewN _).2⟩
  | ok p =>
    obtain ⟨N, q⟩ := p
    obtain ⟨va, vc, L, rfl, ho2, hrg, hqs, hgq, hx2⟩ := h2
    try simp only at ho2 hrg hqs hgq hx2
    have HX2 : Hid (LkA w w2 D s q) := HX1.out.trans22 hx2
    have HO2 : Hid (OwnRs w.heap.size w2 (.slice va L.length vc) L) := ho2.mono hww
    have HC4 := HLo.out w2 q HX2.out.1 hqs
    rw [hgq] at HC4
    have HC5 : Hid (Calls Tryd.prog 44 #[.pointer (some ⟨D, 0, none⟩)] w2 fun e w' => e = .returned (.int .i64 (lkF s q)) ∧ LkA w2 w' D s q) := HC4
    have HW3 : Hid (R = if s.size ≤ q then .ok N else .error (220, (q : Int))) := HW2.out
    have HRg : Hid (rgS L = N) := hrg
    clear HC4 HW2 hx2 HC3 HLo HSl ho2 hgq hww hrg
    try simp only
    generalize L.length = nl at *
    by_cases hq : s.size ≤ q
    · have hl : lkF s q = 0 := lk_end.2 hq
      rw [hl] at HC5
      have HE : Hid (R = .ok N) := by show _ = _; rw [HW3.out, if_pos hq]
      clear hl HW3
      go_wp2_with (go_at_call 44; refine HC5.out.mono ?_; rintro e w3 ⟨rfl, h3⟩; have HX3 : Hid (LkA w w3 D s q) := HX2.out.trans22 h3; have HO3 : Hid (OwnRs w.heap.size w3 (.slice va nl vc) L) := HO2.out.lk22 HDw.out h3; clear h3)
      go_returns
      rw [HE.out]
      exact ⟨_, L, rfl, HO3.out, HRg.out, HX3.out.2⟩
    · have hl : ¬ lkF s q = 0 := fun h => hq (lk_end.1 h)
      have hb1 : (lkF s q != 0) = true := by simpa using hl
      generalize lkF s q = L1 at *
      have HE : Hid (R = .error (220, (q : Int))) := by show _ = _; rw [HW3.out, if_neg hq]
      clear hl HW3 hq
      go_wp2_with (go_at_call 44; refine HC5.out.mono ?_; rintro e w3 ⟨rfl, h3⟩; have HX3 : Hid (LkA w w3 D s q) := HX2.out.trans22 h3; have c1 := HX3.out.1.c1; clear h3)
      go_quiet (fail)
      go_wp2
      go_returns
      rw [HE.out]
      exact ⟨rfl, (HX3.out.drewN _).2⟩
set_option maxHeartbeats 3200000 in
set_option maxRecDepth 20000 in
theorem wholeP22 (s : ByteArray) (D : Nat) (w : World) (hR : Rx w D s 0) (hT : OpT w) (hs : s.size ≤ 1099511627776) :
    Calls Tryd.prog 31 #[.pointer (some ⟨D, 0, none⟩), .func (.func 32) #[.pointer (some ⟨D, 0, none⟩)] #[]] w fun e w' => WpAns w.heap.size w w' e D (whP s) := by
  have ha := runF_le22 gapZ s (Nat.zero_le s.size)
  have HLo : Hid (∀ W j, Rx W D s j → j ≤ s.size → Calls Tryd.prog 44 #[.pointer (some ⟨D, 0, none⟩)] W fun e w' => e = .returned (.int .i64 (lkF s (runF gapZ s.data.toList j))) ∧ LkA W w' D s (runF gapZ s.data.toList j)) := fun W j h hj => look22 s j D W h hj (by omega)
  have HC1 := HLo.out w 0 hR (Nat.zero_le _)
  have HSt : Hid (runF gapZ s.data.toList (runF gapZ s.data.toList 0) = runF gapZ s.data.toList 0) := runF_stop (Nat.zero_le _)
  have HSv : Hid (∀ W j, Rx W D s j → OpT W → j ≤ s.size → Calls Tryd.prog 46 #[.pointer (some ⟨D, 0, none⟩), .int .i64 7, .func (.func 32) #[.pointer (some ⟨D, 0, none⟩)] #[]] W fun e w' => SvAns W w' e D s (sevF s 44 (s.size + 1) (runF gapZ s.data.toList j) [])) := fun W j h ht hj => several22 s j D 7 44 W kd_7 (by decide) (by decide) h ht hj hs
  have HW : Hid (whP s = if runF gapZ s.data.toList 0 = s.size then .ok [] else whF s (sevF s 44 (s.size + 1) (runF gapZ s.data.toList 0) [])) := rfl
  have HDw : Hid (D < w.heap.size) := hR.lt
  have HOT : Hid (∀ W a, LkA w W D s a → OpT W) := fun W a h => hT.lk hR h
  have HCl : Hid (Calls Tryd.prog 44 #[.pointer (some ⟨D, 0, none⟩)] w fun e w' => e = .returned (.int .i64 (lkF s (runF gapZ s.data.toList 0))) ∧ LkA w w' D s (runF gapZ s.data.toList 0)) := HC1
  clear HC1 hR hT
  generalize whP s = R at *
  generalize runF gapZ s.data.toList 0 = a at *
  go_enter Tryd.func31, Tryd.ntmps31
  go_wp2_with fail
  refine HCl.out.mono ?_
  rintro e w1 ⟨rfl, h1⟩
  have HX1 : Hid (LkA w w1 D s a) := h1
  clear h1 HCl
  by_cases h0 : a = s.size
  · have hl : lkF s a = 0 := lk_end.2 (by omega)
    have HE : Hid (R = .ok []) := by show _ = _; rw [HW.out, if_pos h0]
    rw [hl]
    clear hl HW h0
    go_wp2
    go_returns
    rw [HE.out]
    exact ⟨_, rfl, OwnR.nil _ _, HX1.out.2⟩
  have hl : ¬ lkF s a = 0 := fun h => h0 (by have := lk_end.1 h; omega)
  have hb : (lkF s a == 0) = false := by simpa using hl
  have HW2 : Hid (R = whF s (sevF s 44 (s.size + 1) a [])) := by show _ = _; rw [HW.out, if_neg h0]
  have HC2 := HSv.out w1 a HX1.out.1 (HOT.out _ _ HX1.out) ha
  rw [HSt.out] at HC2
  generalize lkF s a = L0 at *
  clear hl HW h0 HSt HSv HOT
  have HSl := fun (p : List Rl) (q : Nat) => sev_ok (s := s) (Z := 44) (by decide) (s.size + 1) a [] (p, q) ha
  generalize sevF s 44 (s.size + 1) a [] = V at *
  have HC3 : Hid (Calls Tryd.prog 46 #[.pointer (some ⟨D, 0, none⟩), .int .i64 7, .func (.func 32) #[.pointer (some ⟨D, 0, none⟩)] #[]] w1 fun e w' => SvAns w1 w' e D s V) := HC2
  clear HC2
  go_wp2_with fail
  refine HC3.out.mono ?_
  intro e w2 h2
  have hww : w.heap.size ≤ w1.heap.size := HX1.out.2.size
  cases V with
  | error p =>
    obtain ⟨rfl, he, hp, hx2⟩ := h2
    have HE : Hid (R = .error (p.1, (p.2 : Int))) := HW2.out
    have hb1 : (p.1 != 0) = true := by simpa using he
    have hb2 : (p.1 == 0) = false := by simpa using he
    have HX2 : Hid (LkA w w2 D s p.2) := HX1.out.trans22 hx2
    have c1 := HX2.out.1.c1
    clear HW2 hx2 HC3 he HLo HSl
    go_wp2_with fail
    go_quiet (fail)
    go_wp2
    go_returns
    rw [HE.out]
    exact ⟨rfl, (HX2.out.drewN _).2⟩
  | ok p =>
    obtain ⟨N, q⟩ := p
    obtain ⟨va, vc, rfl, ho2, hx2⟩ := h2
    try simp only at ho2 hx2
    obtain ⟨-, hqs, hgq, -⟩ := HSl N q rfl
    try simp only at hqs hgq
    have HX2 : Hid (LkA w w2 D s q) := HX1.out.trans22 hx2
    have HO2 : Hid (OwnR w.heap.size w2 (.slice va N.length vc) N) := row_mono ho2 hww
    have HC4 := HLo.out w2 q HX2.out.1 hqs
    rw [hgq] at HC4
    have HC5 : Hid (Calls Tryd.prog 44 #[.pointer (some ⟨D, 0, none⟩)] w2 fun e w' => e = .returned (.int .i64 (lkF s q)) ∧ LkA w2 w' D s q) := HC4
    have HW3 : Hid (R = if s.size ≤ q then .ok N else .error (220, (q : Int))) := HW2.out
    have HRg : Hid (True) := trivial
    clear HC4 HW2 hx2 HC3 HLo HSl ho2 hgq hww 
    try simp only
    generalize N.length = nl at *
    by_cases hq : s.size ≤ q
    · have hl : lkF s q = 0 := lk_end.2 hq
      rw [hl] at HC5
      have HE : Hid (R = .ok N) := by show _ = _; rw [HW3.out, if_pos hq]
      clear hl HW3
      go_wp2_with (go_at_call 44; refine HC5.out.mono ?_; rintro e w3 ⟨rfl, h3⟩; have HX3 : Hid (LkA w w3 D s q) := HX2.out.trans22 h3; have HO3 : Hid (OwnR w.heap.size w3 (.slice va nl vc) N) := HO2.out.lk22 HDw.out h3; clear h3)
      go_returns
      rw [HE.out]
      exact ⟨_, rfl, HO3.out, HX3.out.2⟩
    · have hl : ¬ lkF s q = 0 := fun h => hq (lk_end.1 h)
      have hb1 : (lkF s q != 0) = true := by simpa using hl
      generalize lkF s q = L1 at *
      have HE : Hid (R = .error (220, (q : Int))) := by show _ = _; rw [HW3.out, if_neg hq]
      clear hl HW3 hq
      go_wp2_with (go_at_call 44; refine HC5.out.mono ?_; rintro e w3 ⟨rfl, h3⟩; have HX3 : Hid (LkA w w3 D s q) := HX2.out.trans22 h3; have c1 := HX3.out.1.c1; clear h3)
      go_quiet (fail)
      go_wp2
      go_returns
      rw [HE.out]
      exact ⟨rfl, (HX3.out.drewN _).2⟩

end Go.Proofs.YtmfcaoacklbkoaaDoor
