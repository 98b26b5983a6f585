/-
  The reader's run, walked: from label to label.
  KEEP: below len form out each rd mono nil own row set on app start grown at new one more take none some kept cell refl trans size map made look put blw get step next box lt Ap old run_append_ap run_append_apk step_append_apk wpList_append_apk
-/
import Derived.Test.YtbeaoekbppdlmaaDoorKCrI
import Derived.ScopeJumps
import Derived.WalkMore
set_option linter.unusedSimpArgs false
set_option linter.unusedVariables false
namespace Go.Proofs.YtbeaoekbppdlmaaDoor
open Go Go.RowKit

/-- as Q; by a goto to a label: what holds there -/
def Exit.jumps (J : Nat → Act → World → Prop) (Q : Exit → Act → World → Prop) : Exit → Act → World → Prop
  | .goto l, a, w => J l a w
  | e, a, w => Q e a w
theorem wp_scope_fall {P : Program} {a : Act} {w : World} {Q : Exit → Act → World → Prop} {c r0 r1 r2 : Code} (h0 : findLabel c 0 = some (Code.skip.seq r0)) (h1 : findLabel c 1 = some (Code.skip.seq r1)) (h2 : findLabel c 2 = some (Code.skip.seq r2)) (J0 J1 J2 : Act → World → Prop) (m0 m1 m2 : Act → World → Nat)
    (first : ∀ G, (∀ a w, J0 a w → r0.wp P (Exit.jumps G Q) a w) → c.wp P (Exit.jumps G Q) a w)
    (pass : ∀ (G : Nat → Act → World → Prop) (N : Nat), (∀ a w, J0 a w → m0 a w < N → r0.wp P (Exit.jumps G Q) a w ∧ G 0 a w) → (∀ a w, J1 a w → m1 a w < N → r1.wp P (Exit.jumps G Q) a w ∧ G 1 a w) → (∀ a w, J2 a w → m2 a w < N → r2.wp P (Exit.jumps G Q) a w ∧ G 2 a w) →
      (∀ a w, J0 a w → m0 a w = N → r0.wp P (Exit.jumps G Q) a w) ∧ (∀ a w, J1 a w → m1 a w = N → r1.wp P (Exit.jumps G Q) a w) ∧ (∀ a w, J2 a w → m2 a w = N → r2.wp P (Exit.jumps G Q) a w)) : (Code.scope c).wp P Q a w := by
  intro b k cs
  let R : Nat → Code := fun | 0 => Code.skip.seq r0 | 1 => Code.skip.seq r1 | _ => Code.skip.seq r2
  let G : Nat → Act → World → Prop := fun l a w => (l = 0 ∨ l = 1 ∨ l = 2) ∧ ∃ e a' w', Q e a' w' ∧ Arrives P (lone (b.at a (.code (R l) :: .inScope c :: k)) cs w) b k cs e a' w'
  have hR : ∀ l, (l = 0 ∨ l = 1 ∨ l = 2) → findLabel c l = some (R l) := by
    rintro l (rfl | rfl | rfl)
    · exact h0
    · exact h1
    · exact h2
  have toG : ∀ l a w, (l = 0 ∨ l = 1 ∨ l = 2) → (R l).wp P (Exit.jumps G Q) a w → G l a w := by
    intro l a w hl hw
    refine ⟨hl, ?_⟩
    obtain ⟨e, a₁, w₁, hq, harr⟩ := hw b (.inScope c :: k) cs
    cases e with
    | normal => exact ⟨.normal, a₁, w₁, hq, Steps.trans harr (.one step_inScope)⟩
    | exit id => exact ⟨.exit id, a₁, w₁, hq, fun k' hk => harr k' (by simp [exitTo, hk])⟩
    | goto l' =>
      obtain ⟨hl', e₂, a₂, w₂, hq₂, harr₂⟩ := (hq : G l' a₁ w₁)
      have hg : gotoIn l' (.inScope c :: k) = some (.code (R l') :: .inScope c :: k) := by simp [gotoIn, hR l' hl']
      exact ⟨e₂, a₂, w₂, hq₂, .of_steps (harr _ hg) harr₂⟩
    | ret => exact ⟨_, a₁, w₁, hq, harr⟩
    | panic ch => exact ⟨_, a₁, w₁, hq, harr⟩
    | outgrown => exact ⟨_, a₁, w₁, hq, harr⟩
  have key : ∀ n, (∀ a w, J0 a w → m0 a w = n → r0.wp P (Exit.jumps G Q) a w) ∧ (∀ a w, J1 a w → m1 a w = n → r1.wp P (Exit.jumps G Q) a w) ∧ (∀ a w, J2 a w → m2 a w = n → r2.wp P (Exit.jumps G Q) a w) := by
    intro n
    induction n using Nat.strongRecOn with
    | _ n ih =>
      exact pass G n (fun a w hJ hm => ⟨(ih _ hm).1 a w hJ rfl, toG 0 a w (.inl rfl) (wp_seq (wp_skip ((ih _ hm).1 a w hJ rfl)))⟩) (fun a w hJ hm => ⟨(ih _ hm).2.1 a w hJ rfl, toG 1 a w (.inr (.inl rfl)) (wp_seq (wp_skip ((ih _ hm).2.1 a w hJ rfl)))⟩) (fun a w hJ hm => ⟨(ih _ hm).2.2 a w hJ rfl, toG 2 a w (.inr (.inr rfl)) (wp_seq (wp_skip ((ih _ hm).2.2 a w hJ rfl)))⟩)
  obtain ⟨e, a₁, w₁, hq, harr⟩ := first G (fun a w hJ => (key _).1 a w hJ rfl) b (.inScope c :: k) cs
  cases e with
  | normal => exact ⟨.normal, a₁, w₁, hq, .head step_scope (Steps.trans harr (.one step_inScope))⟩
  | exit id => exact ⟨.exit id, a₁, w₁, hq, fun k' hk => .head step_scope (harr k' (by simp [exitTo, hk]))⟩
  | goto l' =>
    obtain ⟨hl', e₂, a₂, w₂, hq₂, harr₂⟩ := (hq : G l' a₁ w₁)
    have hg : gotoIn l' (.inScope c :: k) = some (.code (R l') :: .inScope c :: k) := by simp [gotoIn, hR l' hl']
    exact ⟨e₂, a₂, w₂, hq₂, .of_steps (.head step_scope (harr _ hg)) harr₂⟩
  | ret => exact ⟨_, a₁, w₁, hq, .of_steps (.one step_scope) harr⟩
  | panic ch => exact ⟨_, a₁, w₁, hq, .of_steps (.one step_scope) harr⟩
  | outgrown => exact ⟨_, a₁, w₁, hq, .of_steps (.one step_scope) harr⟩

/-- the frame of run -/
def FrR (b : Nat) (a : Act) : Prop := a.tmps.size = 46 ∧ a.tmps[0]? = some (.pointer (some ⟨b, 0, none⟩)) ∧ a.defers = []
theorem FrR.form {b : Nat} {a : Act} (h : FrR b a) : ∃ u1 u2 u3 u4 u5 u6 u7 u8 u9 u10 u11 u12 u13 u14 u15 u16 u17 u18 u19 u20 u21 u22 u23 u24 u25 u26 u27 u28 u29 u30 u31 u32 u33 u34 u35 u36 u37 u38 u39 u40 u41 u42 u43 u44 u45 : Value, a = { tmps := (Value.pointer (some ⟨b, 0, none⟩) :: u1 :: u2 :: u3 :: u4 :: u5 :: u6 :: u7 :: u8 :: u9 :: u10 :: u11 :: u12 :: u13 :: u14 :: u15 :: u16 :: u17 :: u18 :: u19 :: u20 :: u21 :: u22 :: u23 :: u24 :: u25 :: u26 :: u27 :: u28 :: u29 :: u30 :: u31 :: u32 :: u33 :: u34 :: u35 :: u36 :: u37 :: u38 :: u39 :: u40 :: u41 :: u42 :: u43 :: u44 :: u45 :: []).toArray, defers := [] } := by
  obtain ⟨⟨l⟩, d⟩ := a
  obtain ⟨h1, h2, h3⟩ := h
  simp only at h1 h2 h3
  subst h3
  match l, h1 with
  | u0 :: u1 :: u2 :: u3 :: u4 :: u5 :: u6 :: u7 :: u8 :: u9 :: u10 :: u11 :: u12 :: u13 :: u14 :: u15 :: u16 :: u17 :: u18 :: u19 :: u20 :: u21 :: u22 :: u23 :: u24 :: u25 :: u26 :: u27 :: u28 :: u29 :: u30 :: u31 :: u32 :: u33 :: u34 :: u35 :: u36 :: u37 :: u38 :: u39 :: u40 :: u41 :: u42 :: u43 :: u44 :: u45 :: [], _ =>
    have e : u0 = .pointer (some ⟨b, 0, none⟩) := by simpa using h2
    subst e
    exact ⟨u1, u2, u3, u4, u5, u6, u7, u8, u9, u10, u11, u12, u13, u14, u15, u16, u17, u18, u19, u20, u21, u22, u23, u24, u25, u26, u27, u28, u29, u30, u31, u32, u33, u34, u35, u36, u37, u38, u39, u40, u41, u42, u43, u44, u45, rfl⟩
set_option maxHeartbeats 12800000 in
set_option maxRecDepth 100000 in
theorem run21 (B : Nat) (W0 W : World) (b mp M : Nat) (Res : Except (Int × Int) (List Stz)) (hM : M ≤ 1099511627776) (hAt : At0 B W0 b mp M Res W) :
    Calls Tryd.prog 35 #[.pointer (some ⟨b, 0, none⟩)] W (RunQ B W0 b Res) := by
  have HAt : Hid (At0 B W0 b mp M Res W) := hAt
  clear hAt
  go_enter Tryd.func35, Tryd.ntmps35
  go_wp2_with fail
  refine wp_scope_fall (c := _) rfl rfl rfl (fun a w => FrR b a ∧ At0 B W0 b mp M Res w) (fun a w => FrR b a ∧ At1 B W0 b mp M Res w) (fun a w => FrR b a ∧ At2 B W0 b mp M Res w) (fun a w => 4 * leftLen b w) (fun a w => 4 * leftLen b w + 2) (fun a w => 4 * leftLen b w + 1) ?_ ?_
  · intro G hG
    go_wp2_with fail
    go_step3
    rename_i K hK
    exact hK _ _ (hG _ _ ⟨⟨rfl, rfl, rfl⟩, HAt.out⟩)
  · intro G N k0 k1 k2
    have HK0 : Hid (∀ a w, FrR b a → At0 B W0 b mp M Res w → 4 * leftLen b w < N → G 0 a w) := fun a w h1 h2 h3 => (k0 a w ⟨h1, h2⟩ h3).2
    have HK1 : Hid (∀ a w, FrR b a → At1 B W0 b mp M Res w → 4 * leftLen b w + 2 < N → G 1 a w) := fun a w h1 h2 h3 => (k1 a w ⟨h1, h2⟩ h3).2
    have HK2 : Hid (∀ a w, FrR b a → At2 B W0 b mp M Res w → 4 * leftLen b w + 1 < N → G 2 a w) := fun a w h1 h2 h3 => (k2 a w ⟨h1, h2⟩ h3).2
    refine ⟨fun a w hJ hm => ?_, fun a w hJ hm => ?_, fun a w hJ hm => ?_⟩
    · clear k0 k2 HAt
      obtain ⟨hF, left, text, ln, nm, val, vs, all, L, n, T, hI, hR, hT⟩ := hJ
      obtain ⟨u1, u2, u3, u4, u5, u6, u7, u8, u9, u10, u11, u12, u13, u14, u15, u16, u17, u18, u19, u20, u21, u22, u23, u24, u25, u26, u27, u28, u29, u30, u31, u32, u33, u34, u35, u36, u37, u38, u39, u40, u41, u42, u43, u44, u45, rfl⟩ := hF.form
      have HI : Hid (Inv B W0 b mp M 0 0 0 w left text ln nm val vs 0 (.slice none 0 0) [] all L n T) := hI
      have HR : Hid (Res = rdS (lnsF left []) (ln + 1) (sgS L) (0, [])) := hR
      have HT : Hid (∀ x, T x ≤ ln) := hT
      have HMl : Hid (4 * left.length = N) := by show _ = _; rw [← left_len hI.rb]; exact hm
      have HK1f : Hid _ := k1
      clear hR hT hm hF hI k1
      go_wp2_with fail
      refine (next21 _ b left text ln nm val 0 (.slice none 0 0) mp all HI.out.rb (by have := HI.out.hM; have := HI.out.h0; omega) HI.out.h0 (by have := HI.out.hM; omega)).mono ?_
      rintro e w2 (⟨rfl, rfl, h2⟩ | ⟨hne, he, hr2, hg2⟩)
      · have h2s := h2.symm
        clear h2
        subst h2s
        have HE : Hid (Res = .ok (sgS L)) := by show _ = _; rw [HR.out, lns_nil, rdS, if_pos rfl]
        go_wp2
        go_ret
        exact .inr ⟨ln, [], text, nm, val, 0, .slice none 0 0, mp, all, L, HE.out, rfl, HI.out.rb, HI.out.rm.t, HI.out.bel⟩
      · have HI2 : Hid (Inv B W0 b mp M 1 1 1 w2 (cutN left).2 (cutN left).1 (ln + 1) nm val vs 0 (.slice none 0 0) [] all L n T) := HI.out.next hne hr2 hg2
        have hlt := (cut_lt left hne).1
        have hRc : Res = rdS ((cutN left).1 :: lnsF (cutN left).2 []) (ln + 1) (sgS L) (0, []) := by rw [← lns_cut left hne]; exact HR.out
        have HRc : Hid (Res = rdS ((cutN left).1 :: lnsF (cutN left).2 []) (ln + 1) (sgS L) (0, [])) := hRc
        have HLt : Hid ((cutN left).2.length < left.length) := hlt
        clear hRc hlt hr2 hg2 HI HR
        generalize (cutN left).1 = t at *
        generalize (cutN left).2 = r at *
        have HNe : Hid (left ≠ []) := hne
        clear hne
        rcases kd_cases t with hk | hk | hk | hk | hk
        · have HE : Hid (Res = .error (212, ln + 1)) := by show _ = _; rw [HRc.out, rdS_1 hk]
          rw [hk] at he
          subst he
          clear hk
          go_wp2
          go_ret
          exact .inl ⟨212, ln + 1, r, t, nm, val, 0, .slice none 0 0, mp, all, HE.out, rfl, rfl, HI2.out.rb, HI2.out.bel⟩
        · have HE : Hid (Res = rdS (lnsF r []) (ln + 1 + 1) (sgS L) (0, [])) := by show _ = _; rw [HRc.out, rdS_2 hk, if_pos rfl]
          rw [hk] at he
          subst he
          clear hk
          go_wp2_with fail
          go_step3
          refine HK0.out _ _ ⟨rfl, rfl, rfl⟩ ⟨r, t, ln + 1, nm, val, vs, all, L, n, T, HI2.out.weak (by omega) (by omega), HE.out, fun x => ?_⟩ ?_
          · have := HT.out x; omega
          · rw [left_len HI2.out.rb]; have := HMl.out; have := HLt.out; omega
        · have HE : Hid (Res = rdS (lnsF r []) (ln + 1 + 1) (sgS L) (0, [])) := by show _ = _; rw [HRc.out, rdS_3 hk]
          rw [hk] at he
          subst he
          clear hk
          go_wp2_with fail
          go_step3
          refine HK0.out _ _ ⟨rfl, rfl, rfl⟩ ⟨r, t, ln + 1, nm, val, vs, all, L, n, T, HI2.out.weak (by omega) (by omega), HE.out, fun x => ?_⟩ ?_
          · have := HT.out x; omega
          · rw [left_len HI2.out.rb]; have := HMl.out; have := HLt.out; omega
        · have HE : Hid (Res = .error (210, ln + 1)) := by
            show _ = _
            obtain ⟨h1, h2, _⟩ := rdS_45 (r := lnsF r []) (k := ln + 1) (out := sgS L) (now := (0, [])) (.inl hk)
            rw [HRc.out, h1]
            unfold stepP
            rw [if_pos (h2 hk), if_pos rfl]
          rw [hk] at he
          subst he
          clear hk
          go_wp2
          go_ret
          exact .inl ⟨210, ln + 1, r, t, nm, val, 0, .slice none 0 0, mp, all, HE.out, rfl, rfl, HI2.out.rb, HI2.out.bel⟩
        · have HE : Hid ((Res = match stepP (0, []) t (ln + 1) with | .error e => .error (e, ln + 1) | .ok st => rdS (lnsF r []) (ln + 1 + 1) (sgS L) st) ∧ isBl (t.headD 0) = false) := by
            obtain ⟨h1, _, h3⟩ := rdS_45 (r := lnsF r []) (k := ln + 1) (out := sgS L) (now := (0, [])) (.inr hk)
            exact ⟨by rw [HRc.out, h1]; cases stepP _ _ _ <;> rfl, h3 hk⟩
          rw [hk] at he
          subst he
          clear hk
          have c2 := HI2.out.rb.c2
          have c5 := HI2.out.rb.c5
          have f5 := HI2.out.rb.fz 5
          have HI3 : Hid (Inv B W0 b mp M 1 1 0 (w2.setCell ⟨b, 5, none⟩ (.int .i64 (ln + 1))) r t (ln + 1) nm val vs (ln + 1) (.slice none 0 0) [] all L n T) := HI2.out.line
          go_wp2_with fail
          go_step3
          rename_i K hK
          refine hK _ _ (HK1f.out _ _ ⟨⟨rfl, rfl, rfl⟩, ⟨r, t, ln + 1, nm, val, vs, ln + 1, .slice none 0 0, [], all, L, n, T, 0, HI3.out, HE.out.1, Seen.nil HT.out, HE.out.2, fun _ => rfl, fun h => absurd rfl h⟩⟩ ?_).1
          show 4 * leftLen b _ + 2 < N
          rw [left_len HI3.out.rb]; have := HMl.out; have := HLt.out; omega
    · clear k0 k1 HAt
      obtain ⟨hF, left, text, ln, nm, val, vs, sl, sf, fs, all, L, n, T, d, hI, hR, hS, hbl, hs1, hs2⟩ := hJ
      obtain ⟨u1, u2, u3, u4, u5, u6, u7, u8, u9, u10, u11, u12, u13, u14, u15, u16, u17, u18, u19, u20, u21, u22, u23, u24, u25, u26, u27, u28, u29, u30, u31, u32, u33, u34, u35, u36, u37, u38, u39, u40, u41, u42, u43, u44, u45, rfl⟩ := hF.form
      have HI : Hid (Inv B W0 b mp M 1 1 0 w left text ln nm val vs sl sf fs all L n T) := hI
      have HMl : Hid (4 * left.length + 2 = N) := by show _ = _; rw [← left_len hI.rb]; exact hm
      have HK2f : Hid _ := k2
      have hxl : text.length ≤ 70368744177664 := by have := hI.hx; omega
      clear hm hF k2
      by_cases hc : Lib.indexByte text 58 < 0 ∨ nameF (text.take (Lib.indexByte text 58).toNat) = false
      · have HE : Hid (Res = .error (210, ln)) := by
          show _ = _
          rw [hR]
          unfold stepP
          rw [if_neg (by rw [hbl]; simp), if_pos hc]
        have HBe : Hid (Calls Tryd.prog 50 #[.pointer (some ⟨b, 0, none⟩)] w fun e w' => e = .returned (.int .i64 210) ∧ Below w.heap.size w w') := begin_no w b mp left text ln nm val sl sf all hI.rb hxl hc
        clear hR hS hbl hs1 hs2 hI hc hxl
        go_wp2_with (go_at_call 50; refine HBe.out.mono ?_; rintro e w4 ⟨rfl, b4⟩; have HB4 : Hid (Below w.heap.size w w4) := b4; clear b4)
        go_ret
        exact .inl ⟨210, ln, left, text, nm, val, sl, sf, mp, all, HE.out, rfl, rfl, HI.out.rb.blw HB4.out, HI.out.bel.trans (HB4.out.mono (Nat.le_trans HI.out.rm.hb (Nat.le_of_lt HI.out.rb.lt)))⟩
      · have hc1 : ¬ Lib.indexByte text 58 < 0 := fun h => hc (.inl h)
        have hc2 : nameF (text.take (Lib.indexByte text 58).toNat) = true := by
          cases h : nameF (text.take (Lib.indexByte text 58).toNat)
          · exact absurd (.inr h) hc
          · rfl
        by_cases htw : T (fdL (text.take (Lib.indexByte text 58).toNat)) = sl
        · have HE : Hid (Res = .error (211, ln)) := by
            show _ = _
            rw [hR]
            unfold stepP
            rw [if_neg (by rw [hbl]; simp), if_neg hc, if_pos ((hS.2 _).1 htw)]
          have HBe : Hid (Calls Tryd.prog 50 #[.pointer (some ⟨b, 0, none⟩)] w fun e w' => e = .returned (.int .i64 211) ∧ Below w.heap.size w w') := begin_twice w b mp n T left text ln nm val sl sf all hI.rb hI.rm.mi hxl hc1 hc2 htw
          clear hR hS hbl hs1 hs2 hI hc hc1 hc2 htw hxl
          go_wp2_with (go_at_call 50; refine HBe.out.mono ?_; rintro e w4 ⟨rfl, b4⟩; have HB4 : Hid (Below w.heap.size w w4) := b4; clear b4)
          go_ret
          exact .inl ⟨211, ln, left, text, nm, val, sl, sf, mp, all, HE.out, rfl, rfl, HI.out.rb.blw HB4.out, HI.out.bel.trans (HB4.out.mono (Nat.le_trans HI.out.rm.hb (Nat.le_of_lt HI.out.rb.lt)))⟩
        · have hgn : (getF fs (text.take (Lib.indexByte text 58).toNat)).isSome = false := by
            cases h : (getF fs (text.take (Lib.indexByte text 58).toNat)).isSome
            · rfl
            · exact absurd ((hS.2 _).2 h) htw
          have HE : Hid (Res = rdS (lnsF left []) (ln + 1) (sgS L) (sl, fs ++ [(text.take (Lib.indexByte text 58).toNat, trF (text.drop ((Lib.indexByte text 58).toNat + 1)))])) := by
            show _ = _
            rw [hR]
            unfold stepP
            rw [if_neg (by rw [hbl]; simp), if_neg hc, if_neg (by rw [hgn]; simp)]
            by_cases h0 : fs = []
            · rw [hs1 h0, h0]; rfl
            · rw [hs2 h0]; simp [h0]
          have HSn : Hid (Seen (upI T (fdL (text.take (Lib.indexByte text 58).toNat)) sl) sl (fs ++ [(text.take (Lib.indexByte text 58).toNat, trF (text.drop ((Lib.indexByte text 58).toNat + 1)))])) := hS.one (text.take (Lib.indexByte text 58).toNat, trF (text.drop ((Lib.indexByte text 58).toNat + 1)))
          have HBe : Hid (Calls Tryd.prog 50 #[.pointer (some ⟨b, 0, none⟩)] w fun e w' => e = .returned (.int .i64 0) ∧ ∃ val', Inv B W0 b mp M 0 1 0 w' left text ln (text.take (Lib.indexByte text 58).toNat) val' (trF (text.drop ((Lib.indexByte text 58).toNat + 1))) sl sf fs all L (n + 1) (upI T (fdL (text.take (Lib.indexByte text 58).toNat)) sl)) := by
            refine (begin_yes B w b mp n T left text ln nm val vs sl sf fs all L hI.rb hI.rm hxl hc1 hc2 htw hI.hs0 (by have := hI.hs1; have := hI.hM; omega) (by have := hI.hn; have := hI.hM; unfold maxLen; omega)).mono ?_
            rintro e w' ⟨rfl, hb, val', hr, hm⟩
            refine ⟨rfl, val', hI.begun hb hr hm (by rw [List.length_take]; omega) ?_⟩
            have := trF_le (text.drop ((Lib.indexByte text 58).toNat + 1))
            rw [List.length_drop] at this
            omega
          clear hR hS hbl hs1 hs2 hI hc hc1 hc2 htw hgn hxl
          generalize upI T (fdL (text.take (Lib.indexByte text 58).toNat)) sl = T' at *
          generalize text.take (Lib.indexByte text 58).toNat = nm' at *
          generalize trF (text.drop ((Lib.indexByte text 58).toNat + 1)) = vs' at *
          go_wp2_with (go_at_call 50; refine HBe.out.mono ?_; rintro e w4 ⟨rfl, val4, h4⟩; have HI4 : Hid (Inv B W0 b mp M 0 1 0 w4 left text ln nm' val4 vs' sl sf fs all L (n + 1) T') := h4; clear h4)
          go_step3
          rename_i K hK
          refine hK _ _ (HK2f.out _ _ ⟨⟨rfl, rfl, rfl⟩, ⟨left, text, ln, nm', val4, vs', sl, sf, fs, all, L, n + 1, T', HI4.out, HE.out, HSn.out⟩⟩ ?_).1
          show 4 * leftLen b _ + 1 < N
          rw [left_len HI4.out.rb]; have := HMl.out; omega
    · clear k0 k1 k2 HAt
      obtain ⟨hF, left, text, ln, nm, val, vs, sl, sf, fs, all, L, n, T, hI, hR, hS⟩ := hJ
      obtain ⟨u1, u2, u3, u4, u5, u6, u7, u8, u9, u10, u11, u12, u13, u14, u15, u16, u17, u18, u19, u20, u21, u22, u23, u24, u25, u26, u27, u28, u29, u30, u31, u32, u33, u34, u35, u36, u37, u38, u39, u40, u41, u42, u43, u44, u45, rfl⟩ := hF.form
      have HI : Hid (Inv B W0 b mp M 0 1 0 w left text ln nm val vs sl sf fs all L n T) := hI
      have HR : Hid (Res = rdS (lnsF left []) (ln + 1) (sgS L) (sl, fs ++ [(nm, vs)])) := hR
      have HS : Hid (Seen T sl (fs ++ [(nm, vs)])) := hS
      have HMl : Hid (4 * left.length + 1 = N) := by show _ = _; rw [← left_len hI.rb]; exact hm
      clear hR hS hm hF hI
      go_wp2_with fail
      refine (next21 _ b left text ln nm val sl sf mp all HI.out.rb (by have := HI.out.hM; have := HI.out.h0; omega) HI.out.h0 (by have := HI.out.hM; omega)).mono ?_
      rintro e w2 (⟨rfl, rfl, h2⟩ | ⟨hne, he, hr2, hg2⟩)
      · have h2s := h2.symm
        clear h2
        subst h2s
        have HLL : Hid ((L.length : Int) + 1 ≤ ln) := by have := HI.out.hL; show _ ≤ _; omega
        have HI2 : Hid (Inv B W0 b mp M 0 1 0 w [] text ln nm val vs sl sf fs all L n T) := HI.out
        have HEF : Hid (∀ w', Inv B W0 b mp M 0 (0 + 1) 0 w' [] text ln nm val vs sl sf fs all L n T → Calls Tryd.prog 52 #[.pointer (some ⟨b, 0, none⟩)] w' fun e w'' => e = .returned (.tuple #[]) ∧ ∃ sf', Inv B W0 b mp M 0 0 0 w'' [] text ln nm val vs sl sf' (fs ++ [(nm, vs)]) all L n T) := fun w' hi => by
          refine (endField21 B _ b mp n T _ _ _ nm val vs sl sf fs all L hi.rb hi.rm (by have := hi.hnm; omega) (by have := hi.hv; omega) (by have := hi.hf; have := hi.hM; omega)).mono ?_
          rintro e w'' ⟨rfl, hb, sf', hr, hm⟩
          exact ⟨rfl, sf', hi.field hb hr hm⟩
        have HES : Hid (∀ w' sf', Inv B W0 b mp M 0 0 0 w' [] text ln nm val vs sl sf' (fs ++ [(nm, vs)]) all L n T → (L.length : Int) + 1 ≤ ln → Calls Tryd.prog 53 #[.pointer (some ⟨b, 0, none⟩)] w' fun e w'' => e = .returned (.tuple #[]) ∧ ∃ all', Inv B W0 b mp M 0 0 0 w'' [] text ln nm val vs 0 (.slice none 0 0) [] all' (L ++ [(sl, sf', fs ++ [(nm, vs)])]) n T) := fun w' sf' hi h1 => by
          refine (endStanza21 B _ b mp n T _ _ _ nm val vs sl sf' (fs ++ [(nm, vs)]) all L hi.rb hi.rm (by have := hi.hM; omega)).mono ?_
          rintro e w'' ⟨rfl, hb, all', hr, hm⟩
          exact ⟨rfl, all', hi.stanza h1 hb hr hm⟩
        go_wp2_with (first | (go_at_call 52; refine (HEF.out _ HI2.out).mono ?_; rintro e w4 ⟨rfl, sf4, h4⟩; have HI4 : Hid (Inv B W0 b mp M 0 0 0 w4 [] text ln nm val vs sl sf4 (fs ++ [(nm, vs)]) all L n T) := h4; clear h4) | (go_at_call 53; refine (HES.out _ _ HI4.out HLL.out).mono ?_; rintro e w5 ⟨rfl, all5, h5⟩; have HI5 : Hid (Inv B W0 b mp M 0 0 0 w5 [] text ln nm val vs 0 (.slice none 0 0) [] all5 (L ++ [(sl, sf4, fs ++ [(nm, vs)])]) n T) := h5; clear h5))
        go_step3
        refine HK0.out _ _ ⟨rfl, rfl, rfl⟩ ⟨[], text, ln, nm, val, vs, all5, _, n, T, HI5.out, ?_, fun x => ?_⟩ ?_
        · rw [HR.out, lns_nil, rdS, if_neg (by simp), rdS, if_pos rfl, sgS_snoc]
        · have := HS.out.1 x; have := HI.out.hs1; omega
        · rw [left_len HI5.out.rb]; have := HMl.out; simp at this ⊢; omega
      · have HI2 : Hid (Inv B W0 b mp M 1 2 1 w2 (cutN left).2 (cutN left).1 (ln + 1) nm val vs sl sf fs all L n T) := HI.out.next hne hr2 hg2
        have hlt := (cut_lt left hne).1
        have hRc : Res = rdS ((cutN left).1 :: lnsF (cutN left).2 []) (ln + 1) (sgS L) (sl, fs ++ [(nm, vs)]) := by rw [← lns_cut left hne]; exact HR.out
        have HRc : Hid (Res = rdS ((cutN left).1 :: lnsF (cutN left).2 []) (ln + 1) (sgS L) (sl, fs ++ [(nm, vs)])) := hRc
        have HLt : Hid ((cutN left).2.length < left.length) := hlt
        clear hRc hlt hr2 hg2 HI HR
        generalize (cutN left).1 = t at *
        generalize (cutN left).2 = r at *
        have HNe : Hid (left ≠ []) := hne
        clear hne
        rcases kd_cases t with hk | hk | hk | hk | hk
        · have hE : Res = .error (212, ln + 1) := by rw [HRc.out, rdS_1 hk]
          have HE : Hid (Res = .error (212, ln + 1)) := hE
          rw [hk] at he
          subst he
          clear hk hE
          go_wp2
          go_ret
          exact .inl ⟨212, ln + 1, r, t, nm, val, sl, sf, mp, all, HE.out, rfl, rfl, HI2.out.rb, HI2.out.bel⟩
        · have HE : Hid (Res = rdS (lnsF r []) (ln + 1 + 1) (sgS L ++ [(sl, fs ++ [(nm, vs)])]) (0, [])) := by show _ = _; rw [HRc.out, rdS_2 hk, if_neg (by simp)]
          have HLL : Hid ((L.length : Int) + 1 ≤ ln + 1) := by have := HI2.out.hL; show _ ≤ _; omega
          rw [hk] at he
          subst he
          clear hk
          have HEF : Hid (∀ w', Inv B W0 b mp M 1 (1 + 1) 1 w' r t (ln + 1) nm val vs sl sf fs all L n T → Calls Tryd.prog 52 #[.pointer (some ⟨b, 0, none⟩)] w' fun e w'' => e = .returned (.tuple #[]) ∧ ∃ sf', Inv B W0 b mp M 1 1 1 w'' r t (ln + 1) nm val vs sl sf' (fs ++ [(nm, vs)]) all L n T) := fun w' hi => by
            refine (endField21 B _ b mp n T _ _ _ nm val vs sl sf fs all L hi.rb hi.rm (by have := hi.hnm; omega) (by have := hi.hv; omega) (by have := hi.hf; have := hi.hM; omega)).mono ?_
            rintro e w'' ⟨rfl, hb, sf', hr, hm⟩
            exact ⟨rfl, sf', hi.field hb hr hm⟩
          have HES : Hid (∀ w' sf', Inv B W0 b mp M 1 1 1 w' r t (ln + 1) nm val vs sl sf' (fs ++ [(nm, vs)]) all L n T → (L.length : Int) + 1 ≤ (ln + 1) → Calls Tryd.prog 53 #[.pointer (some ⟨b, 0, none⟩)] w' fun e w'' => e = .returned (.tuple #[]) ∧ ∃ all', Inv B W0 b mp M 0 0 0 w'' r t (ln + 1) nm val vs 0 (.slice none 0 0) [] all' (L ++ [(sl, sf', fs ++ [(nm, vs)])]) n T) := fun w' sf' hi h1 => by
            refine (endStanza21 B _ b mp n T _ _ _ nm val vs sl sf' (fs ++ [(nm, vs)]) all L hi.rb hi.rm (by have := hi.hM; omega)).mono ?_
            rintro e w'' ⟨rfl, hb, all', hr, hm⟩
            exact ⟨rfl, all', hi.stanza h1 hb hr hm⟩
          go_wp2_with (first | (go_at_call 52; refine (HEF.out _ HI2.out).mono ?_; rintro e w4 ⟨rfl, sf4, h4⟩; have HI4 : Hid (Inv B W0 b mp M 1 1 1 w4 r t (ln + 1) nm val vs sl sf4 (fs ++ [(nm, vs)]) all L n T) := h4; clear h4) | (go_at_call 53; refine (HES.out _ _ HI4.out HLL.out).mono ?_; rintro e w5 ⟨rfl, all5, h5⟩; have HI5 : Hid (Inv B W0 b mp M 0 0 0 w5 r t (ln + 1) nm val vs 0 (.slice none 0 0) [] all5 (L ++ [(sl, sf4, fs ++ [(nm, vs)])]) n T) := h5; clear h5))
          go_step3
          refine HK0.out _ _ ⟨rfl, rfl, rfl⟩ ⟨r, t, ln + 1, nm, val, vs, all5, _, n, T, HI5.out, ?_, fun x => ?_⟩ ?_
          · rw [HE.out, sgS_snoc]
          · have := HS.out.1 x; have := HI2.out.hs1; omega
          · rw [left_len HI5.out.rb]; have := HMl.out; have := HLt.out; omega
        · have HE : Hid (Res = rdS (lnsF r []) (ln + 1 + 1) (sgS L) (sl, fs ++ [(nm, vs)])) := by show _ = _; rw [HRc.out, rdS_3 hk]
          rw [hk] at he
          subst he
          clear hk
          go_wp2_with fail
          go_step3
          refine HK2.out _ _ ⟨rfl, rfl, rfl⟩ ⟨r, t, ln + 1, nm, val, vs, sl, sf, fs, all, L, n, T, HI2.out.weak (by omega) (by omega), HE.out, HS.out⟩ ?_
          rw [left_len HI2.out.rb]; have := HMl.out; have := HLt.out; omega
        · have HE : Hid (Res = rdS (lnsF r []) (ln + 1 + 1) (sgS L) (sl, fs ++ [(nm, vs ++ 10 :: trF t)])) := by
            show _ = _
            obtain ⟨h1, h2, _⟩ := rdS_45 (r := lnsF r []) (k := ln + 1) (out := sgS L) (now := (sl, fs ++ [(nm, vs)])) (.inl hk)
            rw [HRc.out, h1]
            unfold stepP
            rw [if_pos (h2 hk), if_neg (by simp), setL_snoc]
          have HGo : Hid (Calls Tryd.prog 51 #[.pointer (some ⟨b, 0, none⟩)] w2 fun e w'' => e = .returned (.tuple #[]) ∧ ∃ val', Inv B W0 b mp M 1 2 0 w'' r t (ln + 1) nm val' (vs ++ 10 :: trF t) sl sf fs all L n T) := by
            refine (goOn21 B _ b mp n T _ _ _ nm val vs sl sf fs all L HI2.out.rb HI2.out.rm (by have := HI2.out.hv; have := HI2.out.hx; omega)).mono ?_
            rintro e w'' ⟨rfl, hb, val', hr, hm⟩
            exact ⟨rfl, val', HI2.out.gone hb hr hm⟩
          rw [hk] at he
          subst he
          clear hk
          go_wp2_with (go_at_call 51; refine HGo.out.mono ?_; rintro e w4 ⟨rfl, val4, h4⟩; have HI4 : Hid (Inv B W0 b mp M 1 2 0 w4 r t (ln + 1) nm val4 (vs ++ 10 :: trF t) sl sf fs all L n T) := h4; clear h4)
          go_step3
          refine HK2.out _ _ ⟨rfl, rfl, rfl⟩ ⟨r, t, ln + 1, nm, val4, _, sl, sf, fs, all, L, n, T, HI4.out.weak (by omega) (by omega), HE.out, HS.out.val⟩ ?_
          rw [left_len HI4.out.rb]; have := HMl.out; have := HLt.out; omega
        · have HE : Hid ((Res = match stepP (sl, fs ++ [(nm, vs)]) t (ln + 1) with | .error e => .error (e, ln + 1) | .ok st => rdS (lnsF r []) (ln + 1 + 1) (sgS L) st) ∧ isBl (t.headD 0) = false) := by
            obtain ⟨h1, _, h3⟩ := rdS_45 (r := lnsF r []) (k := ln + 1) (out := sgS L) (now := (sl, fs ++ [(nm, vs)])) (.inr hk)
            exact ⟨by rw [HRc.out, h1]; cases stepP _ _ _ <;> rfl, h3 hk⟩
          rw [hk] at he
          subst he
          clear hk
          have HEF : Hid (∀ w', Inv B W0 b mp M 1 (1 + 1) 1 w' r t (ln + 1) nm val vs sl sf fs all L n T → Calls Tryd.prog 52 #[.pointer (some ⟨b, 0, none⟩)] w' fun e w'' => e = .returned (.tuple #[]) ∧ ∃ sf', Inv B W0 b mp M 1 1 1 w'' r t (ln + 1) nm val vs sl sf' (fs ++ [(nm, vs)]) all L n T) := fun w' hi => by
            refine (endField21 B _ b mp n T _ _ _ nm val vs sl sf fs all L hi.rb hi.rm (by have := hi.hnm; omega) (by have := hi.hv; omega) (by have := hi.hf; have := hi.hM; omega)).mono ?_
            rintro e w'' ⟨rfl, hb, sf', hr, hm⟩
            exact ⟨rfl, sf', hi.field hb hr hm⟩
          go_wp2_with (go_at_call 52; refine (HEF.out _ HI2.out).mono ?_; rintro e w4 ⟨rfl, sf4, h4⟩; have HI4 : Hid (Inv B W0 b mp M 1 1 1 w4 r t (ln + 1) nm val vs sl sf4 (fs ++ [(nm, vs)]) all L n T) := h4; clear h4)
          go_step3
          refine HK1.out _ _ ⟨rfl, rfl, rfl⟩ ⟨r, t, ln + 1, nm, val, vs, sl, sf4, fs ++ [(nm, vs)], all, L, n, T, sl, HI4.out.weak (by omega) (by omega), HE.out.1, HS.out, HE.out.2, fun h => (by simp at h), fun _ => rfl⟩ ?_
          rw [left_len HI4.out.rb]; have := HMl.out; have := HLt.out; omega

end Go.Proofs.YtbeaoekbppdlmaaDoor
