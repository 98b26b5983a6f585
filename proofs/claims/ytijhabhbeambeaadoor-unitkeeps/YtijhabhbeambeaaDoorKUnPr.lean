/-
  unit: clashes.
  KEEP: set on app at below new trans refl start ap kept rd rds mono lt add none own nil put len pos setF setV putL putR other neV same_any
-/
import Derived.Test.YtijhabhbeambeaaDoorUnTb
import Derived.Test.YtijhabhbeambeaaDoorUnEm
import Derived.Test.YtijhabhbeambeaaDoorJUnS
set_option linter.unusedSimpArgs false
set_option linter.unusedVariables false
namespace Go.Proofs.YtijhabhbeambeaaDoor
open Go Go.RowKit

theorem Cla.same {css : List (List Int)} {L L' : List Int} (h : ∀ x, x ∈ L ↔ x ∈ L') : Cla css L ↔ Cla css L' := ⟨fun hc => hc.trans fun x hx => .fact ((h x).1 hx), fun hc => hc.trans fun x hx => .fact ((h x).2 hx)⟩
theorem calm_off {css : List (List Int)} {L : List Int} {l : Int} (h : Calm css L) (hn : ∀ c ∈ css, l ∉ c ∧ -l ∉ c) : Calm css (L ++ [l]) := fun j hj => by
  have hc := hn _ (getD_in hj)
  rw [← h j hj]
  refine kd_congr fun m hm => ⟨?_, ?_⟩
  · rw [List.mem_append, List.mem_singleton]
    exact ⟨fun h => h.elim id (fun e => absurd (e ▸ hm) hc.1), .inl⟩
  · rw [List.mem_append, List.mem_singleton]
    refine ⟨fun h => h.elim id (fun e => ?_), .inl⟩
    have : m = -l := by omega
    exact absurd (this ▸ hm) hc.2
/-- the closing without any fact -/
structure Rt (css : List (List Int)) (L0 : List Int) : Prop where
  con : Con L0
  calm : Calm css L0
  inn : ∀ x ∈ L0, ∃ c ∈ css, x ∈ c
  inv : Inv css L0 (fun _ => false)
theorem Rt.no {css : List (List Int)} {L0 : List Int} (h : Rt css L0) : ¬ Cla css L0 := (calm_der h.con h.calm).2
/-- what was found to lead to no clash -/
structure Fz (w0 W : World) (b : Nat) (s : Sz) (vF : Value) (N : Nat) (css : List (List Int)) (L0 : List Int) (fs : List Bool) : Prop where
  fr : W.ownsRow w0.heap.size 4 1 vF N (fs.map Value.bool)
  ap : ∀ k, some k = vF.ownBlock → ¬ s.own b k
  ok : ∀ (j : Nat) l, fs[j]? = some true → idx l = (j : Int) → fmd l = true → ¬ Cla css (L0 ++ [l])
section
variable {w0 W W' : World} {b : Nat} {s s' : Sz} {vF : Value} {N : Nat} {css : List (List Int)} {L0 L : List Int} {fs : List Bool} {n : Nat} {Q : Nat → Bool} {cs : List (Int × Nat)}
theorem Fz.mo (h : Fz w0 W b s vF N css L0 fs) (hm : Mo W (s.own b) W' (s'.own b)) : Fz w0 W' b s' vF N css L0 fs := by
  have hlt : ∀ k, some k = vF.ownBlock → k < W.heap.size := fun k hk => (h.fr.lt k hk.symm).2
  refine ⟨row_kept h.fr fun k hk => hm.block k (hlt k hk) (h.ap k hk), fun k hk ho => ?_, h.ok⟩
  rcases hm.new k ho with a | a
  · exact h.ap k hk a
  · have := hlt k hk; omega
theorem Fz.below (h : Fz w0 W b s vF N css L0 fs) (hb : Below W.heap.size W W') : Fz w0 W' b s vF N css L0 fs := h.mo (Mo.below hb)
def Sz.two (s : Sz) (b : Nat) (vF : Value) (k : Nat) : Prop := s.own b k ∨ some k = vF.ownBlock
theorem Mo.two (hm : Mo W (s.own b) W' (s'.own b)) : Mo W (s.two b vF) W' (s'.two b vF) :=
  ⟨hm.os, hm.tape, hm.output, hm.size, fun k hk hn => hm.block k hk (fun h => hn (.inl h)), fun k hk => hk.elim (fun h => (hm.new k h).imp .inl id) (fun h => .inl (.inr h))⟩
theorem Cw.kept (h : Cw w0 W b s n css L Q cs) (hb : Below w0.heap.size w0 W') (hk : ∀ k, s.own b k → W'.heap[k]? = W.heap[k]?) : Cw w0 W' b s n css L Q cs := by
  obtain ⟨F, P, hz, hp⟩ := h.z
  exact ⟨hb, h.fit, F, P, hz.kept hk, hp⟩
/-- one more that leads to none -/
theorem Fz.put {g c i : Nat} {l : Int} (h : Fz w0 W b s (.slice (some ⟨g, 0, none⟩) N c) N css L0 fs) (hi : i < N) (hl : idx l = (i : Int)) (hf : fmd l = true) (hn : ¬ Cla css (L0 ++ [l])) (hw : Cw w0 W b s n css L Q cs) :
    Fz w0 (W.setCell ⟨g, i, none⟩ (.bool true)) b s (.slice (some ⟨g, 0, none⟩) N c) N css L0 (fs.set i true) ∧ Cw w0 (W.setCell ⟨g, i, none⟩ (.bool true)) b s n css L Q cs ∧ Mo W (s.two b (.slice (some ⟨g, 0, none⟩) N c)) (W.setCell ⟨g, i, none⟩ (.bool true)) (s.two b (.slice (some ⟨g, 0, none⟩) N c)) := by
  have hg := grown_set W ⟨g, i, none⟩ (.bool true)
  have hgb : w0.heap.size ≤ g := (h.fr.lt g rfl).1
  refine ⟨⟨?_, h.ap, fun j m hj hm hmf => ?_⟩, hw.kept ?_ fun k hk => hg.block k (hw.lt k hk).2 (fun e => ?_), Mo.set W g i _ (.inr rfl)⟩
  · rw [List.map_set]
    exact own_cell h.fr (by omega) _
  · by_cases e : i = j
    · subst e
      have : m = l := by
        have h1 := litAt_idx hmf
        rw [hm, ← hl, litAt_idx hf] at h1
        exact h1.symm
      rw [this]; exact hn
    · rw [List.getElem?_set_ne e] at hj
      exact h.ok j m hj hm hmf
  · exact hw.bel.grown hg hw.bel.size (fun k e => by simp at e; omega)
  · have : k = g := by simpa using e
    subst this
    exact h.ap k rfl hk
end
theorem twc_len6 (cs : List (Int × Nat)) : (twc cs).length = cs.length * 2 := by
  unfold twc
  induction cs with
  | nil => rfl
  | cons x r ih => rw [List.flatMap_cons, List.length_append, ih]; simp; omega
theorem own_same (a : Option Addr) (n m c : Nat) : (Value.slice a n c).ownBlock = (Value.slice a m c).ownBlock := by
  cases a <;> rfl
theorem World.grownBy_refl' (w : World) (r : Option Nat) : w.grownBy w r := ⟨rfl, rfl, rfl, Nat.le_refl _, fun _ _ _ => rfl⟩
/-- the causes, cut back -/
theorem cut_twc {w : World} {B : Nat} {a : Option Addr} {c : Nat} {cs0 cs : List (Int × Nat)} (h : w.ownsRow B 78 2 (.slice a (cs0 ++ cs).length c) (cs0 ++ cs).length (twc (cs0 ++ cs))) : w.ownsRow B 78 2 (.slice a cs0.length c) cs0.length (twc cs0) := by
  have hl : (twc cs0).length = cs0.length * 2 := twc_len6 cs0
  rcases h.2 with ⟨e1, e2⟩ | ⟨g, cap, cur, hv, hb, hg, h1, h2, h3, h4⟩
  · injection e1 with e1 e3 e4
    subst e1
    have h0 : cs0 = [] := by have := e2; simp at this; exact this.1
    subst h0
    rw [e4]
    exact World.ownsRow_nil _ _ _ _
  · injection hv with e1 e2 e3
    subst e1; subst e3
    have := own_cut h (m := cs0.length) (by simp)
    have e : (twc (cs0 ++ cs)).take (cs0.length * 2) = twc cs0 := by
      unfold twc
      rw [List.flatMap_append, List.take_append_of_le_length (by have := hl; unfold twc at this; omega)]
      exact List.take_of_length_le (by have := hl; unfold twc at this; omega)
    rw [e] at this
    exact this
/-- what clashes leaves -/
structure Cs (w0 w W : World) (b : Nat) (s s' : Sz) (n : Nat) (css : List (List Int)) (L0 : List Int) (cs0 : List (Int × Nat)) (vF : Value) (N : Nat) (fs' : List Bool) : Prop where
  cw : Cw w0 W b s' n css L0 (fun _ => false) cs0
  fz : Fz w0 W b s' vF N css L0 fs'
  mo : Mo w (s.two b vF) W (s'.two b vF)
  c : s'.C = s.C
theorem led_nodup {css : List (List Int)} {L : List Int} {cs : List (Int × Nat)} (h : Pth css L cs) {j : Nat} (hj : j < cs.length) : (cs[j]).1 ∉ L ++ (cs.drop (j + 1)).map Prod.fst ∧ (∃ c ∈ css, (cs[j]).1 ∈ c) ∧ ∀ x, x ∈ L ++ (cs.drop j).map Prod.fst ↔ x ∈ (L ++ (cs.drop (j + 1)).map Prod.fst) ++ [(cs[j]).1] := by
  obtain ⟨h1, h2, h3⟩ := h.new
  have hm : (cs[j]).1 ∈ cs.map Prod.fst := List.mem_map.2 ⟨cs[j], List.getElem_mem hj, rfl⟩
  have hd : cs.drop j = cs[j] :: cs.drop (j + 1) := List.drop_eq_getElem_cons hj
  refine ⟨?_, h3 _ hm, fun x => ?_⟩
  · intro hx
    rcases List.mem_append.1 hx with a | a
    · exact h2 _ hm a
    · have h4 : ((cs.drop j).map Prod.fst).Nodup := by rw [List.map_drop]; exact h1.sublist (List.drop_sublist _ _)
      rw [hd, List.map_cons, List.nodup_cons] at h4
      exact h4.1 a
  · rw [hd]
    simp only [List.map_cons, List.mem_append, List.mem_cons, List.mem_singleton, List.not_mem_nil, or_false]
    constructor
    · rintro (a | a | a)
      · exact .inl (.inl a)
      · exact .inr a
      · exact .inl (.inr a)
    · rintro ((a | a) | a)
      · exact .inl a
      · exact .inr (.inr a)
      · exact .inr (.inl a)
set_option maxRecDepth 100000 in
set_option maxHeartbeats 3200000 in
theorem uClashes_any (w0 : World) (b : Nat) (s : Sz) (n : Nat) (css : List (List Int)) (L0 : List Int) (cs0 : List (Int × Nat)) (vF : Value) (N : Nat) (fs : List Bool) (l : Int) (w : World) (h : Cw w0 w b s n css L0 (fun _ => false) cs0) (hz : Fz w0 w b s vF N css L0 fs) (rt : Rt css L0) (hr : Rds w0 s.C css) (hD : Deb w0) (h0 : cs0.length ≤ 2097152) (hf : fmd l = true) (hl : idx l < N) (hnN : n ≤ N) (hN : N ≤ 4000) :
    Calls Tryd.prog 29 #[.pointer (some ⟨b, 0, none⟩), .int .i64 l, vF] w fun e w' => ∃ r s' fs', e = .returned (.bool r) ∧ (r = true ↔ Cla css (L0 ++ [l])) ∧ Cs w0 w w' b s s' n css L0 cs0 vF N fs' := by
  have HW : Hid (Cw w0 w b s n css L0 (fun _ => false) cs0 ∧ Fz w0 w b s vF N css L0 fs ∧ Rds w0 s.C css ∧ Deb w0) := ⟨h, hz, hr, hD⟩
  have HRt : Hid (Rt css L0 ∧ cs0.length ≤ 2097152) := ⟨rt, h0⟩
  have HNo : Hid (∀ W, Below w.heap.size w W → ¬ Cla css (L0 ++ [l]) → ∃ r s' fs', Ending.returned (.bool false) = .returned (.bool r) ∧ (r = true ↔ Cla css (L0 ++ [l])) ∧ Cs w0 w W b s s' n css L0 cs0 vF N fs') := fun W hW hn => ⟨false, s, fs, rfl, ⟨(fun h => by cases h), fun h => absurd h hn⟩, ⟨h.below hW, hz.below hW, (Mo.below hW).two, rfl⟩⟩
  have hrl := fmd_range hf
  obtain ⟨i, hi⟩ : ∃ i : Nat, idx l = i := ⟨(idx l).toNat, by have := idx_range hf; omega⟩
  obtain ⟨gF, cF, eF, f1, f2, f3⟩ := row_some hz.fr (by have := idx_range hf; omega)
  have HI : Hid (idx l = (i : Int)) := hi
  have hwl : IntKind.i64.wrap (-l) = -l := by rw [IntKind.wrap_i64]; omega
  have hiN : i < N := by omega
  have hfl : fs.length = N := by have := hz.fr.1; simpa using this
  obtain ⟨fb, hfb⟩ : ∃ fb, fs[i]? = some fb := ⟨_, List.getElem?_eq_getElem (by omega)⟩
  have HFb : Hid (fs[i]? = some fb) := hfb
  subst eF
  have HCF : Hid (∀ W, Below w.heap.size w W → W.cell? ⟨gF, i, none⟩ = some (.bool fb)) := fun W hW => row_cell (hz.below hW).fr (by rw [List.getElem?_map, hfb]; rfl)
  have HFL : Hid (fs.length = N) := hfl
  clear h hz hr hD rt h0 hfb hfl hi
  go_enter Tryd.func29, Tryd.ntmps29
  go_wp2_with fail
  refine (uMeets_any w0 b s n css L0 _ cs0 l w HW.out.1).mono ?_
  rintro e w1 ⟨rfl, bel1⟩
  have HB1 : Hid (Below w.heap.size w w1) := bel1
  clear bel1
  by_cases hln : idx l < n
  · have hdt : decide (idx l < n) = true := decide_eq_true hln
    rw [hdt]
    go_wp2_with fail
    refine (uHolds_any w0 b s n css L0 _ cs0 l w1 (HW.out.1.below HB1.out) hf hln).mono ?_
    rintro e w2 ⟨rfl, bel2⟩
    have HB2 : Hid (Below w.heap.size w w2) := Below.step HB1.out bel2
    clear bel2 hdt
    by_cases hin : l ∈ L0
    · have hdt : decide (l ∈ L0) = true := decide_eq_true hin
      have HNC : Hid (¬ Cla css (L0 ++ [l])) := fun hc => HRt.out.1.no ((Cla.same fun x => by rw [List.mem_append, List.mem_singleton]; exact ⟨fun h => h.elim id (fun e => e ▸ hin), .inl⟩).1 hc)
      rw [hdt]
      go_wp2
      go_ret
      exact HNo.out _ HB2.out HNC.out
    · have hdt : decide (l ∈ L0) = false := decide_eq_false hin
      have kF := HCF.out w2 HB2.out
      rw [hdt]
      go_wp2_with fail
      refine (index_any l w2).mono ?_
      rintro e w3 ⟨rfl, hw3⟩
      obtain rfl : w2 = w3 := hw3.symm
      rw [HI.out]
      clear hw3 hdt
      cases fb
      · have hf2 := fmd_neg hf
        have hln2 : idx (-l) < n := idx_neg_lt hf HW.out.1.fit.ev hln
        go_wp2_with fail
        refine (uHolds_any w0 b s n css L0 _ cs0 (-l) w2 (HW.out.1.below HB2.out) hf2 hln2).mono ?_
        rintro e w3 ⟨rfl, bel3⟩
        have HB3 : Hid (Below w.heap.size w w3) := Below.step HB2.out bel3
        clear bel3
        by_cases hng : -l ∈ L0
        · have hdt : decide (-l ∈ L0) = true := decide_eq_true hng
          have HF : Hid (∃ r s' fs', Ending.returned (.bool true) = .returned (.bool r) ∧ (r = true ↔ Cla css (L0 ++ [l])) ∧ Cs w0 w w3 b s s' n css L0 cs0 (.slice (some ⟨gF, 0, none⟩) N cF) N fs') := ⟨true, s, fs, rfl, ⟨fun _ => .inl ⟨l, .fact (by simp), .fact (by simp [hng])⟩, fun _ => rfl⟩, ⟨HW.out.1.below HB3.out, HW.out.2.1.below HB3.out, (Mo.below HB3.out).two, rfl⟩⟩
          rw [hdt]
          go_wp2
          go_ret
          exact HF.out
        · have hdt : decide (-l ∈ L0) = false := decide_eq_false hng
          obtain ⟨F0, P0, hz3, -⟩ := (HW.out.1.below HB3.out).z
          have b6 := hz3.c6
          obtain ⟨aS, cS, eS⟩ := row_form' hz3.c
          rw [eS] at b6
          rw [hdt]
          clear hz3 hdt kF
          go_wp2_with fail
          refine (uPut_any w0 b s n css L0 _ cs0 l w3 (HW.out.1.below HB3.out) hf).mono ?_
          rintro e w4 ⟨rfl, Q4, cw4, nq4, mo4⟩
          have HInv : Hid (Inv css (L0 ++ [l]) Q4 ∧ Con (L0 ++ [l])) := ⟨HRt.out.1.inv.put nq4, HRt.out.1.con.snoc (by omega) hng⟩
          have H4 : Hid (Cw w0 w4 b s n css (L0 ++ [l]) Q4 cs0 ∧ Mo w (s.own b) w4 (s.own b)) := ⟨cw4, (Mo.below HB3.out).trans mo4⟩
          clear cw4 nq4 mo4
          go_wp2_with fail
          refine (uRun_any w0 b s n css (L0 ++ [l]) Q4 cs0 w4 H4.out.1 HW.out.2.2.1 HInv.out.2 HInv.out.1 HW.out.2.2.2 HRt.out.2).mono ?_
          rintro e w5 ⟨e0, cs, Q5, u5, rfl, hclo, hran, -⟩
          have HClo : Hid (Clo css (L0 ++ [l]) cs e0) := hclo
          have HPth : Hid (Pth css (L0 ++ [l]) cs) := hran.pth
          have hcsl : cs.length ≤ 2097152 := by
            obtain ⟨g1, _, g3⟩ := hran.pth.new
            have := lits_few g1 (fun x hx => by obtain ⟨c, h1, h2⟩ := g3 x hx; exact (HW.out.1.fit.lit c h1 x h2).1)
            simpa using this
          have H5 : Hid (Cw w0 w5 b { s with S := u5 } n css (L0 ++ [l] ++ (cs.drop 0).map Prod.fst) Q5 (cs0 ++ cs) ∧ Mo w (s.two b (.slice (some ⟨gF, 0, none⟩) N cF)) w5 (({ s with S := u5 } : Sz).two b (.slice (some ⟨gF, 0, none⟩) N cF)) ∧ Fz w0 w5 b { s with S := u5 } (.slice (some ⟨gF, 0, none⟩) N cF) N css L0 fs) := ⟨by simpa using hran.cw, (H4.out.2.trans hran.mo).two, HW.out.2.1.mo (H4.out.2.trans hran.mo)⟩
          obtain ⟨F5, P5, hz5, -⟩ := hran.cw.z
          have b65 : w5.cell? ⟨b, 6, none⟩ = some u5 := hz5.c6
          have row5 : w5.ownsRow w0.heap.size 78 2 u5 (cs0 ++ cs).length (twc (cs0 ++ cs)) := hz5.c
          obtain ⟨a5, c5, e5⟩ := row_form' row5
          have he5 : u5 = .slice a5 (cs0 ++ cs).length c5 := e5
          rw [he5] at b65
          have hlen : (cs0 ++ cs).length = cs0.length + cs.length := List.length_append
          rw [hlen] at b65
          clear hz5 hran hclo
          have h0len := HRt.out.2
          obtain ⟨s2, hs2⟩ : ∃ s2 : Sz, s2 = { s with S := u5 } := ⟨_, rfl⟩
          have HS2 : Hid (s2.C = s.C ∧ s2.S = .slice a5 (cs0 ++ cs).length c5) := by rw [hs2]; exact ⟨rfl, he5⟩
          rw [← hs2] at H5
          have hcap5 : cs0.length + cs.length ≤ c5 := by
            have h1 := row5
            rcases h1.2 with ⟨e1, e2⟩ | ⟨g', cap', cur, hv, hb, hg, r1, r2, r3, r4⟩
            · omega
            · rw [he5] at hv
              injection hv with _ _ hv3
              omega
          have HAz : Hid (c5 = 0 ∨ ∃ g5, a5 = some ⟨g5, 0, none⟩) := by
            have h1 := row5
            rcases h1.2 with ⟨e1, e2⟩ | ⟨g', cap', cur, hv, hb, hg, r1, r2, r3, r4⟩
            · rw [he5] at e1
              injection e1 with _ _ e3
              exact .inl e3
            · rw [he5] at hv
              injection hv with e1 _ _
              exact .inr ⟨g', e1⟩
          clear hs2 row5 e5 he5 hlen
          have HU : Hid (∀ W (j : Nat) (L : List Int) (Q : Nat → Bool) (hj : j < cs.length), Cw w0 W b s2 n css L Q (cs0 ++ cs) → ∃ g, a5 = some ⟨g, 0, none⟩ ∧ W.cell? ⟨g, cs0.length * 2 + j * 2, none⟩ = some (.int .i64 (cs[j]).1) ∧ W.cell? ⟨g, cs0.length * 2 + j * 2 + 1, none⟩ = some (.int .i64 ((cs[j]).2 : Int))) := fun W j L Q hj hcw => by
            obtain ⟨F, P, hz, -⟩ := hcw.z
            have h1 := hz.c
            obtain ⟨g, c, e, h2, h3, h4⟩ := row_some h1 (by rw [List.length_append]; omega)
            rw [HS2.out.2] at e
            injection e with e1 _ e3
            subst e1; subst e3
            rw [HS2.out.2] at h1
            have hg : (cs0 ++ cs)[cs0.length + j]? = some ((cs[j]).1, (cs[j]).2) := by rw [List.getElem?_append_right (by omega), show cs0.length + j - cs0.length = j by omega]; exact List.getElem?_eq_getElem hj
            obtain ⟨k1, k2⟩ := twc_at hg
            have c1 := row_cell h1 k1
            have c2 := row_cell h1 k2
            rw [show (cs0.length + j) * 2 = cs0.length * 2 + j * 2 by omega] at c1 c2
            exact ⟨g, rfl, c1, c2⟩
          by_cases hge0 : 0 ≤ e0
          · have hge : decide (0 ≤ e0) = true := decide_eq_true hge0
            have HCl : Hid (Cla css (L0 ++ [l])) := by
              obtain ⟨k, hk⟩ : ∃ k : Nat, e0 = k := ⟨e0.toNat, by omega⟩
              have h1 := HClo.out
              rw [hk] at h1
              exact h1.clash (fun c hc x hx => (fmd_range (HW.out.1.fit.lit c hc x hx).1).1)
            go_wp2_with fail
            · subst h
              go_loopg [10, 49] cs.length (fun q c' i' wr => ∃ (j : Nat) (fs' : List Bool), j + q = cs.length ∧ i' = .int .i64 j ∧ Cw w0 wr b s2 n css (L0 ++ [l] ++ (cs.drop j).map Prod.fst) Q5 (cs0 ++ cs) ∧ Fz w0 wr b s2 (.slice (some ⟨gF, 0, none⟩) N cF) N css L0 fs' ∧ Mo w (s.two b (.slice (some ⟨gF, 0, none⟩) N cF)) wr (s2.two b (.slice (some ⟨gF, 0, none⟩) N cF)))
              case atStart => exact ⟨0, fs, by omega, rfl, H5.out.1, H5.out.2.2, H5.out.2.1⟩
              case round =>
                obtain ⟨j, fs', hj, rfl, hcw, hfz, hmo⟩ := hrel
                have HJ : Hid (j + gk = cs.length) := hj
                have HC : Hid (Cw w0 wr b s2 n css (L0 ++ [l] ++ (cs.drop j).map Prod.fst) Q5 (cs0 ++ cs) ∧ Fz w0 wr b s2 (.slice (some ⟨gF, 0, none⟩) N cF) N css L0 fs' ∧ Mo w (s.two b (.slice (some ⟨gF, 0, none⟩) N cF)) wr (s2.two b (.slice (some ⟨gF, 0, none⟩) N cF))) := ⟨hcw, hfz, hmo⟩
                clear hcw hfz hmo hj
                by_cases hlt : j < cs.length
                · exfalso; omega
                · have hje : j = cs.length := by have := HJ.out; omega
                  have HC2 : Hid (Cw w0 wr b s2 n css (L0 ++ [l]) Q5 (cs0 ++ cs)) := by show Cw w0 wr b s2 n css (L0 ++ [l]) Q5 (cs0 ++ cs); have := HC.out.1; rw [hje, List.drop_length] at this; simpa using this
                  clear hje
                  go_wp2_with fail
                  refine (uBack_any w0 b s2 n css L0 Q5 (cs0 ++ cs) l wr HC2.out hf hln hin).mono ?_
                  rintro e w6 ⟨rfl, cw6, mo6⟩
                  have H6 : Hid (Cw w0 w6 b s2 n css L0 Q5 (cs0 ++ cs) ∧ Fz w0 w6 b s2 (.slice (some ⟨gF, 0, none⟩) N cF) N css L0 fs' ∧ Mo w (s.two b (.slice (some ⟨gF, 0, none⟩) N cF)) w6 (s2.two b (.slice (some ⟨gF, 0, none⟩) N cF))) := ⟨cw6, HC.out.2.1.mo mo6, HC.out.2.2.trans mo6.two⟩
                  clear cw6 mo6
                  obtain ⟨F6, P6, hz6, hp6⟩ := H6.out.1.z
                  have d6 := hz6.c6
                  have d7 := hz6.fz 6
                  rw [HS2.out.2, List.length_append] at d6
                  have hcut : w6.ownsRow w0.heap.size 78 2 (.slice a5 cs0.length cs0.length) cs0.length (twc cs0) := cut_twc (by have := hz6.c; rw [HS2.out.2] at this; exact this)
                  obtain ⟨z8, m8⟩ := hz6.putS (W1 := w6) (u := .slice a5 cs0.length cs0.length) (cs' := cs0) (World.grownBy_refl' _ _) (.inl (by rw [HS2.out.2]; exact own_same _ _ _ _)) hcut
                  have d5 : (w6.setCell ⟨b, 6, none⟩ (.slice a5 cs0.length cs0.length)).cell? ⟨b, 5, none⟩ = some s2.W := z8.c5
                  have hW8 : Below w0.heap.size w0 (w6.setCell ⟨b, 6, none⟩ (.slice a5 cs0.length cs0.length)) := Mo.bel H6.out.1.bel (fun k hk => (H6.out.1.lt k hk).1) m8
                  have HW8 : Hid (Wq w0.heap.size (w6.setCell ⟨b, 6, none⟩ (.slice a5 cs0.length cs0.length)) s2.W s2.L css.length Q5 ∧ Below w0.heap.size w0 (w6.setCell ⟨b, 6, none⟩ (.slice a5 cs0.length cs0.length))) := ⟨z8.w, hW8⟩
                  have H8 : Hid (Cw w0 (w6.setCell ⟨b, 6, none⟩ (.slice a5 cs0.length cs0.length)) b { s2 with S := .slice a5 cs0.length cs0.length } n css L0 Q5 cs0 ∧ Fz w0 (w6.setCell ⟨b, 6, none⟩ (.slice a5 cs0.length cs0.length)) b { s2 with S := .slice a5 cs0.length cs0.length } (.slice (some ⟨gF, 0, none⟩) N cF) N css L0 fs' ∧ Mo w (s.two b (.slice (some ⟨gF, 0, none⟩) N cF)) (w6.setCell ⟨b, 6, none⟩ (.slice a5 cs0.length cs0.length)) (({ s2 with S := .slice a5 cs0.length cs0.length } : Sz).two b (.slice (some ⟨gF, 0, none⟩) N cF))) := ⟨⟨hW8, H6.out.1.fit, F6, P6, z8, hp6⟩, H6.out.2.1.mo m8, H6.out.2.2.trans m8.two⟩
                  clear hz6 hp6 hcut z8 m8 hW8
                  have HNm : Hid (css.length ≤ 2147483648) := by have := HW.out.1.fit.num; show _ ≤ _; omega
                  go_wp2_with fail
                  refine (wEmpty_any w0.heap.size s2.W s2.L css.length Q5 w0 _ HW8.out.1 HNm.out HW.out.2.2.2 HW8.out.2 (Nat.le_refl _)).mono ?_
                  rintro e w9 ⟨rfl, hw9, hm9⟩
                  have HF : Hid (∃ r s' fs', Ending.returned (.bool true) = .returned (.bool r) ∧ (r = true ↔ Cla css (L0 ++ [l])) ∧ Cs w0 w w9 b s s' n css L0 cs0 (.slice (some ⟨gF, 0, none⟩) N cF) N fs') := by
                    obtain ⟨F8, P8, z8, p8⟩ := H8.out.1.z
                    obtain ⟨z9, m9⟩ := z8.putW hw9 hm9
                    refine ⟨true, { s2 with S := .slice a5 cs0.length cs0.length }, fs', rfl, ⟨fun _ => HCl.out, fun _ => rfl⟩, ⟨⟨Mo.bel H8.out.1.bel (fun k hk => (H8.out.1.lt k hk).1) m9, H8.out.1.fit, F8, P8, z9, p8⟩, H8.out.2.1.mo m9, H8.out.2.2.trans m9.two, HS2.out.1⟩⟩
                  clear hw9 hm9
                  go_wp2
                  go_ret
                  exact HF.out
            · skip
              obtain ⟨g5, ha5⟩ : ∃ g5, a5 = some ⟨g5, 0, none⟩ := HAz.out.elim (fun e => absurd (show c5 = cs0.length by omega) h) id
              subst ha5
              simp only [Option.map_some, Addr.add_lit, Nat.zero_add]
              go_loopg [10, 49] cs.length (fun q c' i' wr => ∃ (j : Nat) (fs' : List Bool), j + q = cs.length ∧ i' = .int .i64 j ∧ Cw w0 wr b s2 n css (L0 ++ [l] ++ (cs.drop j).map Prod.fst) Q5 (cs0 ++ cs) ∧ Fz w0 wr b s2 (.slice (some ⟨gF, 0, none⟩) N cF) N css L0 fs' ∧ Mo w (s.two b (.slice (some ⟨gF, 0, none⟩) N cF)) wr (s2.two b (.slice (some ⟨gF, 0, none⟩) N cF)))
              case atStart => exact ⟨0, fs, by omega, rfl, H5.out.1, H5.out.2.2, H5.out.2.1⟩
              case round =>
                obtain ⟨j, fs', hj, rfl, hcw, hfz, hmo⟩ := hrel
                have HJ : Hid (j + gk = cs.length) := hj
                have HC : Hid (Cw w0 wr b s2 n css (L0 ++ [l] ++ (cs.drop j).map Prod.fst) Q5 (cs0 ++ cs) ∧ Fz w0 wr b s2 (.slice (some ⟨gF, 0, none⟩) N cF) N css L0 fs' ∧ Mo w (s.two b (.slice (some ⟨gF, 0, none⟩) N cF)) wr (s2.two b (.slice (some ⟨gF, 0, none⟩) N cF))) := ⟨hcw, hfz, hmo⟩
                clear hcw hfz hmo hj
                by_cases hlt : j < cs.length
                · obtain ⟨g, ea5, x1, x2⟩ := HU.out wr j _ _ hlt HC.out.1
                  injection ea5 with ea5; injection ea5 with ea5; subst ea5
                  obtain ⟨hno, hinc, hset⟩ := led_nodup HPth.out hlt
                  have hfm : fmd (cs[j]).1 = true ∧ idx (cs[j]).1 < n := by obtain ⟨c, h1, h2⟩ := hinc; exact HW.out.1.fit.lit c h1 _ h2
                  have HDer : Hid (Der css (L0 ++ [l]) (cs[j]).1) := HPth.out.der _ (List.mem_append.2 (.inr (List.mem_map.2 ⟨_, List.getElem_mem hlt, rfl⟩)))
                  have HNx : Hid ((cs[j]).1 ∉ L0 ++ [l] ++ (cs.drop (j + 1)).map Prod.fst ∧ fmd (cs[j]).1 = true ∧ idx (cs[j]).1 < n ∧ Cw w0 wr b s2 n css ((L0 ++ [l] ++ (cs.drop (j + 1)).map Prod.fst) ++ [(cs[j]).1]) Q5 (cs0 ++ cs)) := ⟨hno, hfm.1, hfm.2, HC.out.1.congr fun x _ _ => hset x⟩
                  have HLT : Hid (j < cs.length) := hlt
                  clear hno hinc hset hfm
                  generalize (cs[j]).1 = m at *
                  generalize ((cs[j]).2 : Int) = m2 at *
                  have HBx : Hid (Below wr.heap.size wr (wr.alloc (.cells #[.int .i64 m, .int .i64 m2] 78))) := below_box _ _
                  have y0 := box0 wr (.int .i64 m) (.int .i64 m2) 78
                  have HSz : Hid (wr.heap.size < (wr.alloc (.cells #[.int .i64 m, .int .i64 m2] 78)).heap.size) := by show _ < _; rw [World.size_alloc]; exact Nat.lt_succ_self _
                  go_wp2_with fail
                  refine (uBack_any w0 b s2 n css (L0 ++ [l] ++ (cs.drop (j + 1)).map Prod.fst) Q5 (cs0 ++ cs) m _ (HNx.out.2.2.2.below HBx.out) HNx.out.2.1 HNx.out.2.2.1 HNx.out.1).mono ?_
                  rintro e w6 ⟨rfl, cw6, mo6⟩
                  have H6 : Hid (Cw w0 w6 b s2 n css (L0 ++ [l] ++ (cs.drop (j + 1)).map Prod.fst) Q5 (cs0 ++ cs) ∧ Fz w0 w6 b s2 (.slice (some ⟨gF, 0, none⟩) N cF) N css L0 fs' ∧ Mo w (s.two b (.slice (some ⟨gF, 0, none⟩) N cF)) w6 (s2.two b (.slice (some ⟨gF, 0, none⟩) N cF))) := ⟨cw6, (HC.out.2.1.below HBx.out).mo mo6, HC.out.2.2.trans ((Mo.below HBx.out).trans mo6).two⟩
                  have y1 : w6.cell? ⟨wr.heap.size, 0, none⟩ = some (.int .i64 m) := by
                    have h1 : w6.heap[wr.heap.size]? = (wr.alloc (.cells #[.int .i64 m, .int .i64 m2] 78)).heap[wr.heap.size]? := mo6.block _ HSz.out (fun ho => by have := (HC.out.1.lt _ ho).2; omega)
                    rw [← y0]
                    unfold World.cell?
                    rw [h1]
                  clear y0 cw6 mo6 x1 x2
                  go_wp2
                  go_roundg (gk - 1)
                  case measure => have := HJ.out; have := HLT.out; omega
                  case rel => exact ⟨j + 1, fs', by have := HJ.out; have := HLT.out; omega, by go_num, H6.out.1, H6.out.2.1, H6.out.2.2⟩
                · have hje : j = cs.length := by have := HJ.out; omega
                  have HC2 : Hid (Cw w0 wr b s2 n css (L0 ++ [l]) Q5 (cs0 ++ cs)) := by show Cw w0 wr b s2 n css (L0 ++ [l]) Q5 (cs0 ++ cs); have := HC.out.1; rw [hje, List.drop_length] at this; simpa using this
                  clear hje
                  go_wp2_with fail
                  refine (uBack_any w0 b s2 n css L0 Q5 (cs0 ++ cs) l wr HC2.out hf hln hin).mono ?_
                  rintro e w6 ⟨rfl, cw6, mo6⟩
                  have H6 : Hid (Cw w0 w6 b s2 n css L0 Q5 (cs0 ++ cs) ∧ Fz w0 w6 b s2 (.slice (some ⟨gF, 0, none⟩) N cF) N css L0 fs' ∧ Mo w (s.two b (.slice (some ⟨gF, 0, none⟩) N cF)) w6 (s2.two b (.slice (some ⟨gF, 0, none⟩) N cF))) := ⟨cw6, HC.out.2.1.mo mo6, HC.out.2.2.trans mo6.two⟩
                  clear cw6 mo6
                  obtain ⟨F6, P6, hz6, hp6⟩ := H6.out.1.z
                  have d6 := hz6.c6
                  have d7 := hz6.fz 6
                  rw [HS2.out.2, List.length_append] at d6
                  have hcut : w6.ownsRow w0.heap.size 78 2 (.slice (some ⟨g5, 0, none⟩) cs0.length c5) cs0.length (twc cs0) := cut_twc (by have := hz6.c; rw [HS2.out.2] at this; exact this)
                  obtain ⟨z8, m8⟩ := hz6.putS (W1 := w6) (u := .slice (some ⟨g5, 0, none⟩) cs0.length c5) (cs' := cs0) (World.grownBy_refl' _ _) (.inl (by rw [HS2.out.2]; exact own_same _ _ _ _)) hcut
                  have d5 : (w6.setCell ⟨b, 6, none⟩ (.slice (some ⟨g5, 0, none⟩) cs0.length c5)).cell? ⟨b, 5, none⟩ = some s2.W := z8.c5
                  have hW8 : Below w0.heap.size w0 (w6.setCell ⟨b, 6, none⟩ (.slice (some ⟨g5, 0, none⟩) cs0.length c5)) := Mo.bel H6.out.1.bel (fun k hk => (H6.out.1.lt k hk).1) m8
                  have HW8 : Hid (Wq w0.heap.size (w6.setCell ⟨b, 6, none⟩ (.slice (some ⟨g5, 0, none⟩) cs0.length c5)) s2.W s2.L css.length Q5 ∧ Below w0.heap.size w0 (w6.setCell ⟨b, 6, none⟩ (.slice (some ⟨g5, 0, none⟩) cs0.length c5))) := ⟨z8.w, hW8⟩
                  have H8 : Hid (Cw w0 (w6.setCell ⟨b, 6, none⟩ (.slice (some ⟨g5, 0, none⟩) cs0.length c5)) b { s2 with S := .slice (some ⟨g5, 0, none⟩) cs0.length c5 } n css L0 Q5 cs0 ∧ Fz w0 (w6.setCell ⟨b, 6, none⟩ (.slice (some ⟨g5, 0, none⟩) cs0.length c5)) b { s2 with S := .slice (some ⟨g5, 0, none⟩) cs0.length c5 } (.slice (some ⟨gF, 0, none⟩) N cF) N css L0 fs' ∧ Mo w (s.two b (.slice (some ⟨gF, 0, none⟩) N cF)) (w6.setCell ⟨b, 6, none⟩ (.slice (some ⟨g5, 0, none⟩) cs0.length c5)) (({ s2 with S := .slice (some ⟨g5, 0, none⟩) cs0.length c5 } : Sz).two b (.slice (some ⟨gF, 0, none⟩) N cF))) := ⟨⟨hW8, H6.out.1.fit, F6, P6, z8, hp6⟩, H6.out.2.1.mo m8, H6.out.2.2.trans m8.two⟩
                  clear hz6 hp6 hcut z8 m8 hW8
                  have HNm : Hid (css.length ≤ 2147483648) := by have := HW.out.1.fit.num; show _ ≤ _; omega
                  go_wp2_with fail
                  refine (wEmpty_any w0.heap.size s2.W s2.L css.length Q5 w0 _ HW8.out.1 HNm.out HW.out.2.2.2 HW8.out.2 (Nat.le_refl _)).mono ?_
                  rintro e w9 ⟨rfl, hw9, hm9⟩
                  have HF : Hid (∃ r s' fs', Ending.returned (.bool true) = .returned (.bool r) ∧ (r = true ↔ Cla css (L0 ++ [l])) ∧ Cs w0 w w9 b s s' n css L0 cs0 (.slice (some ⟨gF, 0, none⟩) N cF) N fs') := by
                    obtain ⟨F8, P8, z8, p8⟩ := H8.out.1.z
                    obtain ⟨z9, m9⟩ := z8.putW hw9 hm9
                    refine ⟨true, { s2 with S := .slice (some ⟨g5, 0, none⟩) cs0.length c5 }, fs', rfl, ⟨fun _ => HCl.out, fun _ => rfl⟩, ⟨⟨Mo.bel H8.out.1.bel (fun k hk => (H8.out.1.lt k hk).1) m9, H8.out.1.fit, F8, P8, z9, p8⟩, H8.out.2.1.mo m9, H8.out.2.2.trans m9.two, HS2.out.1⟩⟩
                  clear hw9 hm9
                  go_wp2
                  go_ret
                  exact HF.out
          · have hge : decide (0 ≤ e0) = false := decide_eq_false hge0
            have HFine : Hid (¬ Cla css (L0 ++ [l])) := by
              have h1 := HClo.out
              rcases h1.2 with ⟨e1, _⟩ | ⟨k, e1, _⟩
              · rw [e1] at h1; exact (h1.calm HInv.out.2).1
              · omega
            go_wp2_with fail
            · subst h
              go_loopg [10, 49] cs.length (fun q c' i' wr => ∃ (j : Nat) (fs' : List Bool), j + q = cs.length ∧ i' = .int .i64 j ∧ Cw w0 wr b s2 n css (L0 ++ [l] ++ (cs.drop j).map Prod.fst) Q5 (cs0 ++ cs) ∧ Fz w0 wr b s2 (.slice (some ⟨gF, 0, none⟩) N cF) N css L0 fs' ∧ Mo w (s.two b (.slice (some ⟨gF, 0, none⟩) N cF)) wr (s2.two b (.slice (some ⟨gF, 0, none⟩) N cF)))
              case atStart => exact ⟨0, fs, by omega, rfl, H5.out.1, H5.out.2.2, H5.out.2.1⟩
              case round =>
                obtain ⟨j, fs', hj, rfl, hcw, hfz, hmo⟩ := hrel
                have HJ : Hid (j + gk = cs.length) := hj
                have HC : Hid (Cw w0 wr b s2 n css (L0 ++ [l] ++ (cs.drop j).map Prod.fst) Q5 (cs0 ++ cs) ∧ Fz w0 wr b s2 (.slice (some ⟨gF, 0, none⟩) N cF) N css L0 fs' ∧ Mo w (s.two b (.slice (some ⟨gF, 0, none⟩) N cF)) wr (s2.two b (.slice (some ⟨gF, 0, none⟩) N cF))) := ⟨hcw, hfz, hmo⟩
                clear hcw hfz hmo hj
                by_cases hlt : j < cs.length
                · exfalso; omega
                · have hje : j = cs.length := by have := HJ.out; omega
                  have HC2 : Hid (Cw w0 wr b s2 n css (L0 ++ [l]) Q5 (cs0 ++ cs)) := by show Cw w0 wr b s2 n css (L0 ++ [l]) Q5 (cs0 ++ cs); have := HC.out.1; rw [hje, List.drop_length] at this; simpa using this
                  clear hje
                  go_wp2_with fail
                  refine (uBack_any w0 b s2 n css L0 Q5 (cs0 ++ cs) l wr HC2.out hf hln hin).mono ?_
                  rintro e w6 ⟨rfl, cw6, mo6⟩
                  have H6 : Hid (Cw w0 w6 b s2 n css L0 Q5 (cs0 ++ cs) ∧ Fz w0 w6 b s2 (.slice (some ⟨gF, 0, none⟩) N cF) N css L0 fs' ∧ Mo w (s.two b (.slice (some ⟨gF, 0, none⟩) N cF)) w6 (s2.two b (.slice (some ⟨gF, 0, none⟩) N cF))) := ⟨cw6, HC.out.2.1.mo mo6, HC.out.2.2.trans mo6.two⟩
                  clear cw6 mo6
                  obtain ⟨F6, P6, hz6, hp6⟩ := H6.out.1.z
                  have d6 := hz6.c6
                  have d7 := hz6.fz 6
                  rw [HS2.out.2, List.length_append] at d6
                  have hcut : w6.ownsRow w0.heap.size 78 2 (.slice a5 cs0.length cs0.length) cs0.length (twc cs0) := cut_twc (by have := hz6.c; rw [HS2.out.2] at this; exact this)
                  obtain ⟨z8, m8⟩ := hz6.putS (W1 := w6) (u := .slice a5 cs0.length cs0.length) (cs' := cs0) (World.grownBy_refl' _ _) (.inl (by rw [HS2.out.2]; exact own_same _ _ _ _)) hcut
                  have d5 : (w6.setCell ⟨b, 6, none⟩ (.slice a5 cs0.length cs0.length)).cell? ⟨b, 5, none⟩ = some s2.W := z8.c5
                  have hW8 : Below w0.heap.size w0 (w6.setCell ⟨b, 6, none⟩ (.slice a5 cs0.length cs0.length)) := Mo.bel H6.out.1.bel (fun k hk => (H6.out.1.lt k hk).1) m8
                  have HW8 : Hid (Wq w0.heap.size (w6.setCell ⟨b, 6, none⟩ (.slice a5 cs0.length cs0.length)) s2.W s2.L css.length Q5 ∧ Below w0.heap.size w0 (w6.setCell ⟨b, 6, none⟩ (.slice a5 cs0.length cs0.length))) := ⟨z8.w, hW8⟩
                  have H8 : Hid (Cw w0 (w6.setCell ⟨b, 6, none⟩ (.slice a5 cs0.length cs0.length)) b { s2 with S := .slice a5 cs0.length cs0.length } n css L0 Q5 cs0 ∧ Fz w0 (w6.setCell ⟨b, 6, none⟩ (.slice a5 cs0.length cs0.length)) b { s2 with S := .slice a5 cs0.length cs0.length } (.slice (some ⟨gF, 0, none⟩) N cF) N css L0 fs' ∧ Mo w (s.two b (.slice (some ⟨gF, 0, none⟩) N cF)) (w6.setCell ⟨b, 6, none⟩ (.slice a5 cs0.length cs0.length)) (({ s2 with S := .slice a5 cs0.length cs0.length } : Sz).two b (.slice (some ⟨gF, 0, none⟩) N cF))) := ⟨⟨hW8, H6.out.1.fit, F6, P6, z8, hp6⟩, H6.out.2.1.mo m8, H6.out.2.2.trans m8.two⟩
                  clear hz6 hp6 hcut z8 m8 hW8
                  have HNm : Hid (css.length ≤ 2147483648) := by have := HW.out.1.fit.num; show _ ≤ _; omega
                  go_wp2_with fail
                  refine (wEmpty_any w0.heap.size s2.W s2.L css.length Q5 w0 _ HW8.out.1 HNm.out HW.out.2.2.2 HW8.out.2 (Nat.le_refl _)).mono ?_
                  rintro e w9 ⟨rfl, hw9, hm9⟩
                  have HF : Hid (∃ r s' fs', Ending.returned (.bool false) = .returned (.bool r) ∧ (r = true ↔ Cla css (L0 ++ [l])) ∧ Cs w0 w w9 b s s' n css L0 cs0 (.slice (some ⟨gF, 0, none⟩) N cF) N fs') := by
                    obtain ⟨F8, P8, z8, p8⟩ := H8.out.1.z
                    obtain ⟨z9, m9⟩ := z8.putW hw9 hm9
                    refine ⟨false, { s2 with S := .slice a5 cs0.length cs0.length }, fs', rfl, ⟨(fun h => by cases h), fun h => absurd h HFine.out⟩, ⟨⟨Mo.bel H8.out.1.bel (fun k hk => (H8.out.1.lt k hk).1) m9, H8.out.1.fit, F8, P8, z9, p8⟩, H8.out.2.1.mo m9, H8.out.2.2.trans m9.two, HS2.out.1⟩⟩
                  clear hw9 hm9
                  go_wp2
                  go_ret
                  exact HF.out
            · skip
              obtain ⟨g5, ha5⟩ : ∃ g5, a5 = some ⟨g5, 0, none⟩ := HAz.out.elim (fun e => absurd (show c5 = cs0.length by omega) h) id
              subst ha5
              simp only [Option.map_some, Addr.add_lit, Nat.zero_add]
              go_loopg [10, 49] cs.length (fun q c' i' wr => ∃ (j : Nat) (fs' : List Bool), j + q = cs.length ∧ i' = .int .i64 j ∧ Cw w0 wr b s2 n css (L0 ++ [l] ++ (cs.drop j).map Prod.fst) Q5 (cs0 ++ cs) ∧ Fz w0 wr b s2 (.slice (some ⟨gF, 0, none⟩) N cF) N css L0 fs' ∧ Mo w (s.two b (.slice (some ⟨gF, 0, none⟩) N cF)) wr (s2.two b (.slice (some ⟨gF, 0, none⟩) N cF)))
              case atStart => exact ⟨0, fs, by omega, rfl, H5.out.1, H5.out.2.2, H5.out.2.1⟩
              case round =>
                obtain ⟨j, fs', hj, rfl, hcw, hfz, hmo⟩ := hrel
                have HJ : Hid (j + gk = cs.length) := hj
                have HC : Hid (Cw w0 wr b s2 n css (L0 ++ [l] ++ (cs.drop j).map Prod.fst) Q5 (cs0 ++ cs) ∧ Fz w0 wr b s2 (.slice (some ⟨gF, 0, none⟩) N cF) N css L0 fs' ∧ Mo w (s.two b (.slice (some ⟨gF, 0, none⟩) N cF)) wr (s2.two b (.slice (some ⟨gF, 0, none⟩) N cF))) := ⟨hcw, hfz, hmo⟩
                clear hcw hfz hmo hj
                by_cases hlt : j < cs.length
                · obtain ⟨g, ea5, x1, x2⟩ := HU.out wr j _ _ hlt HC.out.1
                  injection ea5 with ea5; injection ea5 with ea5; subst ea5
                  obtain ⟨hno, hinc, hset⟩ := led_nodup HPth.out hlt
                  have hfm : fmd (cs[j]).1 = true ∧ idx (cs[j]).1 < n := by obtain ⟨c, h1, h2⟩ := hinc; exact HW.out.1.fit.lit c h1 _ h2
                  have HDer : Hid (Der css (L0 ++ [l]) (cs[j]).1) := HPth.out.der _ (List.mem_append.2 (.inr (List.mem_map.2 ⟨_, List.getElem_mem hlt, rfl⟩)))
                  have HNx : Hid ((cs[j]).1 ∉ L0 ++ [l] ++ (cs.drop (j + 1)).map Prod.fst ∧ fmd (cs[j]).1 = true ∧ idx (cs[j]).1 < n ∧ Cw w0 wr b s2 n css ((L0 ++ [l] ++ (cs.drop (j + 1)).map Prod.fst) ++ [(cs[j]).1]) Q5 (cs0 ++ cs)) := ⟨hno, hfm.1, hfm.2, HC.out.1.congr fun x _ _ => hset x⟩
                  have HLT : Hid (j < cs.length) := hlt
                  clear hno hinc hset hfm
                  generalize (cs[j]).1 = m at *
                  generalize ((cs[j]).2 : Int) = m2 at *
                  have HBx : Hid (Below wr.heap.size wr (wr.alloc (.cells #[.int .i64 m, .int .i64 m2] 78))) := below_box _ _
                  have y0 := box0 wr (.int .i64 m) (.int .i64 m2) 78
                  have HSz : Hid (wr.heap.size < (wr.alloc (.cells #[.int .i64 m, .int .i64 m2] 78)).heap.size) := by show _ < _; rw [World.size_alloc]; exact Nat.lt_succ_self _
                  go_wp2_with fail
                  refine (uBack_any w0 b s2 n css (L0 ++ [l] ++ (cs.drop (j + 1)).map Prod.fst) Q5 (cs0 ++ cs) m _ (HNx.out.2.2.2.below HBx.out) HNx.out.2.1 HNx.out.2.2.1 HNx.out.1).mono ?_
                  rintro e w6 ⟨rfl, cw6, mo6⟩
                  have H6 : Hid (Cw w0 w6 b s2 n css (L0 ++ [l] ++ (cs.drop (j + 1)).map Prod.fst) Q5 (cs0 ++ cs) ∧ Fz w0 w6 b s2 (.slice (some ⟨gF, 0, none⟩) N cF) N css L0 fs' ∧ Mo w (s.two b (.slice (some ⟨gF, 0, none⟩) N cF)) w6 (s2.two b (.slice (some ⟨gF, 0, none⟩) N cF))) := ⟨cw6, (HC.out.2.1.below HBx.out).mo mo6, HC.out.2.2.trans ((Mo.below HBx.out).trans mo6).two⟩
                  have y1 : w6.cell? ⟨wr.heap.size, 0, none⟩ = some (.int .i64 m) := by
                    have h1 : w6.heap[wr.heap.size]? = (wr.alloc (.cells #[.int .i64 m, .int .i64 m2] 78)).heap[wr.heap.size]? := mo6.block _ HSz.out (fun ho => by have := (HC.out.1.lt _ ho).2; omega)
                    rw [← y0]
                    unfold World.cell?
                    rw [h1]
                  clear y0 cw6 mo6 x1 x2
                  obtain ⟨im, him⟩ : ∃ im : Nat, idx m = im := ⟨(idx m).toNat, by have := idx_range HNx.out.2.1; omega⟩
                  have HIM : Hid (idx m = (im : Int)) := him
                  have himN : im < N := by have := HNx.out.2.2.1; omega
                  have HNc : Hid (¬ Cla css (L0 ++ [m])) := fun hc => HFine.out (hc.trans fun x hx => by
                    rcases List.mem_append.1 hx with h1 | h1
                    · exact .fact (List.mem_append.2 (.inl h1))
                    · have : x = m := by simpa using h1
                      rw [this]; exact HDer.out)
                  obtain ⟨fb2, hfb2⟩ : ∃ fb2, fs'[im]? = some fb2 := ⟨_, List.getElem?_eq_getElem (by have h1 := H6.out.2.1.fr.1; simp at h1; omega)⟩
                  have z1 : w6.cell? ⟨gF, im, none⟩ = some (.bool fb2) := row_cell H6.out.2.1.fr (by rw [List.getElem?_map, hfb2]; rfl)
                  have z2 : w6.frozen? ⟨gF, im, none⟩ = false := row_fz H6.out.2.1.fr im
                  obtain ⟨p1, p2, p3⟩ := H6.out.2.1.put himN him HNx.out.2.1 HNc.out H6.out.1
                  have H7 : Hid (Cw w0 (w6.setCell ⟨gF, im, none⟩ (.bool true)) b s2 n css (L0 ++ [l] ++ (cs.drop (j + 1)).map Prod.fst) Q5 (cs0 ++ cs) ∧ Fz w0 (w6.setCell ⟨gF, im, none⟩ (.bool true)) b s2 (.slice (some ⟨gF, 0, none⟩) N cF) N css L0 (fs'.set im true) ∧ Mo w (s.two b (.slice (some ⟨gF, 0, none⟩) N cF)) (w6.setCell ⟨gF, im, none⟩ (.bool true)) (s2.two b (.slice (some ⟨gF, 0, none⟩) N cF))) := ⟨p2, p1, H6.out.2.2.trans p3⟩
                  clear p1 p2 p3 hfb2 him
                  go_wp2_with fail
                  refine (index_any m w6).mono ?_
                  rintro e w7 ⟨rfl, hw7⟩
                  obtain rfl : w6 = w7 := hw7.symm
                  rw [HIM.out]
                  clear hw7
                  go_wp2
                  go_roundg (gk - 1)
                  case measure => have := HJ.out; have := HLT.out; omega
                  case rel => exact ⟨j + 1, fs'.set im true, by have := HJ.out; have := HLT.out; omega, by go_num, H7.out.1, H7.out.2.1, H7.out.2.2⟩
                · have hje : j = cs.length := by have := HJ.out; omega
                  have HC2 : Hid (Cw w0 wr b s2 n css (L0 ++ [l]) Q5 (cs0 ++ cs)) := by show Cw w0 wr b s2 n css (L0 ++ [l]) Q5 (cs0 ++ cs); have := HC.out.1; rw [hje, List.drop_length] at this; simpa using this
                  clear hje
                  go_wp2_with fail
                  refine (uBack_any w0 b s2 n css L0 Q5 (cs0 ++ cs) l wr HC2.out hf hln hin).mono ?_
                  rintro e w6 ⟨rfl, cw6, mo6⟩
                  have H6 : Hid (Cw w0 w6 b s2 n css L0 Q5 (cs0 ++ cs) ∧ Fz w0 w6 b s2 (.slice (some ⟨gF, 0, none⟩) N cF) N css L0 fs' ∧ Mo w (s.two b (.slice (some ⟨gF, 0, none⟩) N cF)) w6 (s2.two b (.slice (some ⟨gF, 0, none⟩) N cF))) := ⟨cw6, HC.out.2.1.mo mo6, HC.out.2.2.trans mo6.two⟩
                  clear cw6 mo6
                  obtain ⟨F6, P6, hz6, hp6⟩ := H6.out.1.z
                  have d6 := hz6.c6
                  have d7 := hz6.fz 6
                  rw [HS2.out.2, List.length_append] at d6
                  have hcut : w6.ownsRow w0.heap.size 78 2 (.slice (some ⟨g5, 0, none⟩) cs0.length c5) cs0.length (twc cs0) := cut_twc (by have := hz6.c; rw [HS2.out.2] at this; exact this)
                  obtain ⟨z8, m8⟩ := hz6.putS (W1 := w6) (u := .slice (some ⟨g5, 0, none⟩) cs0.length c5) (cs' := cs0) (World.grownBy_refl' _ _) (.inl (by rw [HS2.out.2]; exact own_same _ _ _ _)) hcut
                  have d5 : (w6.setCell ⟨b, 6, none⟩ (.slice (some ⟨g5, 0, none⟩) cs0.length c5)).cell? ⟨b, 5, none⟩ = some s2.W := z8.c5
                  have hW8 : Below w0.heap.size w0 (w6.setCell ⟨b, 6, none⟩ (.slice (some ⟨g5, 0, none⟩) cs0.length c5)) := Mo.bel H6.out.1.bel (fun k hk => (H6.out.1.lt k hk).1) m8
                  have HW8 : Hid (Wq w0.heap.size (w6.setCell ⟨b, 6, none⟩ (.slice (some ⟨g5, 0, none⟩) cs0.length c5)) s2.W s2.L css.length Q5 ∧ Below w0.heap.size w0 (w6.setCell ⟨b, 6, none⟩ (.slice (some ⟨g5, 0, none⟩) cs0.length c5))) := ⟨z8.w, hW8⟩
                  have H8 : Hid (Cw w0 (w6.setCell ⟨b, 6, none⟩ (.slice (some ⟨g5, 0, none⟩) cs0.length c5)) b { s2 with S := .slice (some ⟨g5, 0, none⟩) cs0.length c5 } n css L0 Q5 cs0 ∧ Fz w0 (w6.setCell ⟨b, 6, none⟩ (.slice (some ⟨g5, 0, none⟩) cs0.length c5)) b { s2 with S := .slice (some ⟨g5, 0, none⟩) cs0.length c5 } (.slice (some ⟨gF, 0, none⟩) N cF) N css L0 fs' ∧ Mo w (s.two b (.slice (some ⟨gF, 0, none⟩) N cF)) (w6.setCell ⟨b, 6, none⟩ (.slice (some ⟨g5, 0, none⟩) cs0.length c5)) (({ s2 with S := .slice (some ⟨g5, 0, none⟩) cs0.length c5 } : Sz).two b (.slice (some ⟨gF, 0, none⟩) N cF))) := ⟨⟨hW8, H6.out.1.fit, F6, P6, z8, hp6⟩, H6.out.2.1.mo m8, H6.out.2.2.trans m8.two⟩
                  clear hz6 hp6 hcut z8 m8 hW8
                  have HNm : Hid (css.length ≤ 2147483648) := by have := HW.out.1.fit.num; show _ ≤ _; omega
                  go_wp2_with fail
                  refine (wEmpty_any w0.heap.size s2.W s2.L css.length Q5 w0 _ HW8.out.1 HNm.out HW.out.2.2.2 HW8.out.2 (Nat.le_refl _)).mono ?_
                  rintro e w9 ⟨rfl, hw9, hm9⟩
                  have HF : Hid (∃ r s' fs', Ending.returned (.bool false) = .returned (.bool r) ∧ (r = true ↔ Cla css (L0 ++ [l])) ∧ Cs w0 w w9 b s s' n css L0 cs0 (.slice (some ⟨gF, 0, none⟩) N cF) N fs') := by
                    obtain ⟨F8, P8, z8, p8⟩ := H8.out.1.z
                    obtain ⟨z9, m9⟩ := z8.putW hw9 hm9
                    refine ⟨false, { s2 with S := .slice (some ⟨g5, 0, none⟩) cs0.length c5 }, fs', rfl, ⟨(fun h => by cases h), fun h => absurd h HFine.out⟩, ⟨⟨Mo.bel H8.out.1.bel (fun k hk => (H8.out.1.lt k hk).1) m9, H8.out.1.fit, F8, P8, z9, p8⟩, H8.out.2.1.mo m9, H8.out.2.2.trans m9.two, HS2.out.1⟩⟩
                  clear hw9 hm9
                  go_wp2
                  go_ret
                  exact HF.out
      · have HNC : Hid (¬ Cla css (L0 ++ [l])) := HW.out.2.1.ok i l HFb.out HI.out hf
        go_wp2
        go_ret
        exact HNo.out _ HB2.out HNC.out
  · have hdt : decide (idx l < n) = false := decide_eq_false hln
    have HNC : Hid (¬ Cla css (L0 ++ [l])) := by
      have hoff : ∀ c ∈ css, l ∉ c ∧ -l ∉ c := fun c hc => ⟨fun h1 => hln (HW.out.1.fit.lit c hc l h1).2, fun h1 => by
        have h2 := HW.out.1.fit.lit c hc _ h1
        have := idx_neg_lt h2.1 HW.out.1.fit.ev h2.2
        rw [Int.neg_neg] at this
        exact hln this⟩
      refine (calm_der ?_ (calm_off HRt.out.1.calm hoff)).2
      refine HRt.out.1.con.snoc (by omega) fun h1 => ?_
      obtain ⟨c, h2, h3⟩ := HRt.out.1.inn _ h1
      exact (hoff c h2).2 h3
    rw [hdt]
    go_wp2
    go_ret
    exact HNo.out _ HB1.out HNC.out
end Go.Proofs.YtijhabhbeambeaaDoor
