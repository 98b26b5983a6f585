/-
  UnitCloses: the document's Close, and the walk.
  KEEP: set on app at below new trans refl start ap kept rd rds mono lt add none own nil put len pos setF setV putL putR other neV same_any
-/
import Derived.Test.YtijhabhbeambeaaDoorJUnS
set_option linter.unusedSimpArgs false
set_option linter.unusedVariables false
namespace Go.Proofs.YtijhabhbeambeaaDoor
open Go Go.RowKit

/-- the literals of L up to a variable -/
def outL (L : List Int) : Nat → List Int
  | 0 => []
  | k + 1 => outL L k ++ (if vl L (k : Int) = 0 then [] else [(k : Int) * vl L (k : Int)])
theorem vl_lit {L : List Int} {k : Nat} (h : vl L (k : Int) ≠ 0) : ((k : Int) * vl L (k : Int)) ∈ L ∧ ((k : Int) * vl L (k : Int)).natAbs = k := by
  rcases vl_range L (k : Int) with a | a | a
  · rw [a]; exact ⟨by simpa using vl_one.1 a, by omega⟩
  · rw [a]; exact ⟨by have := (vl_m1 a).1; rw [show (k : Int) * -1 = -(k : Int) by omega]; exact this, by omega⟩
  · exact absurd a h
theorem outL_mem {L : List Int} : ∀ {k : Nat} {x : Int}, x ∈ outL L k → x ∈ L ∧ x.natAbs < k
  | 0, x, h => by simp [outL] at h
  | k + 1, x, h => by
    unfold outL at h
    rcases List.mem_append.1 h with a | a
    · obtain ⟨h1, h2⟩ := outL_mem a; exact ⟨h1, by omega⟩
    · split at a
      · simp at a
      · rename_i hv
        obtain ⟨h1, h2⟩ := vl_lit hv
        rw [show x = (k : Int) * vl L (k : Int) by simpa using a]
        exact ⟨h1, by omega⟩
theorem mem_outL {L : List Int} (hc : Con L) : ∀ {k : Nat} {x : Int}, x ∈ L → x.natAbs < k → x ∈ outL L k
  | 0, x, _, h => by omega
  | k + 1, x, hx, h => by
    unfold outL
    by_cases e : x.natAbs = k
    · refine List.mem_append.2 (.inr ?_)
      rcases (show x = (k : Int) ∨ x = -(k : Int) by omega) with rfl | rfl
      · have h1 := vl_one.2 hx
        rw [if_neg (by omega), h1]; simp
      · by_cases h2 : (k : Int) ∈ L
        · exact absurd hx (hc _ h2)
        · have h1 : vl L (k : Int) = -1 := by unfold vl; rw [if_neg h2, if_pos hx]
          rw [if_neg (by omega), h1]; simp
    · exact List.mem_append.2 (.inl (mem_outL hc hx (by omega)))
theorem idx_of_abs {x y : Int} (hx : fmd x = true) (hy : fmd y = true) (h : x.natAbs < y.natAbs) : idx x < idx y := by
  have h1 := fmd_range hx
  have h2 := fmd_range hy
  rcases (show 0 < x ∨ x < 0 by omega) with a | a <;> rcases (show 0 < y ∨ y < 0 by omega) with b | b
  · rw [(there_pos hx a).1, (there_pos hy b).1]; omega
  · rw [(there_pos hx a).1, (there_neg hy b).1]; omega
  · rw [(there_neg hx a).1, (there_pos hy b).1]; omega
  · rw [(there_neg hx a).1, (there_neg hy b).1]; omega
theorem outL_rising {L : List Int} (hf : ∀ x ∈ L, fmd x = true) : ∀ k, (outL L k).Pairwise (fun a b => idx a < idx b)
  | 0 => List.Pairwise.nil
  | k + 1 => by
    unfold outL
    rw [List.pairwise_append]
    refine ⟨outL_rising hf k, ?_, fun a ha b hb => ?_⟩
    · split <;> simp
    · split at hb
      · simp at hb
      · rename_i hv
        obtain ⟨h1, h2⟩ := vl_lit hv
        obtain ⟨h3, h4⟩ := outL_mem ha
        have e : b = (k : Int) * vl L (k : Int) := by simpa using hb
        rw [e]
        exact idx_of_abs (hf a h3) (hf _ h1) (by omega)
theorem outL_len (L : List Int) : ∀ k, (outL L k).length ≤ k
  | 0 => Nat.le_refl _
  | k + 1 => by
    have := outL_len L k
    unfold outL
    rw [List.length_append]
    split <;> simp <;> omega
theorem outL_says {css : List (List Int)} {facts L : List Int} {t : Nat} (hc : Con L) (hu : Upt t L) (hn : ¬ Cla css facts) (hd : ∀ x, Der css facts x ↔ x ∈ L) : Says6 css facts false (outL L (t + 1)) :=
  .inr ⟨rfl, hn, outL_rising (fun x hx => (hu x hx).1) _, fun x => ⟨fun h => (hd x).2 (outL_mem h).1, fun h => mem_outL hc ((hd x).1 h) (by have := (hu x ((hd x).1 h)).2; omega)⟩⟩
set_option maxRecDepth 100000 in
set_option maxHeartbeats 2000000 in
theorem rClose_any (v : Int) (s vf : Value) (css : List (List Int)) (facts : List Int) (w : World) (hr : Rds w s css) (hf : Rd w vf facts) (hN : css.length ≤ 1073741824) :
    Calls Tryd.prog 16 #[.agg #[.int .i64 v, s], vf] w fun e w' => ∃ u clash D, e = .returned (.tuple #[u, .bool clash, .int .i64 (cloE v css facts)]) ∧ Clz w w' v css facts u clash D := by
  have HR : Hid (Rds w s css ∧ Rd w vf facts) := ⟨hr, hf⟩
  have HNil : Hid (∀ w' (b : Bool) (x : Int), Below w.heap.size w w' → cloE v css facts = x → (x = 0 → Says6 css facts b []) → (x ≠ 0 → b = false) → ∃ u clash D, Ending.returned (.tuple #[.slice none 0 0, .bool b, .int .i64 x]) = .returned (.tuple #[u, .bool clash, .int .i64 (cloE v css facts)]) ∧ Clz w w' v css facts u clash D) := fun w' b x hb hx h1 h2 => ⟨_, b, [], by rw [hx], ⟨World.ownsRow_nil _ _ _ _, fun h => h1 (hx.symm.trans h), fun h => ⟨h2 (fun e => h (hx.trans e)), rfl⟩, by simp, hb⟩⟩
  have HB1 : Hid (Below w.heap.size w (w.alloc (.cells #[.int .i64 v, s] 24))) := below_box _ _
  have k0 := box0 w (.int .i64 v) s 24
  have k1 := box1 w (.int .i64 v) s 24
  have hbs : w.heap.size < (w.alloc (.cells #[.int .i64 v, s] 24)).heap.size := by rw [World.size_alloc]; exact Nat.lt_succ_self _
  have HX0 : Hid (∀ W, Below (w.alloc (.cells #[.int .i64 v, s] 24)).heap.size (w.alloc (.cells #[.int .i64 v, s] 24)) W → W.cell? ⟨w.heap.size, 0, none⟩ = some (.int .i64 v) ∧ W.cell? ⟨w.heap.size, 1, none⟩ = some s) := fun W hW => ⟨(hW.cell (p := ⟨w.heap.size, 0, none⟩) hbs).trans k0, (hW.cell (p := ⟨w.heap.size, 1, none⟩) hbs).trans k1⟩
  clear hr hf k0 k1 hbs
  go_enter Tryd.func16, Tryd.ntmps16
  go_wp2_with fail
  refine (rFormed_any v s css _ (HR.out.1.below (below_box _ _))).mono ?_
  rintro e w1 ⟨rfl, bel1⟩
  generalize w.alloc (.cells #[.int .i64 v, s] 24) = W0 at *
  have HBx : Hid (Below W0.heap.size W0 w1) := bel1
  clear bel1
  cases hfm : frm v css
  · have HE : Hid (cloE v css facts = 1) := by show _ = _; unfold cloE; rw [hfm]; rfl
    go_wp2
    go_ret3
    exact HNil.out _ false 1 (Below.step HB1.out HBx.out) HE.out (fun h => absurd h (by decide)) (fun _ => rfl)
  · go_wp2_with fail
    refine (rSound_any _ facts w1 (HR.out.2.below (Below.step HB1.out HBx.out))).mono ?_
    rintro e w2 ⟨rfl, hw2⟩
    obtain rfl : w1 = w2 := hw2.symm
    clear hw2
    cases hsd : facts.all fmd
    · have HE : Hid (cloE v css facts = 1) := by show _ = _; unfold cloE; rw [hfm, hsd]; rfl
      go_wp2
      go_ret3
      exact HNil.out _ false 1 (Below.step HB1.out HBx.out) HE.out (fun h => absurd h (by decide)) (fun _ => rfl)
    · obtain ⟨k0, k1⟩ := HX0.out w1 HBx.out
      have HC0 : Hid (cloE v css facts = 0) := by show _ = _; unfold cloE; rw [hfm, hsd]; rfl
      go_wp2_with fail
      refine (rClosing_any v s vf css facts w1 (HR.out.1.below (Below.step HB1.out HBx.out)) (HR.out.2.below (Below.step HB1.out HBx.out)) hfm hsd hN).mono ?_
      rintro e w2 ⟨g, clash, rfl, bel2, hyes, hno⟩
      have HB2 : Hid (Below w.heap.size w w2) := Below.step (Below.step HB1.out HBx.out) bel2
      have HT : Hid ((topL css facts).toNat ≤ 1048576) := by have := (top_range css facts).2.1; show _ ≤ _; omega
      generalize (topL css facts).toNat = T at *
      clear hfm hsd k0 k1
      cases clash
      · obtain ⟨L, hvz, hcon, hupt, hncl, hder⟩ := hno rfl
        have hT := HT.out
        have HV : Hid (Vz w1.heap.size w2 g (T + 1) T L ∧ Con L ∧ Upt T L ∧ Says6 css facts false (outL L (T + 1))) := ⟨hvz, hcon, hupt, outL_says hcon hupt hncl hder⟩
        have HVs : Hid (∀ W k, k ≤ T → Below w2.heap.size w2 W → W.cell? ⟨g, k, none⟩ = some (.int .i64 (vl L (k : Int)))) := fun W k hk hW => row_cell (hvz.below hW) (by rw [List.getElem?_map, vsL_at hk]; rfl)
        have hcp : T + 1 ≤ maxLen := by unfold maxLen; omega
        clear hvz hcon hupt hncl hder hyes hno bel2
        go_wp2
        go_loopg [9, 10] T (fun q o' i' wr => ∃ k : Nat, k + q = T ∧ i' = .int .i64 ((k : Int) + 1) ∧ Own w2.heap.size wr o' (outL L (k + 1)) ∧ Below w2.heap.size w2 wr)
        case atStart => exact ⟨0, by omega, rfl, by
          have e : outL L 1 = [] := by
            have hz : vl L ((0 : Nat) : Int) = 0 := vl_zero.2 ⟨HV.out.2.2.1.zero, by simpa using HV.out.2.2.1.zero⟩
            unfold outL
            rw [if_pos hz]
            rfl
          rw [e]
          exact World.ownsRow_nil _ _ _ _, Below.refl _ _⟩
        case round =>
          obtain ⟨k, hk, rfl, ho, hb⟩ := hrel
          have HK : Hid (k + gk = T) := hk
          have HO : Hid (Own w2.heap.size wr u9 (outL L (k + 1)) ∧ Below w2.heap.size w2 wr) := ⟨ho, hb⟩
          obtain ⟨ao, co, eo⟩ := own_form ho
          subst eo
          clear ho hb hk
          by_cases hlt : k < T
          · have kc := HVs.out wr (k + 1) (by omega) HO.out.2
            have HLT : Hid (k < T) := hlt
            have HNx : Hid (outL L (k + 1 + 1) = outL L (k + 1) ++ (if vl L ((k + 1 : Nat) : Int) = 0 then [] else [((k + 1 : Nat) : Int) * vl L ((k + 1 : Nat) : Int)])) := rfl
            have hrg := vl_range L ((k + 1 : Nat) : Int)
            have HLn : Hid ((outL L (k + 1)).length ≤ 1048577) := Nat.le_trans (outL_len L _) (by show _ ≤ _; omega)
            generalize vl L ((k + 1 : Nat) : Int) = x at *
            by_cases hx : x = 0
            · rw [if_pos hx, List.append_nil] at HNx
              have hx1 : (x != 0) = false := by simpa using hx
              subst hx
              go_wp2
              go_roundg (gk - 1)
              case measure => have := HK.out; have := HLT.out; omega
              case rel => exact ⟨k + 1, by have := HK.out; have := HLT.out; omega, by go_num, by rw [HNx.out]; exact HO.out.1, HO.out.2⟩
            · rw [if_neg hx] at HNx
              have hx1 : (x == 0) = false := by simpa using hx
              have hx2 : (x != 0) = true := by simpa using hx
              have hmul : ((k + 1 : Nat) : Int) * x = ((k : Int) + 1) * x := by rw [show ((k + 1 : Nat) : Int) = (k : Int) + 1 by omega]
              rw [hmul] at HNx
              obtain ⟨y, hy⟩ : ∃ y, ((k : Int) + 1) * x = y := ⟨_, rfl⟩
              have hwm : IntKind.i64.wrap (((k : Int) + 1) * x) = y := by
                rw [← hy, IntKind.wrap_i64]
                rcases hrg with rfl | rfl | rfl
                · omega
                · omega
                · exact absurd rfl hx
              rw [hy] at HNx
              clear hy hmul
              have HR1 : Hid (Rd (wr.alloc (.cells #[.int .i64 y] 3)) (.slice (some ⟨wr.heap.size, 0, none⟩) 1 1) [y]) := (ownOne wr y).rd (by simp)
              have HO1 : Hid (Own w2.heap.size (wr.alloc (.cells #[.int .i64 y] 3)) (.slice ao (outL L (k + 1)).length co) (outL L (k + 1))) := HO.out.1.below (below_box _ _)
              have hl8 : ((outL L (k + 1)).length + 1) * 8 ≤ 140737488355328 := by have := HLn.out; omega
              have HBs : Hid (w2.heap.size ≤ (wr.alloc (.cells #[.int .i64 y] 3)).heap.size) := Nat.le_trans HO.out.2.size (below_box _ _).size
              have HApp : Hid (∀ v8 w8, Own w2.heap.size w8 v8 (outL L (k + 1) ++ [y]) → Ap (wr.alloc (.cells #[.int .i64 y] 3)) (.slice ao (outL L (k + 1)).length co) w8 v8 → Own w2.heap.size w8 v8 (outL L (k + 1 + 1)) ∧ Below w2.heap.size w2 w8) := fun v8 w8 own8 ap8 => ⟨by rw [HNx.out]; exact own8, (Below.step HO.out.2 (below_box _ _)).grown ap8.grown (Nat.le_trans HO.out.2.size (below_box _ _).size) (fun q e => (HO1.out.lt q e).1)⟩
              clear HNx hrg
              generalize outL L (k + 1) = zs at *
              go_wp2_with (at_builtin; refine wpList_app_rd rfl _ _ rfl w2.heap.size (.slice ao zs.length co) (.slice (some ⟨wr.heap.size, 0, none⟩) 1 1) zs [y] rfl rfl HO1.out HR1.out hl8 HBs.out ?_; intro v8 w8 own8 ap8; have F8 : Hid (_ ∧ _) := HApp.out v8 w8 own8 ap8; obtain ⟨a8, c8, hv8⟩ := own_form own8; subst hv8; clear own8 ap8)
              go_roundg (gk - 1)
              case measure => have := HK.out; have := HLT.out; omega
              case rel => exact ⟨k + 1, by have := HK.out; have := HLT.out; omega, by go_num, (by have h9 := F8.out.1; rw [List.length_append] at h9; exact h9), F8.out.2⟩
          · have hke : k = T := by have := HK.out; omega
            have HF : Hid (Clz w wr v css facts (.slice ao (outL L (k + 1)).length co) false (outL L (k + 1))) := ⟨HO.out.1.mono HB2.out.size, fun _ => by rw [hke]; exact HV.out.2.2.2, fun h => absurd HC0.out h, fun x hx => (HV.out.2.2.1 x (outL_mem hx).1).1, Below.step HB2.out HO.out.2⟩
            clear hke
            go_wp2
            go_ret3
            exact ⟨_, false, _, by rw [HC0.out]; rfl, HF.out⟩
      · have HCl : Hid (Cla css facts) := hyes rfl
        clear hyes hno bel2
        go_wp2
        go_ret3
        exact HNil.out _ true 0 HB2.out HC0.out (fun _ => .inl ⟨rfl, HCl.out, rfl⟩) (fun h => absurd rfl h)
theorem clz_len {w w' : World} {v : Int} {css : List (List Int)} {facts : List Int} {u : Value} {b : Bool} {D : List Int} (h : Clz w w' v css facts u b D) : D.length * 8 ≤ 140737488351232 := by
  have hn : D.Nodup := by
    by_cases h0 : cloE v css facts = 0
    · rcases h.yes h0 with ⟨_, _, e⟩ | ⟨_, _, hr, _⟩
      · rw [e]; exact List.nodup_nil
      · exact hr.imp (fun h => by intro e; subst e; omega)
    · rw [(h.no h0).2]; exact List.nodup_nil
  have := lits_few hn h.fmd
  omega
theorem clz_eq {w w' w2 w2' : World} {v : Int} {css : List (List Int)} {facts : List Int} {u u' : Value} {b b' : Bool} {D D' : List Int} (h : Clz w w' v css facts u b D) (h' : Clz w2 w2' v css facts u' b' D') : b = b' ∧ D = D' := by
  by_cases h0 : cloE v css facts = 0
  · exact Says6.unique (fun _ => Iff.rfl) Iff.rfl (h.yes h0) (h'.yes h0)
  · obtain ⟨a, e⟩ := h.no h0
    obtain ⟨a', e'⟩ := h'.no h0
    exact ⟨by rw [a, a'], by rw [e, e']⟩
namespace unitCloses
end unitCloses
end Go.Proofs.YtijhabhbeambeaaDoor
