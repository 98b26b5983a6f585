/-
  depotref04: Sweep, walked.
  KEEP: set on app at below new trans refl start ap kept rd rds mono own row cells lt box lo ml ms c0 f0 form max find eq ma some none more
-/
import Derived.Test.YtnglgcipjbpgoaaAmW
set_option linter.unusedSimpArgs false
set_option linter.unusedVariables false
namespace Go.Proofs.Ytnglgcipjbpgoaa
open Go Go.RowKit

theorem mwd_live : ∀ l : List Mc, mwd (live4 l) ≤ mwd l
  | [] => Nat.le_refl _
  | x :: r => by
    have ih := mwd_live r
    unfold live4 at ih ⊢
    rw [List.filter_cons]
    cases x.live
    · simp only [Bool.false_eq_true, if_false, mwd]; omega
    · simp only [if_true, mwd]; omega
theorem ofK_le {L : List Mt} {S : List Seg} (h : L.map Prod.snd = plc 0 S) (k : Nat) : ofK (lvM L) k ≤ (flat S).length := by
  unfold ofK
  have h1 := mwd_le ((lvM L).map Prod.snd) k
  rw [lvM_snd, h] at h1 ⊢
  have h2 := mwd_live (plc 0 S)
  rw [mwd_flat] at h2
  omega
theorem cell_two_new4 (w : World) (x y : Value) (t : TypeId) : ∀ j u, [x, y][j]? = some u → (w.alloc (.cells #[x, y] t)).cell? ((⟨w.heap.size, 0, none⟩ : Addr).add j) = some u := by
  intro j u hj
  have hh := World.alloc_heap_new w (.cells #[x, y] t)
  rw [Addr.add_lit]
  show (match (w.alloc (.cells #[x, y] t)).heap[w.heap.size]? with | some (Obj.cells c elem frozen) => c[0 + j]? | x => none) = _
  rw [hh, Nat.zero_add]
  match j, hj with
  | 0, hj => simpa using hj
  | 1, hj => simpa using hj
theorem row_ne4 {B e e' s s' n n' : Nat} {w : World} {v u : Value} {xs ys : List Value} {g : Nat} (hne : e ≠ e') (h : w.ownsRow B e s v n xs) (hu : w.ownsRow B e' s' u n' ys) (hv : v.ownBlock = some g) (hu2 : u.ownBlock = some g) : False := by
  rcases h.2 with ⟨rfl, _⟩ | ⟨g1, cap, cur, rfl, _, hh, _⟩
  · cases hv
  · rcases hu.2 with ⟨rfl, _⟩ | ⟨g2, cap2, cur2, rfl, _, hh2, _⟩
    · cases hu2
    · simp [Value.ownBlock] at hv hu2
      subst hv; subst hu2
      rw [hh] at hh2
      injection hh2 with hh2
      injection hh2 with _ hh2
      exact hne hh2
theorem mr_of4 {B : Nat} {w W : World} {lv : Value} {M : List Mt} {k MK mc : Nat} {ma : Option Addr} (h : Sk4 B w W lv (.slice ma MK mc) M k) (hm : (mvK M k).length = MK) : W.ownsRow w.heap.size 91 2 (.slice ma MK mc) MK (rowsV (mvK M k)) := by have := h.mr; rw [hm] at this; exact this
set_option maxRecDepth 100000 in
set_option maxHeartbeats 3200000 in
theorem mSweep_any (B m : Nat) (rv : Value) (L : List Mt) (S : List Seg) (w : World) (h : Mz4 B w m rv L S) (hL : L.length ≤ 1099511627776) (hf : (flat S).length ≤ 1099511627776) (hB : B ≤ w.heap.size) :
    Calls Try.prog 32 #[.pointer (some ⟨m, 0, none⟩)] w fun e w' => Sw4 B w m rv L S e w' := by
  obtain ⟨iV, hiV, hV0, hV1, hV2⟩ := info_parts infoV4
  have HM : Hid (Mz4 B w m rv L S ∧ B ≤ w.heap.size) := ⟨h, hB⟩
  have HOf : Hid (∀ k, ofK (lvM L) k ≤ 1099511627776) := fun k => Nat.le_trans (ofK_le h.eq k) hf
  have hml : (lvM L).length ≤ 1099511627776 := Nat.le_trans (by unfold lvM; exact List.length_filter_le _ _) hL
  have HLv : Hid (Calls Try.prog 10 #[.pointer (some ⟨m, 0, none⟩)] w fun e w' => Lv4 w L e w') := mLive_any B m rv L w h.ma hL
  have HOw : Hid (∀ W, Below w.heap.size w W → ∀ x ∈ lvM L, Own B W x.1 x.2.lits) := fun W hW x hx => (h.ma.ml.own x (lvM_mem hx)).below hW
  have HFin : Hid (∀ (W : World) (lv mv : Value), Sk4 B w W lv mv (lvM L) (lvM L).length → Sw4 B w m rv L S (.returned mv) (W.setCell ⟨m, 0, none⟩ lv)) := fun W lv mv hk => sw4_fin h hB hk
  have HBx : Hid (∀ W, Below w.heap.size w W → W.cell? ⟨m, 0, none⟩ = some rv ∧ W.frozen? ⟨m, 0, none⟩ = false) := fun W hW => ⟨(h.ma.below hW).c0, (h.ma.below hW).f0⟩
  clear h hf hB hL
  go_enter Try.func32, Try.ntmps32
  go_wp2_with fail
  refine HLv.out.mono ?_
  rintro e w1 ⟨a, c, rfl, lr1, b1⟩
  have HS0 : Hid (Sk4 B w w1 (.slice a (lvM L).length c) (.slice none 0 0) (lvM L) 0) := ⟨lr1, World.ownsRow_nil _ _ _ _, b1⟩
  clear lr1 b1 HLv
  generalize lvM L = M at *
  go_wp2
  go_loopg [4, 5, 6] M.length (fun q m' t' i' wr => ∃ (k : Nat) (ma : Option Addr) (mc : Nat), k + q = M.length ∧ i' = .int .i64 k ∧ t' = .int .i64 (ofK M k : Int) ∧ m' = .slice ma (mvK M k).length mc ∧ Hid (Sk4 B w wr (.slice a M.length c) (.slice ma (mvK M k).length mc) M k))
  case atStart => exact ⟨0, none, 0, by omega, rfl, rfl, rfl, HS0⟩
  case round =>
    obtain ⟨k, ma, mc, hk, rfl, rfl, rfl, HS⟩ := hrel
    have HK : Hid (k + gk = M.length) := hk
    clear hk
    by_cases hlt : k < M.length
    · obtain ⟨g, cap, ev, hnc, hgw, d0, d1, df⟩ := HS.out.cells hlt
      injection ev with q1 q2 q3
      subst q1; subst q3
      obtain ⟨la, lc, hls⟩ := own_form (HOw.out wr HS.out.bel _ (List.getElem_mem hlt))
      have d1' := d1.trans (congrArg some hls)
      have HLT : Hid (k < M.length) := hlt
      have HMl : Hid ((mvK M k).length = k ∧ (mvK M (k + 1)).length = k + 1) := ⟨mvK_len M k (by omega), mvK_len M (k + 1) (by omega)⟩
      have hom := ofK_more hlt
      have ho1 := HOf.out (k + 1)
      have HOm : Hid (ofK M (k + 1) = ofK M k + 1 + M[k].2.lits.length) := hom
      rw [hom] at ho1
      have hml2 : (mvK M k).length = k := HMl.out.1
      have HMore : Hid (∀ (W2 : World) (mv' : Value), W2.ownsRow w.heap.size 91 2 mv' ((mvK M k).length + 1) (rowsV (mvK M k) ++ [.int .i64 M[k].2.pl, .int .i64 (ofK M k : Int)]) → (wr.alloc (.cells #[.int .i64 M[k].2.pl, .int .i64 (ofK M k : Int)] 91)).grownBy W2 (Value.slice ma (mvK M k).length mc).ownBlock → Sk4 B w (W2.setCell ⟨g, k * 4, none⟩ (.int .i64 (ofK M k : Int))) (.slice (some ⟨g, 0, none⟩) M.length c) mv' M (k + 1) ∧ W2.cell? ⟨g, k * 4, none⟩ = some (.int .i64 M[k].2.pl) ∧ W2.cell? ⟨g, k * 4 + 1, none⟩ = some (.slice la M[k].2.lits.length lc) ∧ W2.frozen? ⟨g, k * 4, none⟩ = false ∧ (W2.setCell ⟨g, k * 4, none⟩ (.int .i64 (ofK M k : Int))).cell? ⟨g, k * 4 + 1, none⟩ = some (.slice la M[k].2.lits.length lc)) := fun W2 mv' o2 g2 => by
        have h5 := HS.out.more hlt o2 g2
        have hne : some g ≠ (Value.slice ma (mvK M k).length mc).ownBlock := fun q => by
          have hh := World.ownsRow.alloc HS.out.mr (.cells #[.int .i64 M[k].2.pl, .int .i64 (ofK M k : Int)] 91)
          exact row_ne4 (by decide) HS.out.lr HS.out.mr rfl q.symm
        have hlt9 : g < wr.heap.size := (HS.out.lr.lt g rfl).2
        have hblk : W2.heap[g]? = wr.heap[g]? := (g2.block g (by rw [World.size_alloc]; omega) hne).trans ((below_box wr _).block g hlt9)
        have e0 : ∀ j, W2.cell? ⟨g, j, none⟩ = wr.cell? ⟨g, j, none⟩ := fun j => by unfold World.cell?; rw [hblk]
        have ef : W2.frozen? ⟨g, k * 4, none⟩ = wr.frozen? ⟨g, k * 4, none⟩ := by unfold World.frozen?; rw [hblk]
        refine ⟨h5.1, (e0 _).trans d0, (e0 _).trans d1', ef.trans (df _), ?_⟩
        rw [World.cell?_setCell_other _ _ _ _ (by intro e; injection e with _ e; omega)]
        exact (e0 _).trans d1'
      have hb1 : (mvK M k).length + 1 ≤ maxLen := by unfold maxLen; omega
      have hb2 : ((mvK M k).length + 1) * 16 ≤ 140737488355328 := by omega
      have hb3 : w.heap.size ≤ (wr.alloc (.cells #[.int .i64 M[k].2.pl, .int .i64 (ofK M k : Int)] 91)).heap.size := by rw [World.size_alloc]; have := HS.out.bel.size; omega
      have HB : Hid ((mvK M k).length + 1 ≤ maxLen ∧ ((mvK M k).length + 1) * 16 ≤ 140737488355328 ∧ w.heap.size ≤ (wr.alloc (.cells #[.int .i64 M[k].2.pl, .int .i64 (ofK M k : Int)] 91)).heap.size) := ⟨hb1, hb2, hb3⟩
      clear q2 d1 df hls hom hb1 hb2 hb3 hml2
      generalize M[k].2.pl = pl at *
      generalize M[k].2.lits.length = zl at *
      generalize hMK : (mvK M k).length = MK at *
      generalize hOK : ofK M k = OK at *
      have HMK : Hid ((mvK M k).length = MK) := hMK
      clear hMK hOK
      go_wp2_with (at_builtin; refine wpList_append_own _ rfl _ _ 72 rfl w.heap.size 91 iV (.agg #[.int .i64 0, .int .i64 0]) 2 16 Try.underlying72 hiV hV0 hV1 hV2 rfl (by decide) (.slice ma MK mc) MK (rowsV (mvK M k)) rfl (World.ownsRow.alloc (mr_of4 HS.out HMK.out) _) ⟨wr.heap.size, 0, none⟩ 1 1 [.int .i64 pl, .int .i64 (OK : Int)] rfl rfl (cell_two_new4 _ _ _ _) (by simp [Value.oneCell']) HB.out.1 HB.out.2.1 HB.out.2.2 ?_; intro v5 w5 own5 gr5 hn5; obtain ⟨a5, c5, hv5⟩ := row_form2 own5; subst hv5; have h9 := HMore.out w5 _ own5 gr5; have H9 : Hid (Sk4 B w (w5.setCell ⟨g, k * 4, none⟩ (.int .i64 (OK : Int))) (.slice (some ⟨g, 0, none⟩) M.length c) (.slice a5 (MK + 1) c5) M (k + 1)) := h9.1; have y0 := h9.2.1; have y1 := h9.2.2.1; have y2 := h9.2.2.2.1; have y3 := h9.2.2.2.2; clear own5 gr5 hn5 h9)
      go_roundg (gk - 1)
      case measure => have := HK.out; have := HLT.out; omega
      case rel => exact ⟨k + 1, a5, c5, by have := HK.out; have := HLT.out; omega, by go_num, by rw [HOm.out]; go_num, by rw [HMl.out.2, HMl.out.1], by show Sk4 _ _ _ _ _ _ _; rw [HMl.out.2]; have h5 := H9.out; rw [HMl.out.1] at h5; exact h5⟩
    · obtain rfl : k = M.length := by have := HK.out; omega
      have x0 := (HBx.out wr HS.out.bel).1
      have x1 := (HBx.out wr HS.out.bel).2
      have HF := (show Hid _ from HFin.out wr _ _ HS.out)
      clear hlt
      go_wp2
      go_ret
      exact HF.out
end Go.Proofs.Ytnglgcipjbpgoaa
