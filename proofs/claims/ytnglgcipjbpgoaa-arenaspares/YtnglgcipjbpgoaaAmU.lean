/-
  depotref04: Live, Lead, walked.
  KEEP: set on app at below new trans refl start ap kept rd rds mono own row cells lt box lo ml ms c0 f0 form max find eq ma some none
-/
import Derived.Test.YtnglgcipjbpgoaaAmT
set_option linter.unusedSimpArgs false
set_option linter.unusedVariables false
namespace Go.Proofs.Ytnglgcipjbpgoaa
open Go Go.RowKit

def lvM (L : List Mt) : List Mt := L.filter (·.2.live)
theorem lvM_take (L : List Mt) (k : Nat) (h : k < L.length) : lvM (L.take (k + 1)) = lvM (L.take k) ++ (if L[k].2.live then [L[k]] else []) := by
  unfold lvM
  rw [List.take_succ_eq_append_getElem h, List.filter_append]
  cases hl : L[k].2.live <;> simp [hl]
theorem lvM_len (L : List Mt) (k : Nat) : (lvM (L.take k)).length ≤ k := by
  unfold lvM
  exact Nat.le_trans (List.length_filter_le _ _) (by rw [List.length_take]; omega)
theorem lvM_snd (L : List Mt) : (lvM L).map Prod.snd = live4 (L.map Prod.snd) := by
  unfold lvM live4
  rw [List.filter_map]; rfl
theorem lvM_mem {L : List Mt} {x : Mt} (h : x ∈ lvM L) : x ∈ L := (List.mem_filter.1 h).1
/-- what Live answers: the live clauses' row, new -/
def Lv4 (w : World) (L : List Mt) (e : Ending) (w' : World) : Prop := ∃ a c, e = .returned (.slice a (lvM L).length c) ∧ w'.ownsRow w.heap.size 46 4 (.slice a (lvM L).length c) (lvM L).length (rowsM (lvM L)) ∧ Below w.heap.size w w'
theorem lv4_more {w wr w5 : World} {M : List Mt} {x : Mt} {v5 lv : Value} {p : Int} {u : Value} {a b : Bool} (hx : x = (u, ⟨p, x.2.lits, a, b⟩)) (hb : Below w.heap.size w wr) (hr : wr.ownsRow w.heap.size 46 4 lv M.length (rowsM M))
    (own5 : w5.ownsRow w.heap.size 46 4 v5 (M.length + 1) (rowsM M ++ [.int .i64 p, u, .bool a, .bool b])) (gr5 : (wr.alloc (.cells #[.int .i64 p, u, .bool a, .bool b] 46)).grownBy w5 lv.ownBlock) : w5.ownsRow w.heap.size 46 4 v5 (M ++ [x]).length (rowsM (M ++ [x])) ∧ Below w.heap.size w w5 := by
  have hs := hb.size
  refine ⟨?_, (hb.alloc hs _).grown gr5 (by simp; omega) (fun j hj => (World.ownsRow.lt hr j hj).1)⟩
  rw [rowsM_app, List.length_append, hx]
  exact own5
set_option maxRecDepth 100000 in
set_option maxHeartbeats 1600000 in
theorem mLive_any (B m : Nat) (rv : Value) (L : List Mt) (w : World) (h : Ma4 B w m rv L) (hL : L.length ≤ 1099511627776) :
    Calls Try.prog 10 #[.pointer (some ⟨m, 0, none⟩)] w fun e w' => Lv4 w L e w' := by
  obtain ⟨iK, hiK, hK0, hK1, hK2⟩ := info_parts infoM4
  have HM : Hid (∀ W, Below w.heap.size w W → Ma4 B W m rv L) := fun W hW => h.below hW
  obtain ⟨ra, rc, hrv⟩ := h.ml.form
  subst hrv
  clear h
  go_enter Try.func10, Try.ntmps10
  go_wp2
  go_loopg [3, 4] L.length (fun q o' i' wr => ∃ (k : Nat) (a : Option Addr) (c : Nat), k + q = L.length ∧ i' = .int .i64 k ∧ o' = .slice a (lvM (L.take k)).length c ∧ Hid (wr.ownsRow w.heap.size 46 4 (.slice a (lvM (L.take k)).length c) (lvM (L.take k)).length (rowsM (lvM (L.take k))) ∧ Below w.heap.size w wr))
  case atStart => exact ⟨0, none, 0, by omega, rfl, rfl, World.ownsRow_nil _ _ _ _, Below.refl _ _⟩
  case round =>
    obtain ⟨k, a, c, hk, rfl, rfl, HO⟩ := hrel
    have HK : Hid (k + gk = L.length) := hk
    have hma := HM.out wr HO.out.2
    have c0 := hma.c0
    have hll := lvM_len L k
    clear hk
    by_cases hlt : k < L.length
    · obtain ⟨g, cap, erv, hnc, hcm, hBg, hgl, d0, d1, d2, d3, df⟩ := hma.ml.cells hlt
      injection erv with q1 q2 q3
      subst q1; subst q3
      obtain ⟨la, lc, hls⟩ := own_form (hma.ml.own _ (List.getElem_mem hlt))
      have hlt2 := lvM_take L k hlt
      have HLT : Hid (k < L.length) := hlt
      obtain ⟨x, hx⟩ : ∃ x, L[k] = x := ⟨_, rfl⟩
      have hls : x.1 = .slice la x.2.lits.length lc := by subst hx; exact hls
      have d0' := d0.trans (congrArg (fun y : Mt => some (Value.int .i64 y.2.pl)) hx)
      have d1' := (d1.trans (congrArg (fun y : Mt => some y.1) hx)).trans (congrArg some hls)
      have d2' := d2.trans (congrArg (fun y : Mt => some (Value.bool y.2.learnt)) hx)
      have d3' := d3.trans (congrArg (fun y : Mt => some (Value.bool y.2.live)) hx)
      have hlt3 : lvM (L.take (k + 1)) = lvM (L.take k) ++ (if x.2.live then [x] else []) := by subst hx; exact hlt2
      have hxe : x = (.slice la x.2.lits.length lc, ⟨x.2.pl, x.2.lits, x.2.learnt, x.2.live⟩) := Prod.ext hls rfl
      clear q2 d0 d1 d2 d3 df hlt2 hx hls hma
      cases hv : x.2.live
      · rw [hv] at d3'
        have HE : Hid (lvM (L.take (k + 1)) = lvM (L.take k)) := by show _ = _; rw [hlt3, hv]; simp
        clear hlt3 hv hxe d1' d2' d0'
        go_wp2
        go_roundg (gk - 1)
        case measure => have := HK.out; have := HLT.out; omega
        case rel => exact ⟨k + 1, a, c, by have := HK.out; have := HLT.out; omega, by go_num, by rw [HE.out], by show _ ∧ _; rw [HE.out]; exact HO.out⟩
      · rw [hv] at d3' hxe
        have HE : Hid (lvM (L.take (k + 1)) = lvM (L.take k) ++ [x]) := by show _ = _; rw [hlt3, hv]; simp
        have HXe : Hid (x = (.slice la x.2.lits.length lc, ⟨x.2.pl, x.2.lits, x.2.learnt, true⟩)) := hxe
        clear hlt3 hv hxe
        have hszr : w.heap.size ≤ wr.heap.size := HO.out.2.size
        generalize x.2.pl = xp at *
        generalize hzl : x.2.lits.length = zl at *
        generalize x.2.learnt = xr at *
        generalize hML : (lvM (L.take k)).length = ML at *
        have hb1 : ML + 1 ≤ maxLen := by unfold maxLen; omega
        have hb2 : (ML + 1) * 40 ≤ 140737488355328 := by omega
        have hb3 : w.heap.size ≤ (wr.alloc (.cells #[.int .i64 xp, .slice la zl lc, .bool xr, .bool true] 46)).heap.size := by rw [World.size_alloc]; omega
        have HB123 := (show Hid _ from And.intro hb1 (And.intro hb2 hb3))
        clear hb1 hb2 hb3
        go_wp2_with (at_builtin; refine wpList_append_own _ rfl _ _ 39 rfl w.heap.size 46 iK (.agg #[.int .i64 0, .slice none 0 0, .bool false, .bool false]) 4 40 Try.underlying39 hiK hK0 hK1 hK2 rfl (by decide) (.slice a ML c) ML (rowsM (lvM (L.take k))) rfl (World.ownsRow.alloc HO.out.1 _) ⟨wr.heap.size, 0, none⟩ 1 1 [.int .i64 xp, .slice la zl lc, .bool xr, .bool true] rfl rfl (cell_four_new4 _ _ _ _ _ _) (by simp [Value.oneCell']) HB123.out.1 HB123.out.2.1 HB123.out.2.2 ?_; intro v5 w5 own5 gr5 hn5; obtain ⟨a5, c5, hv5⟩ := row_form4 own5; subst hv5; have HO5 : Hid (w5.ownsRow w.heap.size 46 4 (.slice a5 (ML + 1) c5) (lvM (L.take k) ++ [x]).length (rowsM (lvM (L.take k) ++ [x])) ∧ Below w.heap.size w w5) := lv4_more (M := lvM (L.take k)) HXe.out HO.out.2 (by rw [hML]; exact HO.out.1) (by rw [hML]; exact own5) gr5; clear own5 gr5 hn5)
        go_roundg (gk - 1)
        case measure => have := HK.out; have := HLT.out; omega
        case rel => exact ⟨k + 1, a5, c5, by have := HK.out; have := HLT.out; omega, by go_num, by rw [HE.out, List.length_append, hML]; rfl, by show _ ∧ _; rw [HE.out]; have h5 := HO5.out; rw [show (lvM (L.take k) ++ [x]).length = ML + 1 by rw [List.length_append, hML]; rfl] at h5 ⊢; exact h5⟩
    · obtain rfl : k = L.length := by have := HK.out; omega
      have HF : Hid (Lv4 w L (.returned (.slice a (lvM (L.take L.length)).length c)) wr) := by
        have h5 := HO.out
        rw [List.take_length] at h5 ⊢
        exact ⟨a, c, rfl, h5.1, h5.2⟩
      clear hlt
      go_wp2
      go_ret
      exact HF.out
end Go.Proofs.Ytnglgcipjbpgoaa
