/-
  copied of the stanzas' laws, walked: the same stanzas in new memory.
  KEEP: len below nil form rd mono rdz on app start at new trans refl kept own row ap out step each grown block Ap
-/
import Derived.Test.YtblkhkfjaggnfaaDoorApF
set_option linter.unusedSimpArgs false
set_option linter.unusedVariables false
namespace Go.Proofs.YtblkhkfjaggnfaaDoor
open Go Go.RowKit

/-- one more stanza behind those that are copied -/
theorem OwnSt.more {B : Nat} {W w1 w8 : World} {v u s8 : Value} {L : List SG} {ln : Int} {fs : List Fld} {o : Obj} (h : OwnSt B W v L) (hB : B ≤ W.heap.size) (hu : OwnG W.heap.size w1 u fs) (hb : Below W.heap.size W w1)
    (own8 : w8.ownsRow B 35 2 s8 (L.length + 1) (sgC L ++ [.int .i64 ln, u])) (ap8 : Ap (w1.alloc o) v w8 s8) :
    OwnSt B w8 s8 (L ++ [(ln, u, fs)]) ∧ Below B W w8 ∧ ∃ a8 c8, s8 = .slice a8 (L.length + 1) c8 := by
  have hsz : W.heap.size ≤ w1.heap.size := hb.size
  have hsn : (w1.alloc o).heap.size = w1.heap.size + 1 := by simp
  have tyv : ∀ g, v.ownBlock = some g → ∃ cs f, W.heap[g]? = some (.cells cs 35 f) := fun g e => row_ty21 h.row e
  have old : ∀ k, k < W.heap.size → some k ≠ v.ownBlock → w8.heap[k]? = W.heap[k]? := fun k hk hn =>
    (ap8.grown.block k (by rw [hsn]; omega) hn).trans ((Below.heap_alloc w1 o k (by omega)).trans (hb.block k hk))
  have mid : ∀ k, k < w1.heap.size → some k ≠ v.ownBlock → w8.heap[k]? = w1.heap[k]? := fun k hk hn =>
    (ap8.grown.block k (by rw [hsn]; omega) hn).trans (Below.heap_alloc w1 o k hk)
  have vlt : ∀ g, v.ownBlock = some g → B ≤ g ∧ g < W.heap.size := fun g e => World.ownsRow.lt h.row g e
  refine ⟨⟨?_, fun x hx => ?_, ?_⟩, ⟨?_, ?_, ?_, ?_, fun k hk => ?_⟩, ?_⟩
  · rw [sgC_snoc, List.length_append]; exact own8
  · rcases List.mem_append.1 hx with hx | hx
    · refine row_kept21 (h.own x hx) fun k e => old k ((h.own x hx).own k e).2 fun e2 => ?_
      exact absurd (ty_apart21 (tyv k e2.symm) (row_ty21 (h.own x hx) e)) (by decide)
    · obtain rfl := List.mem_singleton.1 hx
      refine row_mono (row_kept21 hu fun k e => mid k (hu.own k e).2 fun e2 => ?_) hB
      have h1 := (vlt k e2.symm).2
      have h2 := (hu.own k e).1
      omega
  · refine List.pairwise_append.2 ⟨h.ap, List.pairwise_singleton _ _, fun x hx y hy => ?_⟩
    obtain rfl := List.mem_singleton.1 hy
    intro g e e2
    have h1 := ((h.own x hx).own g e).2
    have h2 := (hu.own g e2).1
    omega
  · exact ap8.grown.os.trans hb.os
  · exact ap8.grown.tape.trans hb.tape
  · exact ap8.grown.output.trans hb.output
  · have := ap8.grown.size; rw [hsn] at this; omega
  · refine old k (by omega) fun e => ?_
    have := (vlt k e.symm).1
    omega
  · rcases own8.2 with ⟨e, hn⟩ | ⟨g, cap, cur, e, _⟩
    · omega
    · exact ⟨_, _, e⟩
theorem sgS_len (L : List SG) : (sgS L).length = L.length := by simp [sgS]
theorem stz_take {l : List Stz} {k : Nat} (h : k < l.length) : l.take (k + 1) = l.take k ++ [l.getD k (0, [])] := by
  rw [List.take_add_one]
  simp [List.getD_eq_getElem?_getD, h]

/-- a stanza's box, its fields copied into it -/
def CoF (wr wx : World) (D : Nat) (ln : Int) (fs : List Fld) : Prop :=
  ∃ a c, Bz wx D ln (.slice a fs.length c) ∧ OwnG wr.heap.size wx (.slice a fs.length c) fs ∧ Below wr.heap.size wr wx
set_option maxHeartbeats 3200000 in
set_option maxRecDepth 100000 in
theorem copied21 (v : Value) (l : List Stz) (w : World) (hr : RdSt w v l) :
    Calls Tryd.prog 12 #[v] w fun e w' => ∃ v' L, e = .returned v' ∧ OwnSt w.heap.size w' v' L ∧ sgS L = l ∧ Below w.heap.size w w' := by
  have hlen := hr.len
  have HR : Hid (RdSt w v l) := hr
  obtain ⟨a, c, rfl, hc, hm, -⟩ := hr.form
  clear hr
  obtain ⟨i0, hi, hz0, hz1, hz2⟩ := info_parts infoZt
  have HIn : Hid (Tryd.prog.info? 35 = some i0 ∧ i0.zero = some (.agg #[.int .i64 0, .slice none 0 0]) ∧ i0.size = 2 ∧ i0.bytes = 32) := ⟨hi, hz0, hz1, hz2⟩
  clear hi hz0 hz1 hz2
  go_enter Tryd.func12, Tryd.ntmps12
  go_wp2
  go_loopg [3, 4, 5] l.length (fun g o i x5 wr => ∃ (k : Nat) (L : List SG) (a3 : Option Addr) (c3 : Nat), k + g = l.length ∧ i = .int .i64 k ∧ o = .slice a3 L.length c3 ∧ L.length = k ∧ Hid (OwnSt w.heap.size wr (.slice a3 L.length c3) L) ∧ Hid (sgS L = l.take k) ∧ Hid (Below w.heap.size w wr))
  case atStart => exact ⟨0, [], none, 0, by omega, rfl, rfl, rfl, OwnSt.nil _ _, rfl, Below.refl _ _⟩
  case round =>
    obtain ⟨k, L, a3, c3, hk, rfl, rfl, hLk, HS, HL, HB⟩ := hrel
    have HG : Hid (k + gk = l.length) := hk
    have HLk : Hid (L.length = k) := hLk
    by_cases hlt : k < l.length
    · obtain ⟨a', c', e', -, -, hcell⟩ := (HR.out.below HB.out).form
      have e3 : a' = a ∧ c' = c := by injection e' with q1 q2 q3; exact ⟨q1.symm, q3.symm⟩
      obtain ⟨rfl, rfl⟩ := e3
      obtain ⟨b, off, u, rfl, hbl, hc0, hc1, hru⟩ := hcell k hlt
      have HT : Hid (l.take (k + 1) = l.take k ++ [l.getD k (0, [])]) := stz_take hlt
      generalize l.getD k (0, []) = st at *
      obtain ⟨ln, fs⟩ := st
      have hru : RdG wr u fs := hru
      have HRu : Hid (RdG wr u fs) := hru
      obtain ⟨au, cu, rfl, -⟩ := hru.form
      have hfl := hru.len
      simp only at hc0 hc1
      clear e' hcell hru hk hLk
      have HZa : Hid (Bz (wr.alloc (.cells #[.int .i64 ln, .slice none 0 0] 35)) wr.heap.size ln (.slice none 0 0)) := Bz.mk1 _ _ _ _ rfl
      have HBa : Hid (Below wr.heap.size wr (wr.alloc (.cells #[.int .i64 ln, .slice none 0 0] 35))) := Below.alloc (Below.refl _ _) (Nat.le_refl _) _
      go_wp2_with fail
      have HRa : Hid (RdG (wr.alloc (.cells #[.int .i64 ln, .slice none 0 0] 35)) (.slice au fs.length cu) fs) := HRu.out.below HBa.out
      have z0 := HZa.out.c0
      have z1 := HZa.out.c1
      have y1 := (HBa.out.cell (p := ⟨b, off + k * 2 + 1, none⟩) hbl).trans hc1
      have hDn : wr.heap.size < (wr.alloc (.cells #[.int .i64 ln, .slice none 0 0] 35)).heap.size := HZa.out.lt
      clear hc0 hc1 hru HRu hbl
      obtain ⟨D, hD⟩ : ∃ D, D = wr.heap.size := ⟨_, rfl⟩
      have HD : Hid (D = wr.heap.size) := hD
      have HSz : Hid (w.heap.size ≤ wr.heap.size) := HB.out.size
      generalize wr.alloc (.cells #[.int .i64 ln, .slice none 0 0] 35) = wa at *
      rw [← hD] at HZa hDn z0 z1 ⊢
      clear hD
      have HRd : Hid (RdG wa.drew (.slice au fs.length cu) fs) := HRa.out.below (Below.refl _ _).drew
      have HCo : Hid (∀ a' c' w', OwnG wa.drew.heap.size w' (.slice a' fs.length c') fs → Below wa.drew.heap.size wa.drew w' → Bz w' D ln (.slice none 0 0) ∧ CoF wr (w'.setCell ⟨D, 1, none⟩ (.slice a' fs.length c')) D ln fs) := fun a' c' w' o b => by
        have b1 : Below wa.heap.size wa w' := ((Below.refl wa.heap.size wa).drew).trans b
        have o1 : OwnG wa.heap.size w' (.slice a' fs.length c') fs := o
        have z := HZa.out.blw b1 hDn
        refine ⟨z, a', c', z.s1 _, row_mono (row_kept21 o1 fun g e => Below.heap_setCell _ _ _ _ (by have := (o1.own g e).1; show g ≠ D; omega)) (by have := HD.out; omega), (HBa.out.trans (b1.mono HBa.out.size)).setCell (by show wr.heap.size ≤ D; rw [HD.out]; exact Nat.le_refl _) _⟩
      go_cut [] from 18 to 27 (fun wx => CoF wr wx D ln fs)
      case first =>
        go_region_law (refine step_append_f rfl (.tmp 19) (.tmp 24) rfl (by simp [Act.eval, Act.put]) (.slice au fs.length cu) fs (by simp [Act.eval, Act.put]) HRd.out ?_; intro a5 c5 w5 own5 bel5; obtain ⟨q, q5⟩ := HCo.out a5 c5 w5 own5 bel5; have HQ5 : Hid (CoF wr (w5.setCell ⟨D, 1, none⟩ (.slice a5 fs.length c5)) D ln fs) := q5; have q0 := q.c0; have q1 := q.c1; have q2 := q.fz 1; clear own5 bel5 q q5)
        all_goals
          go_wp2_with fail
          go_meet
          exact HQ5.out
      case rest =>
        obtain ⟨a5, c5, hz6, ho6, hb6⟩ := hcut
        have HZ6 : Hid (Bz wc D ln (.slice a5 fs.length c5)) := hz6
        have HO6 : Hid (OwnG wr.heap.size wc (.slice a5 fs.length c5) fs) := ho6
        have HB6 : Hid (Below wr.heap.size wr wc) := hb6
        have e0 := hz6.c0
        have e1 := hz6.c1
        have hsc : w.heap.size ≤ wc.heap.size := Nat.le_trans HSz.out hb6.size
        have hLl : (L.length + 1) * 32 ≤ 140737488355328 := by have := HLk.out; have := HG.out; omega
        have hLm : L.length + 1 ≤ maxLen := by unfold maxLen; omega
        have HRow : Hid ((wc.alloc (.cells #[.int .i64 ln, .slice a5 fs.length c5] 35)).ownsRow w.heap.size 35 2 (.slice a3 L.length c3) L.length (sgC L)) := World.ownsRow.alloc (World.ownsRow.kept HS.out.row (grown_below hb6) (one_or _)) _
        have HNw : Hid (∀ j u, [Value.int .i64 ln, Value.slice a5 fs.length c5][j]? = some u → (wc.alloc (.cells #[.int .i64 ln, .slice a5 fs.length c5] 35)).cell? ((⟨wc.heap.size, 0, none⟩ : Addr).add j) = some u) := two_new21 _ _ _ _
        have HDn : Hid (∀ s8 w8, w8.ownsRow w.heap.size 35 2 s8 (L.length + 1) (sgC L ++ [.int .i64 ln, .slice a5 fs.length c5]) → Ap (wc.alloc (.cells #[.int .i64 ln, .slice a5 fs.length c5] 35)) (.slice a3 L.length c3) w8 s8 → OwnSt w.heap.size w8 s8 (L ++ [(ln, .slice a5 fs.length c5, fs)]) ∧ Below w.heap.size wr w8 ∧ ∃ a8 c8, s8 = .slice a8 (L.length + 1) c8) := fun s8 w8 o8 p8 => OwnSt.more HS.out HSz.out HO6.out HB6.out o8 p8
        clear hz6 ho6 hb6 HCo HRd HRa HZa HBa z0 z1 y1 hDn HR hfl
        go_wp2_with (at_builtin; refine wpList_append_apk rfl (.tmp 27) (.tmp 29) 23 rfl w.heap.size 35 i0 (.agg #[.int .i64 0, .slice none 0 0]) 2 32 Tryd.underlying23 HIn.out.1 HIn.out.2.1 HIn.out.2.2.1 HIn.out.2.2.2 rfl (by decide) (.slice a3 L.length c3) L.length (sgC L) rfl HRow.out ⟨wc.heap.size, 0, none⟩ 1 1 [.int .i64 ln, .slice a5 fs.length c5] rfl rfl HNw.out (by simp [Value.oneCell']) hLm hLl (by simp; omega) ?_; intro v8 w8 own8 ap8; obtain ⟨t8, b8, a8, c8, rfl⟩ := HDn.out v8 w8 own8 ap8; have HT8 : Hid (OwnSt w.heap.size w8 (.slice a8 (L.length + 1) c8) (L ++ [(ln, .slice a5 fs.length c5, fs)]) ∧ Below w.heap.size wr w8) := ⟨t8, b8⟩; clear own8 ap8 t8 b8)
        all_goals
          go_roundg (gk - 1)
          case measure => have := HG.out; omega
          case rel => exact ⟨k + 1, L ++ [(ln, .slice a5 fs.length c5, fs)], a8, c8, by have := HG.out; omega, by go_num, by simp, by rw [List.length_append, HLk.out]; rfl, by rw [List.length_append]; exact HT8.out.1, by rw [sgS_snoc, HT.out, HL.out]; exact rfl, HB.out.trans (HT8.out.2.mono (Nat.le_refl _))⟩
    · obtain rfl : k = l.length := by omega
      have HF : Hid (sgS L = l) := by show _ = _; rw [HL.out, List.take_length]
      clear hk hLk HL
      go_wp2
      go_ret
      exact ⟨_, L, rfl, HS.out, HF.out, HB.out⟩

end Go.Proofs.YtblkhkfjaggnfaaDoor
