/-
  depotref04: Put, walked.
  KEEP: set on app at below new trans refl start ap kept rd rds mono own row cells lt box lo ml ms c0 f0 form max find eq ma some none
-/
import Derived.Test.YtnglgcipjbpgoaaAmR
import Derived.Maps.AppendAt
set_option linter.unusedSimpArgs false
set_option linter.unusedVariables false
namespace Go.Proofs.Ytnglgcipjbpgoaa
open Go Go.RowKit

theorem infoM4 : (Try.prog.info? 46).map (fun i => (i.zero, i.size, i.bytes)) = some (some (.agg #[.int .i64 0, .slice none 0 0, .bool false, .bool false]), 4, 40) := by kernel_rfl
theorem cell_four_new4 (w : World) (x0 x1 x2 x3 : Value) (t : TypeId) : ∀ j u, [x0, x1, x2, x3][j]? = some u → (w.alloc (.cells #[x0, x1, x2, x3] t)).cell? ((⟨w.heap.size, 0, none⟩ : Addr).add j) = some u := by
  intro j u hj
  have hh := World.alloc_heap_new w (.cells #[x0, x1, x2, x3] t)
  rw [Addr.add_lit]
  show (match (w.alloc (.cells #[x0, x1, x2, x3] t)).heap[w.heap.size]? with | some (Obj.cells c elem frozen) => c[0 + j]? | x => none) = _
  rw [hh, Nat.zero_add]
  match j, hj with
  | 0, hj => simpa using hj
  | 1, hj => simpa using hj
  | 2, hj => simpa using hj
  | 3, hj => simpa using hj
theorem set_heap4 {w : World} {g : Nat} {c : Array Value} {e : TypeId} {f : Nat × Nat} (h : w.heap[g]? = some (.cells c e f)) (k : Nat) (v : Value) : (w.setCell ⟨g, k, none⟩ v).heap[g]? = some (.cells (c.setIfInBounds k v) e f) := by
  obtain ⟨hlt, hk⟩ := Array.getElem?_eq_some_iff.1 h
  show (w.heap.modify g _)[g]? = _
  rw [Array.getElem?_eq_getElem (by rw [Array.size_modify]; exact hlt), Array.getElem_modify_self, hk]
  rfl
/-- what Put says -/
def Pt4 (B : Nat) (w : World) (m : Nat) (rv : Value) (L : List Mt) (S : List Seg) (c : List Int) (l : Bool) (e : Ending) (w' : World) : Prop :=
  e = .returned (.tuple #[.int .i64 (flat S).length, .int .i64 0]) ∧ ∃ rv' u, Mz4 B w' m rv' (L ++ [(u, ⟨(flat S).length, c, l, true⟩)]) (S ++ [⟨c, l, true⟩]) ∧ Mv w m rv w' rv' ∧ ∀ g, u.ownBlock = some g → w.heap.size ≤ g
theorem put4_fin {B m : Nat} {w w2 w3 w4 : World} {rv rv' u : Value} {L : List Mt} {S : List Seg} {c : List Int} {l : Bool} (h : Mz4 B w2 m rv L S) (hb : Below w.heap.size w w2) (ho : Own B w2 u c) (e3 : w3 = w2.alloc (.cells #[.int .i64 (flat S).length, u, .bool l, .bool true] 46))
    (own4 : w4.ownsRow B 46 4 rv' (L.length + 1) (rowsM L ++ [.int .i64 (flat S).length, u, .bool l, .bool true])) (gr4 : w3.grownBy w4 rv.ownBlock) (hat : rv'.ownBlock = rv.ownBlock ∨ rv'.ownBlock = some w3.heap.size) :
    Mz4 B (w4.setCell ⟨m, 0, none⟩ rv') m rv' (L ++ [(u, ⟨(flat S).length, c, l, true⟩)]) (S ++ [⟨c, l, true⟩]) ∧ Mv w m rv (w4.setCell ⟨m, 0, none⟩ rv') rv' ∧ w4.cell? ⟨m, 0, none⟩ = some rv ∧ w4.frozen? ⟨m, 0, none⟩ = false := by
  have hb3 : Below w2.heap.size w2 w3 := by rw [e3]; exact below_box _ _
  have h3 := h.below hb3
  have hne : some m ≠ rv.ownBlock := by
    intro q
    rcases h3.ma.ml.row.2 with ⟨e, _⟩ | ⟨g', cap', cur, e, _, hh, _⟩
    · rw [e] at q; cases q
    · rw [e] at q
      injection q with q
      subst q
      rw [h3.ma.box] at hh
      injection hh with hh
      injection hh with _ hh
      exact absurd hh (by decide)
  have hbx : w4.heap[m]? = some (.cells #[rv] 62 (0, 0)) := (gr4.block m h3.ma.lt hne).trans h3.ma.box
  have hset : (w4.setCell ⟨m, 0, none⟩ rv').heap[m]? = some (.cells #[rv'] 62 (0, 0)) := set_heap4 hbx 0 rv'
  have hg := grown_set w4 ⟨m, 0, none⟩ rv'
  have keepI : ∀ {x : Value} {z : List Int}, Own B w2 x z → Own B (w4.setCell ⟨m, 0, none⟩ rv') x z := fun {x z} hx => by
    have a1 := hx.below hb3
    have a2 := row_apart (by decide) a1 h3.ma.ml.row gr4
    refine World.ownsRow.kept a2 hg (.inr ?_)
    intro q
    rcases a2.2 with ⟨e, _⟩ | ⟨g', cap', cur, e, _, hh, _⟩
    · rw [e] at q; cases q
    · rw [e] at q
      simp [Value.ownBlock] at q
      subst q
      rw [hbx] at hh
      injection hh with hh
      injection hh with _ hh
      exact absurd hh (by decide)
  have own5 : (w4.setCell ⟨m, 0, none⟩ rv').ownsRow B 46 4 rv' (L.length + 1) (rowsM L ++ [.int .i64 (flat S).length, u, .bool l, .bool true]) := by
    refine World.ownsRow.kept own4 hg (.inr ?_)
    intro q
    rcases own4.2 with ⟨e, _⟩ | ⟨g', cap', cur, e, _, hh, _⟩
    · rw [e] at q; cases q
    · rw [e] at q
      simp [Value.ownBlock] at q
      subst q
      rw [hbx] at hh
      injection hh with hh
      injection hh with _ hh
      exact absurd hh (by decide)
  refine ⟨⟨⟨hset, ⟨?_, fun x hx => ?_⟩, h.ma.lo⟩, ?_⟩, ?_, by simp [World.cell?, hbx], by simp [World.frozen?, hbx]⟩
  · rw [rowsM_app, List.length_append]
    exact own5
  · rcases List.mem_append.1 hx with e | e
    · exact keepI (h.ma.ml.own x e)
    · rw [List.mem_singleton.1 e]; exact keepI ho
  · rw [List.map_append, h.eq, plc_app]
    simp [plc]
  · refine (Mv.below (b := m) (v := rv) (Below.step hb hb3)).trans (Mv.trans (v1 := rv') ⟨gr4.os, gr4.tape, gr4.output, gr4.size, fun k hk _ h2 => gr4.block k hk h2, ?_⟩ (Mv.set 0 rv'))
    rcases hat with q | q
    · exact .inl q
    · exact .inr fun g hg' => by rw [q] at hg'; injection hg' with hg'; omega
set_option maxRecDepth 100000 in
set_option maxHeartbeats 1600000 in
theorem mPut_any (B m : Nat) (rv vc : Value) (L : List Mt) (S : List Seg) (c : List Int) (l : Bool) (w : World) (h : Mz4 B w m rv L S) (hc : Rd w vc c) (hs : c.all fmd = true) (hl : (flat S).length ≤ 1099511627776) (hL : L.length ≤ 1099511627776) (hB : B ≤ w.heap.size) :
    Calls Try.prog 22 #[.pointer (some ⟨m, 0, none⟩), vc, .bool l] w fun e w' => Pt4 B w m rv L S c l e w' := by
  obtain ⟨iK, hiK, hK0, hK1, hK2⟩ := info_parts infoM4
  have hcl := hc.len
  have HM : Hid (∀ W, Below w.heap.size w W → Mz4 B W m rv L S) := fun W hW => h.below hW
  have HSd : Hid (Calls Try.prog 42 #[vc] w fun e w' => e = .returned (.bool true) ∧ w' = w) := by
    have h5 := rSound_any vc c w hc
    rw [hs] at h5
    exact h5
  have hmw : mwd (L.map Prod.snd) = (flat S).length := by rw [h.eq, mwd_flat]
  have HWd : Hid (Calls Try.prog 30 #[.pointer (some ⟨m, 0, none⟩)] w fun e w' => e = .returned (.int .i64 (flat S).length) ∧ w' = w) := by
    have h5 := mWords_any B m rv L w h.ma (by rw [hmw]; omega)
    rw [hmw] at h5
    exact h5
  have HR : Hid (Rd w vc c) := hc
  have HB : Hid (B ≤ w.heap.size) := hB
  obtain ⟨ra, rc, hrv⟩ := h.ma.ml.form
  subst hrv
  obtain ⟨ca, ck, rfl, hck, -, -⟩ := hc.form
  have hP : Hid (∀ X rv' u, Mz4 B X m rv' (L ++ [(u, ⟨(flat S).length, c, l, true⟩)]) (S ++ [⟨c, l, true⟩]) ∧ Mv w m (.slice ra L.length rc) X rv' ∧ (∀ g, u.ownBlock = some g → w.heap.size ≤ g) → Pt4 B w m (.slice ra L.length rc) L S c l (.returned (.tuple #[.int .i64 (flat S).length, .int .i64 0])) X) := fun X rv' u hh => ⟨rfl, rv', u, hh⟩
  clear h hc hs hB hmw
  generalize hFS : (flat S).length = fs at *
  go_enter Try.func22, Try.ntmps22
  go_wp2_with fail
  refine HSd.out.mono ?_
  rintro e w0 ⟨rfl, ew⟩
  have ew := ew.symm
  subst ew
  go_wp2_with fail
  refine HWd.out.mono ?_
  rintro e w0 ⟨rfl, ew⟩
  have ew := ew.symm
  subst ew
  have c0 := (HM.out w (Below.refl _ _)).ma.c0
  go_upto_region 6 with (at_builtin; refine wpList_app_rd rfl _ _ rfl w.heap.size (.slice none 0 0) (.slice ca c.length ck) [] c rfl rfl (World.ownsRow_nil _ _ _ _) HR.out (by simp; omega) (Nat.le_refl _) ?_; intro v8 w8 own8 ap8; obtain ⟨ua, uc, hu⟩ := own_form own8; subst hu; have HO8 : Hid (Own w.heap.size w8 (.slice ua ([] ++ c).length uc) ([] ++ c) ∧ Below w.heap.size w w8) := ⟨own8, get4_below ap8⟩; clear own8 ap8)
  simp only [List.nil_append] at HO8 ⊢
  have hm8 := HM.out w8 HO8.out.2
  have HM8 : Hid (Mz4 B w8 m (.slice ra L.length rc) L S) := hm8
  have x0 := hm8.ma.c0
  have x1 := (hm8.ma.below (below_box w8 (.cells #[.int .i64 (fs : Int), .slice ua c.length uc, .bool l, .bool true] 46))).c0
  have hs8 : w.heap.size ≤ w8.heap.size := HO8.out.2.size
  clear hm8 c0
  go_wp2_with (at_builtin; refine wpList_append_own_at _ rfl _ _ 39 rfl B 46 iK (.agg #[.int .i64 0, .slice none 0 0, .bool false, .bool false]) 4 40 Try.underlying39 hiK hK0 hK1 hK2 rfl (by decide) (.slice ra L.length rc) L.length (rowsM L) rfl (World.ownsRow.alloc HM8.out.ma.ml.row _) ⟨w8.heap.size, 0, none⟩ 1 1 [.int .i64 (fs : Int), .slice ua c.length uc, .bool l, .bool true] rfl rfl (cell_four_new4 _ _ _ _ _ _) (by simp [Value.oneCell']) (by unfold maxLen; omega) (by omega) (by have := HB.out; simp; omega) ?_; intro rv9 w9 own9 gr9 hn9 hat9; obtain ⟨ra9, rc9, hrv9⟩ := row_form4 own9; subst hrv9; have hf9 := put4_fin (c := c) (l := l) HM8.out HO8.out.2 (HO8.out.1.mono HB.out) rfl (by rw [hFS]; exact own9) (by rw [hFS]; exact gr9) (by rw [hFS]; exact hat9); have HF9 : Hid (∀ X, X = w9.setCell ⟨m, 0, none⟩ (.slice ra9 (L.length + 1) rc9) → Pt4 B w m (.slice ra L.length rc) L S c l (.returned (.tuple #[.int .i64 (fs : Int), .int .i64 0])) X) := (fun X eX => by subst eX; exact hP.out _ _ _ ⟨by have h5 := hf9.1; rw [hFS] at h5; exact h5, hf9.2.1, fun g hg => (World.ownsRow.lt HO8.out.1 g hg).1⟩); have y0 := hf9.2.2.1; have y1 := hf9.2.2.2; clear own9 gr9 hn9 hat9 hf9)
  go_returns
  exact HF9.out _ rfl
end Go.Proofs.Ytnglgcipjbpgoaa
