/-
  From a row's reading of relations to what they read, and how much they hold at most.
  KEEP: off c0 c1 c2 c3 c4 s0 s1 s2 s3 s4 newS rds lt f t q x len below nil form rd mono own row out
-/
import Derived.Test.YtmfcaoacklbkoaaDoorOpenS
import Derived.Test.YtmfcaoacklbkoaaDoorRlI
set_option linter.unusedVariables false
set_option linter.unusedSimpArgs false
namespace Go.Proofs.YtmfcaoacklbkoaaDoor
open Go Go.RowKit Go.ChangeShapes Go.WideShapes Go.Deep

def ElR (cs : List Value) (r : Rl) : Prop := cs = [.string r.1, .int .i64 r.2.1, .string r.2.2]
/-- how much relations hold -/
def relN (rs : List Rl) : Nat := rs.length + (rs.map (fun r => r.1.size + r.2.2.size)).sum
/-- how much lists of relations hold -/
def lstN22 (l : List (List Rl)) : Nat := l.length + (l.map relN).sum
theorem bytesR22 : Tryd.prog.bytesOf 34 = 40 := by kernel_rfl
theorem bytesRs22 : Tryd.prog.bytesOf 26 = 24 := by kernel_rfl
theorem szR_relN : ∀ rs : List Rl, szR rs ≤ 10 * relN rs
  | [] => Nat.le_refl _
  | r :: q => by
    have := szR_relN q
    unfold relN at this ⊢
    simp only [szR, List.length_cons, List.map_cons, List.sum_cons]
    omega
theorem szL_lstN : ∀ l : List (List Rl), szL l ≤ 12 * lstN22 l
  | [] => Nat.le_refl _
  | r :: q => by
    have := szL_lstN q
    have h2 := szR_relN r
    unfold lstN22 at this ⊢
    simp only [szL, List.length_cons, List.map_cons, List.sum_cons]
    omega
theorem relN_app (a b : List Rl) : relN (a ++ b) = relN a + relN b := by
  unfold relN
  simp only [List.length_append, List.map_append, List.sum_append]
  omega
theorem relN_flat : ∀ l : List (List Rl), relN l.flatten ≤ lstN22 l
  | [] => Nat.le_refl _
  | r :: q => by
    have := relN_flat q
    unfold lstN22 at this ⊢
    simp only [List.flatten_cons, List.length_cons, List.map_cons, List.sum_cons, relN_app]
    omega
theorem szL_one : ∀ rs : List Rl, szL (rs.map fun r => [r]) ≤ 12 * relN rs
  | [] => Nat.le_refl _
  | r :: q => by
    have := szL_one q
    unfold relN at this ⊢
    simp only [szL, szR, List.length_cons, List.map_cons, List.sum_cons]
    omega
theorem lst_b1 {l : List (List Rl)} {B : Nat} (h : lstN22 l ≤ 2 * B) (hB : B ≤ 1048576) : szL l ≤ 1099511627776 := by have := szL_lstN l; omega
theorem lst_b2 {l : List (List Rl)} {B : Nat} (h : lstN22 l ≤ 2 * B) (hB : B ≤ 1048576) : l.flatten.length * 40 ≤ 140737488355328 := by
  have := relN_flat l
  have h2 : l.flatten.length ≤ relN l.flatten := Nat.le_add_right _ _
  omega
theorem lst_b3 {l : List (List Rl)} {B : Nat} (h : lstN22 l ≤ 2 * B) (hB : B ≤ 1048576) : szL (l.flatten.map fun r => [r]) ≤ 1099511627776 := by
  have := relN_flat l
  have h2 := szL_one l.flatten
  omega
theorem trodS3r {H : Type} {enc : TypeId × Value → H} {P : Program} {w : World} {base : Nat} {spare : Nat → Bool} {held : Bool} {t : TypeId} {f0 f1 f2 : Field} {fuel : Nat} {cs : List Value} {x : DataW H × List MemPlace} (ht : P.underlying t = some (.struct #[f0, f1, f2])) (h : DataW.trod enc P w base spare held fuel t cs = some x) :
    ∃ y0 y1 y2 n, x.1 = .agg [y0.1, y1.1, y2.1] ∧ cs.length = P.cellsOf t ∧ DataW.trod enc P w base spare held n f0.type ((cs.drop f0.offset).take (P.cellsOf f0.type)) = some y0 ∧
      DataW.trod enc P w base spare held n f1.type ((cs.drop f1.offset).take (P.cellsOf f1.type)) = some y1 ∧ DataW.trod enc P w base spare held n f2.type ((cs.drop f2.offset).take (P.cellsOf f2.type)) = some y2 := by
  obtain ⟨xs, n, _, rfl, hl, hlen, hf⟩ := DataW.trod_struct ht h
  match xs, hlen with
  | [y0, y1, y2], _ => exact ⟨y0, y1, y2, n, by simp, hl, by simpa using hf 0 f0 rfl, by simpa using hf 1 f1 rfl, by simpa using hf 2 f2 rfl⟩
set_option maxRecDepth 100000 in
theorem lenR_of_trod {H : Type} {enc : TypeId × Value → H} {W : World} {T E : TypeId} (hT : Tryd.prog.underlying T = some (.slice E)) {fuel : Nat} {a : Option Addr} {len cap : Nat} {y : DataW H × List MemPlace}
    (h : DataW.trod enc Tryd.prog W 0 (fun _ => true) true fuel T [.slice a len cap] = some y) (hs : ∀ k ∈ y.1.weights Tryd.prog T, k ≤ reachBytes) : len * Tryd.prog.bytesOf E ≤ reachBytes := by
  rcases DataW.trod_slice hT h with ⟨hcs, rfl⟩ | ⟨a', len', cap', elems, rest, m, _, hcs, rfl, _, hl, hm, hlen, hcell, _, _⟩
  · simp at hcs
    rw [hcs.2.1]; simp
  · simp at hcs
    obtain ⟨_, rfl, rfl⟩ := hcs
    have := hs _ (by unfold DataW.weights; rw [hT]; exact List.mem_cons_self ..)
    rw [Nat.add_mul] at this
    have e : (elems.map (·.1)).length = len := by simp; omega
    rw [e] at this
    omega
set_option maxRecDepth 100000 in
theorem rel_of_trod {H : Type} {enc : TypeId × Value → H} {W : World} (m : Nat) (cs : List Value) (y : DataW H × List MemPlace) (h : DataW.trod enc Tryd.prog W 0 (fun _ => true) true m 34 cs = some y) : ∃ x : Rl, ElR cs x ∧ x.1.size + x.2.2.size + 1 ≤ Rows.uptoBulk y.1 := by
  obtain ⟨y0, y1, y2, n, hx, hl, h0, h1, h2⟩ := trodS3r Tryd.underlying34 h
  have hl2 : cs.length = 3 := hl.trans (by kernel_rfl)
  match cs, hl2 with
  | [c0, c1, c2], _ =>
    have h0' : DataW.trod enc Tryd.prog W 0 (fun _ => true) true n 9 [c0] = some y0 := h0
    have h1' : DataW.trod enc Tryd.prog W 0 (fun _ => true) true n 3 [c1] = some y1 := h1
    have h2' : DataW.trod enc Tryd.prog W 0 (fun _ => true) true n 9 [c2] = some y2 := h2
    obtain ⟨a, ha, e0, l0⟩ := DataW.trod_string Tryd.underlying9 h0'
    obtain ⟨o, ho, e1, l1⟩ := DataW.trod_int Tryd.underlying3 h1'
    obtain ⟨b, hb, e2, l2⟩ := DataW.trod_string Tryd.underlying9 h2'
    simp at ha ho hb
    subst ha ho hb
    refine ⟨(a, o, b), rfl, ?_⟩
    rw [hx, e0, e1, e2]
    simp only [Rows.uptoBulk, Rows.uptoBulkAll]
    have q0 : a.data.toList.length = a.size := size20 a
    have q2 : b.data.toList.length = b.size := size20 b
    omega
theorem rdR_of {W : World} {c : Value} {rs : List Rl} (h : RdS 3 ElR W c rs) (hl : rs.length * 40 ≤ 140737488351232) : RdR W c rs := by
  obtain ⟨a, cap, e, h1, h2, h3⟩ := h
  refine ⟨hl, a, cap, e, h1, h2, fun hne => ?_⟩
  have hp : 0 < rs.length := List.length_pos_iff.2 hne
  obtain ⟨b, off, cs, ea, hb, _, _, _⟩ := h3 0 hp
  refine ⟨b, off, ea, hb, fun j hj => ?_⟩
  obtain ⟨b', off', cs, ea', hb', hl', hc, rfl⟩ := h3 j hj
  rw [ea] at ea'
  injection ea' with ea'
  injection ea' with q1 q2 q3
  subst q1; subst q2
  have e0 : rs.getD j noRl = rs[j] := by simp [List.getD_eq_getElem?_getD, hj]
  rw [e0]
  have c0 := hc 0 (by omega)
  have c1 := hc 1 (by omega)
  have c2 := hc 2 (by omega)
  exact ⟨by simpa using c0, by simpa using c1, by simpa using c2⟩
set_option maxRecDepth 100000 in
/-- relations in a cell, and how much they hold at most -/
theorem rels_of_trod {H : Type} {enc : TypeId × Value → H} {W : World} {fuel : Nat} {c : Value} {y : DataW H × List MemPlace}
    (h : DataW.trod enc Tryd.prog W 0 (fun _ => true) true fuel 26 [c] = some y) (hs : ∀ n ∈ y.1.weights Tryd.prog 26, n ≤ reachBytes) : ∃ rs, RdR W c rs ∧ relN rs ≤ Rows.uptoBulk y.1 := by
  obtain ⟨rs, hr, hb⟩ := rows_of_trod Tryd.underlying26 (n := 3) (by kernel_rfl) (by omega) ElR (fun x => x.1.size + x.2.2.size) (fun m cs y h _ => rel_of_trod m cs y h) h hs
  have hr' := hr
  obtain ⟨a, cap, e, _⟩ := hr'
  have h2 := h
  rw [e] at h2
  have hl := lenR_of_trod Tryd.underlying26 h2 hs
  rw [bytesR22] at hl
  exact ⟨rs, rdR_of hr (by simpa [reachBytes] using hl), hb⟩
theorem bulk_pos22 {H : Type} (d : DataW H) : 1 ≤ Rows.uptoBulk d := by
  cases d with
  | lit l => cases l <;> simp [Rows.uptoBulk]
  | _ => simp [Rows.uptoBulk]
def ElRs (W : World) (cs : List Value) (x : List Rl) : Prop := ∃ u, cs = [u] ∧ RdR W u x
set_option maxRecDepth 100000 in
theorem relsE_of_trod {H : Type} {enc : TypeId × Value → H} {W : World} (m : Nat) (cs : List Value) (y : DataW H × List MemPlace) (h : DataW.trod enc Tryd.prog W 0 (fun _ => true) true m 26 cs = some y)
    (hs : ∀ k ∈ y.1.weights Tryd.prog 26, k ≤ reachBytes) : ∃ x : List Rl, ElRs W cs x ∧ (relN x - 1) + 1 ≤ Rows.uptoBulk y.1 := by
  have hc : ∃ c, cs = [c] := by
    rcases DataW.trod_slice Tryd.underlying26 h with ⟨hcs, _⟩ | ⟨a', len', cap', elems, rest, m, _, hcs, _⟩
    · exact ⟨_, hcs⟩
    · exact ⟨_, hcs⟩
  obtain ⟨c, rfl⟩ := hc
  obtain ⟨rs, hr, hb⟩ := rels_of_trod h hs
  have hpos := bulk_pos22 y.1
  exact ⟨rs, ⟨c, rfl, hr⟩, by omega⟩
theorem rdRs_of {W : World} {c : Value} {l : List (List Rl)} (h : RdS 1 (ElRs W) W c l) (hl : l.length * 24 ≤ 140737488351232) : RdRs W c l := by
  obtain ⟨a, cap, e, h1, h2, h3⟩ := h
  refine ⟨hl, a, cap, e, h1, h2, fun hne => ?_⟩
  have hp : 0 < l.length := List.length_pos_iff.2 hne
  obtain ⟨b, off, cs, ea, hb, _, _, _⟩ := h3 0 hp
  refine ⟨b, off, ea, hb, fun j hj => ?_⟩
  obtain ⟨b', off', cs, ea', hb', hl', hc, u, rfl, hr⟩ := h3 j hj
  rw [ea] at ea'
  injection ea' with ea'
  injection ea' with q1 q2 q3
  subst q1; subst q2
  have e0 : l.getD j [] = l[j] := by simp [List.getD_eq_getElem?_getD, hj]
  rw [e0]
  have c0 := hc 0 (by omega)
  exact ⟨u, by simpa using c0, hr⟩
theorem sum_pred22 : ∀ l : List (List Rl), lstN22 l ≤ 2 * (l.length + (l.map (fun x => relN x - 1)).sum)
  | [] => Nat.le_refl _
  | x :: q => by
    have := sum_pred22 q
    unfold lstN22 at this ⊢
    simp only [List.length_cons, List.map_cons, List.sum_cons]
    omega
set_option maxRecDepth 100000 in
/-- lists of relations, and how much they hold at most -/
theorem lists22_open {H : Type} {enc : TypeId × Value → H} {W : World} {r : Reach} {b0 : Nat} {v : Value} {d : DataW H} {p : List MemPlace} (hv : Value.okWide Tryd.prog W r b0 22 v)
    (h : DataW.Trod enc Tryd.prog W 0 (fun _ => true) true 22 v d p) (hs : ∀ n ∈ d.weights Tryd.prog 22, n ≤ reachBytes) :
    ∃ l, RdRs W v l ∧ lstN22 l ≤ 2 * Rows.uptoBulk d := by
  obtain ⟨a, n, c, rfl⟩ := okWide_slice Tryd.underlying22 hv
  obtain ⟨fuel, hf⟩ := h
  have hf' : DataW.trod enc Tryd.prog W 0 (fun _ => true) true fuel 22 [.slice a n c] = some (d, p) := by simpa [Value.cells] using hf
  have hl := lenR_of_trod Tryd.underlying22 hf' hs
  rw [bytesRs22] at hl
  obtain ⟨l, hr, hb⟩ := rows_of_trod Tryd.underlying22 (n := 1) (by kernel_rfl) (by omega) (ElRs W) (fun x => relN x - 1) relsE_of_trod hf' hs
  have hn : n = l.length := by
    obtain ⟨a', c', e, _⟩ := hr
    injection e
  have := sum_pred22 l
  refine ⟨l, rdRs_of hr ?_, by simp only at hb; omega⟩
  rw [← hn]
  simpa [reachBytes] using hl
set_option maxRecDepth 100000 in
/-- one relation by value -/
theorem rel_open {H : Type} {enc : TypeId × Value → H} {W : World} {r : Reach} {b0 : Nat} {v : Value} {d : DataW H} {p : List MemPlace} (hv : Value.okWide Tryd.prog W r b0 34 v)
    (h : DataW.Trod enc Tryd.prog W 0 (fun _ => true) true 34 v d p) :
    ∃ (n : ByteArray) (o : Int) (u : ByteArray), v = .agg #[.string n, .int .i64 o, .string u] ∧ n.size + u.size ≤ Rows.uptoBulk d := by
  obtain ⟨cs, rfl, hsz⟩ := okWide_struct Tryd.underlying34 hv
  obtain ⟨fuel, hf⟩ := h
  have hf' : DataW.trod enc Tryd.prog W 0 (fun _ => true) true fuel 34 cs.toList = some (d, p) := by simpa [Value.cells] using hf
  obtain ⟨x, e, hb⟩ := rel_of_trod fuel _ _ hf'
  refine ⟨x.1, x.2.1, x.2.2, ?_, by simp only at hb ⊢; omega⟩
  rw [show cs = #[.string x.1, .int .i64 x.2.1, .string x.2.2] from Array.toList_inj.1 e]
set_option maxRecDepth 100000 in
/-- one relation by value, however long its texts are -/
theorem rel_openF {H : Type} {enc : TypeId × Value → H} {W : World} {r : Reach} {b0 : Nat} {v : Value} {d : DataW H} {p : List MemPlace} (hv : Value.okWide Tryd.prog W r b0 34 v)
    (h : DataW.Trod enc Tryd.prog W 0 (fun _ => true) true 34 v d p) (hs : ∀ n ∈ d.weights Tryd.prog 34, n ≤ reachBytes) :
    ∃ (n : ByteArray) (o : Int) (u : ByteArray), v = .agg #[.string n, .int .i64 o, .string u] ∧ n.size ≤ 281474976710656 ∧ u.size ≤ 281474976710656 := by
  obtain ⟨cs, rfl, hsz⟩ := okWide_struct Tryd.underlying34 hv
  obtain ⟨fuel, hf⟩ := h
  have hf' : DataW.trod enc Tryd.prog W 0 (fun _ => true) true fuel 34 cs.toList = some (d, p) := by simpa [Value.cells] using hf
  obtain ⟨y0, y1, y2, n, hx, hl, h0, h1, h2⟩ := trodS3r Tryd.underlying34 hf'
  simp only at hx
  have hl2 : cs.toList.length = 3 := hl.trans (by kernel_rfl)
  match hc : cs.toList, hl2 with
  | [c0, c1, c2], _ =>
    rw [hc] at h0 h1 h2
    have h0' : DataW.trod enc Tryd.prog W 0 (fun _ => true) true n 9 [c0] = some y0 := h0
    have h1' : DataW.trod enc Tryd.prog W 0 (fun _ => true) true n 3 [c1] = some y1 := h1
    have h2' : DataW.trod enc Tryd.prog W 0 (fun _ => true) true n 9 [c2] = some y2 := h2
    obtain ⟨a, ha, e0, l0⟩ := DataW.trod_string Tryd.underlying9 h0'
    obtain ⟨o, ho, e1, l1⟩ := DataW.trod_int Tryd.underlying3 h1'
    obtain ⟨b, hb, e2, l2⟩ := DataW.trod_string Tryd.underlying9 h2'
    simp at ha ho hb
    subst ha ho hb
    have w0 : a.data.toList.length ≤ reachBytes := hs _ (by
      rw [hx]
      unfold DataW.weights; rw [Tryd.underlying34]
      refine DataW.weights_mem_each (j := 0) (t := 9) (d := y0.1) rfl rfl _ ?_
      rw [e0]; unfold DataW.weights; exact List.mem_cons_self ..)
    have w2 : b.data.toList.length ≤ reachBytes := hs _ (by
      rw [hx]
      unfold DataW.weights; rw [Tryd.underlying34]
      refine DataW.weights_mem_each (j := 2) (t := 9) (d := y2.1) rfl rfl _ ?_
      rw [e2]; unfold DataW.weights; exact List.mem_cons_self ..)
    rw [size20] at w0 w2
    exact ⟨a, o, b, by rw [show cs = #[.string a, .int .i64 o, .string b] from Array.toList_inj.1 hc], Nat.le_trans w0 (by decide), Nat.le_trans w2 (by decide)⟩

end Go.Proofs.YtmfcaoacklbkoaaDoor
