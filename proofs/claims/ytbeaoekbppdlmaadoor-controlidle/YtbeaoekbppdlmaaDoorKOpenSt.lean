/-
  From a row's reading of stanzas to what they read, and how much they hold at most.
  KEEP: len below nil form rd mono own row out
-/
import Derived.Test.YtbeaoekbppdlmaaDoorOpenS
import Derived.Test.YtbeaoekbppdlmaaDoorKCtF
set_option linter.unusedVariables false
set_option linter.unusedSimpArgs false
namespace Go.Proofs.YtbeaoekbppdlmaaDoor
open Go Go.RowKit Go.ChangeShapes Go.WideShapes Go.Deep

def ElF (cs : List Value) (f : Fld) : Prop := cs = [strV f.1, strV f.2] ∧ f.1.length ≤ 281474976710656 ∧ f.2.length ≤ 281474976710656
/-- how much fields hold -/
def fldN (fs : List Fld) : Nat := fs.length + (fs.map (fun f => f.1.length + f.2.length)).sum
/-- how much stanzas hold -/
def stzN (l : List Stz) : Nat := l.length + (l.map (fun x => fldN x.2)).sum
theorem bytesF21 : Tryd.prog.bytesOf 50 = 32 := by kernel_rfl
theorem bytesS21 : Tryd.prog.bytesOf 35 = 32 := by kernel_rfl
theorem trodS2 {H : Type} {enc : TypeId × Value → H} {P : Program} {w : World} {base : Nat} {spare : Nat → Bool} {held : Bool} {t : TypeId} {f0 f1 : Field} {fuel : Nat} {cs : List Value} {x : DataW H × List MemPlace} (ht : P.underlying t = some (.struct #[f0, f1])) (h : DataW.trod enc P w base spare held fuel t cs = some x) :
    ∃ y0 y1 n, x.1 = .agg [y0.1, y1.1] ∧ cs.length = P.cellsOf t ∧ DataW.trod enc P w base spare held n f0.type ((cs.drop f0.offset).take (P.cellsOf f0.type)) = some y0 ∧
      DataW.trod enc P w base spare held n f1.type ((cs.drop f1.offset).take (P.cellsOf f1.type)) = some y1 := by
  obtain ⟨xs, n, _, rfl, hl, hlen, hf⟩ := DataW.trod_struct ht h
  match xs, hlen with
  | [y0, y1], _ => exact ⟨y0, y1, n, by simp, hl, by simpa using hf 0 f0 rfl, by simpa using hf 1 f1 rfl⟩
set_option maxRecDepth 100000 in
theorem lenS_of_trod {H : Type} {enc : TypeId × Value → H} {W : World} {T E : TypeId} (hT : Tryd.prog.underlying T = some (.slice E)) {fuel : Nat} {a : Option Addr} {len cap : Nat} {y : DataW H × List MemPlace}
    (h : DataW.trod enc Tryd.prog W 0 (fun _ => true) true fuel T [.slice a len cap] = some y) (hs : ∀ k ∈ y.1.weights Tryd.prog T, k ≤ reachBytes) : len * Tryd.prog.bytesOf E ≤ reachBytes := by
  rcases DataW.trod_slice hT h with ⟨hcs, rfl⟩ | ⟨a', len', cap', elems, rest, m, _, hcs, rfl, _, hl, hm, hlen, hcell, _, _⟩
  · simp at hcs
    rw [hcs.2.1]; simp
  · simp at hcs
    obtain ⟨_, rfl, rfl⟩ := hcs
    have := hs _ (by unfold DataW.weights; rw [hT]; exact List.mem_cons_self ..)
    rw [Nat.add_mul] at this
    have e : (elems.map (·.1)).length = len := by simp; omega
    rw [e] at this
    omega
theorem str_of_trod {H : Type} {enc : TypeId × Value → H} {W : World} {fuel : Nat} {c : Value} {y : DataW H × List MemPlace}
    (h : DataW.trod enc Tryd.prog W 0 (fun _ => true) true fuel 9 [c] = some y) (hs : ∀ k ∈ y.1.weights Tryd.prog 9, k ≤ reachBytes) : ∃ l : List UInt8, c = strV l ∧ y.1 = .lit (.string l) ∧ l.length ≤ 281474976710656 := by
  obtain ⟨s, hc, rfl, hm⟩ := DataW.trod_string Tryd.underlying9 h
  simp at hc
  have hl : s.data.toList.length ≤ reachBytes := hs _ (by unfold DataW.weights; exact List.mem_cons_self ..)
  exact ⟨s.data.toList, by rw [hc]; simp [strV], rfl, Nat.le_trans hl (by decide)⟩
set_option maxRecDepth 100000 in
theorem fld_of_trod {H : Type} {enc : TypeId × Value → H} {W : World} (m : Nat) (cs : List Value) (y : DataW H × List MemPlace) (h : DataW.trod enc Tryd.prog W 0 (fun _ => true) true m 50 cs = some y)
    (hs : ∀ k ∈ y.1.weights Tryd.prog 50, k ≤ reachBytes) : ∃ x : Fld, ElF cs x ∧ x.1.length + x.2.length + 1 ≤ Rows.uptoBulk y.1 := by
  obtain ⟨y0, y1, n, hx, hl, h0, h1⟩ := trodS2 Tryd.underlying50 h
  have hl2 : cs.length = 2 := hl.trans (by kernel_rfl)
  match cs, hl2 with
  | [c0, c1], _ =>
    have h0' : DataW.trod enc Tryd.prog W 0 (fun _ => true) true n 9 [c0] = some y0 := h0
    have h1' : DataW.trod enc Tryd.prog W 0 (fun _ => true) true n 9 [c1] = some y1 := h1
    have hw0 : ∀ k ∈ y0.1.weights Tryd.prog 9, k ≤ reachBytes := fun k hk => hs k (by
      rw [hx]
      unfold DataW.weights; rw [Tryd.underlying50]
      exact DataW.weights_mem_each (j := 0) (t := 9) (d := y0.1) rfl rfl k hk)
    have hw1 : ∀ k ∈ y1.1.weights Tryd.prog 9, k ≤ reachBytes := fun k hk => hs k (by
      rw [hx]
      unfold DataW.weights; rw [Tryd.underlying50]
      exact DataW.weights_mem_each (j := 1) (t := 9) (d := y1.1) rfl rfl k hk)
    obtain ⟨a, rfl, e0, l0⟩ := str_of_trod h0' hw0
    obtain ⟨b, rfl, e1, l1⟩ := str_of_trod h1' hw1
    refine ⟨(a, b), ⟨rfl, l0, l1⟩, ?_⟩
    rw [hx, e0, e1]
    simp only [Rows.uptoBulk, Rows.uptoBulkAll]
    omega
theorem rdG_of {W : World} {c : Value} {fs : List Fld} (h : RdS 2 ElF W c fs) (hl : fs.length * 32 ≤ 140737488351232) : RdG W c fs := by
  obtain ⟨a, cap, e, h1, h2, h3⟩ := h
  refine ⟨hl, fun f hf => ?_, a, cap, e, h1, h2, fun hne => ?_⟩
  · obtain ⟨j, hj, rfl⟩ := List.getElem_of_mem hf
    obtain ⟨b, off, cs, _, _, _, _, he⟩ := h3 j hj
    exact he.2
  have hp : 0 < fs.length := List.length_pos_iff.2 hne
  obtain ⟨b, off, cs, ea, hb, _, _, _⟩ := h3 0 hp
  refine ⟨b, off, ea, hb, fun j hj => ?_⟩
  obtain ⟨b', off', cs, ea', hb', hl', hc, rfl, _⟩ := h3 j hj
  rw [ea] at ea'
  injection ea' with ea'
  injection ea' with q1 q2 q3
  subst q1; subst q2
  have e0 : fs.getD j ([], []) = fs[j] := by simp [List.getD_eq_getElem?_getD, hj]
  rw [e0]
  have c0 := hc 0 (by omega)
  have c1 := hc 1 (by omega)
  exact ⟨by simpa using c0, by simpa using c1⟩
set_option maxRecDepth 100000 in
/-- fields in a cell, and how much they hold at most -/
theorem flds_of_trod {H : Type} {enc : TypeId × Value → H} {W : World} {fuel : Nat} {c : Value} {y : DataW H × List MemPlace}
    (h : DataW.trod enc Tryd.prog W 0 (fun _ => true) true fuel 33 [c] = some y) (hs : ∀ n ∈ y.1.weights Tryd.prog 33, n ≤ reachBytes) : ∃ fs, RdG W c fs ∧ fldN fs ≤ Rows.uptoBulk y.1 := by
  obtain ⟨fs, hr, hb⟩ := rows_of_trod Tryd.underlying33 (n := 2) (by kernel_rfl) (by omega) ElF (fun x => x.1.length + x.2.length) fld_of_trod h hs
  have hr' := hr
  obtain ⟨a, cap, e, _⟩ := hr'
  have h2 := h
  rw [e] at h2
  have hl := lenS_of_trod Tryd.underlying33 h2 hs
  rw [bytesF21] at hl
  exact ⟨fs, rdG_of hr (by simpa [reachBytes] using hl), hb⟩
def ElS (W : World) (cs : List Value) (x : Stz) : Prop := ∃ u, cs = [.int .i64 x.1, u] ∧ RdG W u x.2
set_option maxRecDepth 100000 in
theorem stz_of_trod {H : Type} {enc : TypeId × Value → H} {W : World} (m : Nat) (cs : List Value) (y : DataW H × List MemPlace) (h : DataW.trod enc Tryd.prog W 0 (fun _ => true) true m 35 cs = some y)
    (hs : ∀ k ∈ y.1.weights Tryd.prog 35, k ≤ reachBytes) : ∃ x : Stz, ElS W cs x ∧ fldN x.2 + 1 ≤ Rows.uptoBulk y.1 := by
  obtain ⟨y0, y1, n, hx, hl, h0, h1⟩ := trodS2 Tryd.underlying35 h
  have hl2 : cs.length = 2 := hl.trans (by kernel_rfl)
  match cs, hl2 with
  | [c0, c1], _ =>
    have h0' : DataW.trod enc Tryd.prog W 0 (fun _ => true) true n 3 [c0] = some y0 := h0
    have h1' : DataW.trod enc Tryd.prog W 0 (fun _ => true) true n 33 [c1] = some y1 := h1
    obtain ⟨b, hb, _⟩ := DataW.trod_int Tryd.underlying3 h0'
    simp at hb
    subst hb
    obtain ⟨fs, hr, hz⟩ := flds_of_trod h1' (fun k hk => hs k (by
      rw [hx]
      unfold DataW.weights; rw [Tryd.underlying35]
      exact DataW.weights_mem_each (j := 1) (t := 33) (d := y1.1) rfl rfl k hk))
    refine ⟨(b, fs), ⟨c1, rfl, hr⟩, ?_⟩
    rw [hx]
    simp only [Rows.uptoBulk, Rows.uptoBulkAll]
    omega
theorem rdSt_of {W : World} {c : Value} {l : List Stz} (h : RdS 2 (ElS W) W c l) (hl : l.length * 32 ≤ 140737488351232) : RdSt W c l := by
  obtain ⟨a, cap, e, h1, h2, h3⟩ := h
  refine ⟨hl, a, cap, e, h1, h2, fun hne => ?_⟩
  have hp : 0 < l.length := List.length_pos_iff.2 hne
  obtain ⟨b, off, cs, ea, hb, _, _, _⟩ := h3 0 hp
  refine ⟨b, off, ea, hb, fun j hj => ?_⟩
  obtain ⟨b', off', cs, ea', hb', hl', hc, u, rfl, hr⟩ := h3 j hj
  rw [ea] at ea'
  injection ea' with ea'
  injection ea' with q1 q2 q3
  subst q1; subst q2
  have e0 : l.getD j (0, []) = l[j] := by simp [List.getD_eq_getElem?_getD, hj]
  rw [e0]
  have c0 := hc 0 (by omega)
  have c1 := hc 1 (by omega)
  exact ⟨u, by simpa using c0, by simpa using c1, hr⟩
set_option maxRecDepth 100000 in
/-- stanzas, and how much they hold at most -/
theorem stanzas_open {H : Type} {enc : TypeId × Value → H} {W : World} {r : Reach} {b0 : Nat} {v : Value} {d : DataW H} {p : List MemPlace} (hv : Value.okWide Tryd.prog W r b0 22 v)
    (h : DataW.Trod enc Tryd.prog W 0 (fun _ => true) true 22 v d p) (hs : ∀ n ∈ d.weights Tryd.prog 22, n ≤ reachBytes) :
    ∃ l, RdSt W v l ∧ stzN l ≤ Rows.uptoBulk d := by
  obtain ⟨a, n, c, rfl⟩ := okWide_slice Tryd.underlying22 hv
  obtain ⟨fuel, hf⟩ := h
  have hf' : DataW.trod enc Tryd.prog W 0 (fun _ => true) true fuel 22 [.slice a n c] = some (d, p) := by simpa [Value.cells] using hf
  have hl := lenS_of_trod Tryd.underlying22 hf' hs
  rw [bytesS21] at hl
  obtain ⟨l, hr, hb⟩ := rows_of_trod Tryd.underlying22 (n := 2) (by kernel_rfl) (by omega) (ElS W) (fun x => fldN x.2) stz_of_trod hf' hs
  have hn : n = l.length := by
    obtain ⟨a', c', e, _⟩ := hr
    injection e
  refine ⟨l, rdSt_of hr ?_, hb⟩
  rw [← hn]
  simpa [reachBytes] using hl
set_option maxRecDepth 100000 in
/-- one stanza by value -/
theorem stanza_open {H : Type} {enc : TypeId × Value → H} {W : World} {r : Reach} {b0 : Nat} {v : Value} {d : DataW H} {p : List MemPlace} (hv : Value.okWide Tryd.prog W r b0 35 v)
    (h : DataW.Trod enc Tryd.prog W 0 (fun _ => true) true 35 v d p) (hs : ∀ n ∈ d.weights Tryd.prog 35, n ≤ reachBytes) :
    ∃ ln u fs, v = .agg #[.int .i64 ln, u] ∧ RdG W u fs ∧ fldN fs ≤ Rows.uptoBulk d := by
  obtain ⟨cs, rfl, hsz⟩ := okWide_struct Tryd.underlying35 hv
  obtain ⟨fuel, hf⟩ := h
  have hf' : DataW.trod enc Tryd.prog W 0 (fun _ => true) true fuel 35 cs.toList = some (d, p) := by simpa [Value.cells] using hf
  obtain ⟨x, ⟨u, e, hr⟩, hb⟩ := stz_of_trod fuel _ _ hf' hs
  refine ⟨x.1, u, x.2, ?_, hr, by simp only at hb ⊢; omega⟩
  rw [show cs = #[.int .i64 x.1, u] from Array.toList_inj.1 e]

end Go.Proofs.YtbeaoekbppdlmaaDoor
