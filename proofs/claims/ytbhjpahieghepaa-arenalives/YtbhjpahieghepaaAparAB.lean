/-
  depotkit.ApartInts: the rows of lists that it makes.
  KEEP: set on app at below new trans refl start ap kept rd rds mono row push put step side drew drewN mark weaken less store slice place cell lt prefix setOther
-/
import Derived.Test.YtbhjpahieghepaaAparA
set_option linter.unusedSimpArgs false
set_option linter.unusedVariables false
namespace Go.Proofs.Ytbhjpahieghepaa
open Go Go.RowKit Go.Shelf

/-- a row of lists that lie apart, the first places of each marked -/
theorem heap_other {W : World} {k : Nat} (a : Addr) (v : Value) (ha : a.block ≠ k) : (W.setCell a v).heap[k]? = W.heap[k]? := by
  show (W.heap.modify a.block _)[k]? = _
  rw [Array.getElem?_modify, if_neg ha]
structure Aq (Q : Nat → Prop) (B : Nat) (w wr : World) (rv : Value) (K : Nat) (v : Nat → Value) (n c : Nat → Nat) : Prop where
  row : wr.ownsRow B 32 1 rv K ((List.range K).map v)
  pm : ∀ j, j < K → Pm B wr (v j) j (n j) (c j)
  bel : Below B w wr
  ko : KeepsOthers w wr
  kp : ∀ k, Q k → wr.heap[k]? = w.heap[k]?
  qv : ∀ j, j < K → ∀ b, (v j).ownBlock = some b → ¬ Q b
  qs : ∀ k, Q k → k < w.heap.size
theorem row_cells {base e s : Nat} {w : World} {v : Value} {n : Nat} {xs : List Value} (h : w.ownsRow base e s v n xs) : ∀ (j : Nat) (o : Obj), v.ownBlock = some j → w.heap[j]? = some o → o.isCells = true := fun j o ej hj => by
  rcases h.2 with ⟨rfl, _⟩ | ⟨g, cap, cur, rfl, _, hgb, _⟩
  · cases ej
  · cases ej
    rw [hgb] at hj
    cases hj
    rfl
theorem Aq.weaken {Q : Nat → Prop} {B : Nat} {w wr : World} {rv : Value} {K : Nat} {v : Nat → Value} {n c c' : Nat → Nat} (h : Aq Q B w wr rv K v n c) (hc : ∀ j, j < K → c' j ≤ c j) : Aq Q B w wr rv K v n c' :=
  ⟨h.row, fun j hj => (h.pm j hj).less (hc j hj), h.bel, h.ko, h.kp, h.qv, h.qs⟩
theorem Aq.drew {Q : Nat → Prop} {B : Nat} {w wr : World} {rv : Value} {K : Nat} {v : Nat → Value} {n c : Nat → Nat} (h : Aq Q B w wr rv K v n c) : Aq Q B w wr.drew rv K v n c := ⟨h.row, h.pm, h.bel.drew, ⟨h.ko.size, h.ko.same⟩, h.kp, h.qv, h.qs⟩
theorem row_at {B K k : Nat} {wr : World} {rv : Value} {v : Nat → Value} (h : wr.ownsRow B 32 1 rv K ((List.range K).map v)) (hk : k < K) :
    ∃ g cap, rv = .slice (some ⟨g, 0, none⟩) K cap ∧ K ≤ cap ∧ wr.cell? ⟨g, k, none⟩ = some (v k) := by
  rcases h.2 with ⟨_, hn⟩ | ⟨g, cap, cur, hv, hb, hh, hnc, hcm, hcs, ht⟩
  · omega
  · subst hv
    refine ⟨g, cap, rfl, hnc, (h.cellAt k (by omega)).trans ?_⟩
    simp [hk]
theorem Aq.mark {Q : Nat → Prop} {B : Nat} {w wr : World} {rv : Value} {K : Nat} {v : Nat → Value} {n c : Nat → Nat} (h : Aq Q B w wr rv K v n c)
    (hap : ∀ i j, i < K → j < K → i ≠ j → (v i).ownBlock = none ∨ (v i).ownBlock ≠ (v j).ownBlock) {k i : Nat} (hk : k < K) (hc : c k = i) (hi : i < n k) :
    ∃ g cap y, v k = .slice (some ⟨g, 0, none⟩) (n k) cap ∧ n k ≤ cap ∧ wr.cell? ⟨g, i, none⟩ = some (.int .i64 y) ∧ wr.frozen? ⟨g, i, none⟩ = false ∧
      Aq Q B w (wr.setCell ⟨g, i, none⟩ (.int .i64 (mrk k i))) rv K v n (fun j => if j = k then i + 1 else c j) := by
  have hp := h.pm k hk
  obtain ⟨g, cap, y, e, hg, hcap, h1, h2⟩ := hp.place hi
  refine ⟨g, cap, y, e, hcap, h1, h2, ?_, fun j hj => ?_, h.bel.setCell (p := ⟨g, i, none⟩) hg _, h.ko.trans (KeepsOthers.setCell _ _ _), fun q hq => (heap_other (W := wr) ⟨g, i, none⟩ _ (fun e9 => h.qv k hk g (by rw [e]; rfl) (by rw [show g = q from e9]; exact hq))).trans (h.kp q hq), h.qv, h.qs⟩
  · obtain ⟨Y, ho, -, -⟩ := hp
    exact ownsRow_setCell_other h.row (a := ⟨g, i, none⟩) (block_apart (by decide) h.row ho (by rw [e]; rfl)) _
  · by_cases ej : j = k
    · subst ej
      rw [if_pos rfl, e]
      rw [e, hc] at hp
      exact hp.store hi
    · skip
      rw [if_neg ej]
      refine (h.pm j hj).setOther (fun e' => ?_) _
      rcases hap j k hj hk ej with q | q
      · rw [q] at e'; cases e'
      · rw [e', e] at q; exact q rfl

theorem Pm.prefix {B : Nat} {w w' : World} {v0 : Value} {k n0 c g cap m : Nat} {Y : List Int} {news : List Value} (h0 : Pm B w v0 k n0 c) (hb : v0.ownBlock = some g) (hv : Own B w (.slice (some ⟨g, 0, none⟩) Y.length cap) Y) (hn : n0 ≤ Y.length)
    (hv' : w'.ownsRow B 3 1 (.slice (some ⟨g, 0, none⟩) (Y.length + m) cap) (Y.length + m) (Y.map (Value.int .i64) ++ news)) : Pm B w' v0 k n0 c := by
  obtain ⟨Y0, ho, hl, hm⟩ := h0
  exact ⟨Y0, own_prefix (n0 := Y0.length) ho hb hv (by omega) hv', hl, hm⟩

/-- beside them a row of grown ones -/
structure Gq (Q : Nat → Prop) (B S : Nat) (w wr : World) (rv : Value) (K : Nat) (v : Nat → Value) (n : Nat → Nat) (gr : Value) (kr k : Nat) (u : Nat → Value) (m : Nat → Nat) : Prop where
  ap : Aq Q B w wr rv K v n n
  grow : wr.ownsRow S 32 1 gr kr ((List.range kr).map u)
  gp : ∀ j, j < k → Pm B wr (u j) j (n j + 64) (m j)
  gb : ∀ j, j < k → (u j).ownBlock = (v j).ownBlock ∨ ∃ b, (u j).ownBlock = some b ∧ S ≤ b
  sz : S ≤ wr.heap.size
  hB : B ≤ S
  vb : ∀ j, j < K → ∀ b, (v j).ownBlock = some b → b < S
  rb : ∀ b, rv.ownBlock = some b → b < S
  hap : ∀ i j, i < K → j < K → i ≠ j → (v i).ownBlock = none ∨ (v i).ownBlock ≠ (v j).ownBlock
  hk : k ≤ K
  sw : w.heap.size ≤ S

theorem Gq.step {Q : Nat → Prop} {B S : Nat} {w wr w' : World} {rv : Value} {K : Nat} {v : Nat → Value} {n : Nat → Nat} {gr : Value} {kr k : Nat} {u : Nat → Value} {m : Nat → Nat} {row : Option Nat} (h : Gq Q B S w wr rv K v n gr kr k u m) (hg : wr.grownBy w' row)
    (hrow : ∀ b, row = some b → B ≤ b) (hqq : ∀ b, row = some b → ¬ Q b) (hce : ∀ (j : Nat) (o : Obj), row = some j → wr.heap[j]? = some o → o.isCells = true) (hv : ∀ j, j < K → Pm B w' (v j) j (n j) (n j)) (hr : rv.ownBlock = none ∨ rv.ownBlock ≠ row) (hgr : gr.ownBlock = none ∨ gr.ownBlock ≠ row) (hu : ∀ j, j < k → (u j).ownBlock = none ∨ (u j).ownBlock ≠ row) :
    Gq Q B S w w' rv K v n gr kr k u m :=
  ⟨⟨World.ownsRow.kept h.ap.row hg hr, hv, h.ap.bel.grown hg (Nat.le_trans h.hB h.sz) hrow, h.ap.ko.trans (KeepsOthers.of_grownBy hg hce), fun q hq => (hg.block q (Nat.lt_of_lt_of_le (h.ap.qs q hq) h.ap.bel.size) (fun e => hqq q e.symm hq)).trans (h.ap.kp q hq), h.ap.qv, h.ap.qs⟩, World.ownsRow.kept h.grow hg hgr, fun j hj => (h.gp j hj).kept hg (hu j hj), h.gb, Nat.le_trans h.sz hg.size, h.hB, h.vb, h.rb, h.hap, h.hk, h.sw⟩
theorem none_or (x : Option Nat) : x = none ∨ x ≠ none := Classical.em _
theorem Gq.new {Q : Nat → Prop} {B S : Nat} {w wr w' : World} {rv : Value} {K : Nat} {v : Nat → Value} {n : Nat → Nat} {gr : Value} {kr k : Nat} {u : Nat → Value} {m : Nat → Nat} (h : Gq Q B S w wr rv K v n gr kr k u m) (hg : wr.grownBy w' none) : Gq Q B S w w' rv K v n gr kr k u m :=
  h.step hg (fun b e => by cases e) (fun b e => by cases e) (fun j o e => by cases e) (fun j hj => (h.ap.pm j hj).kept hg (none_or _)) (none_or _) (none_or _) (fun j hj => none_or _)

theorem Gq.app {Q : Nat → Prop} {B S : Nat} {w wr wa w' : World} {rv : Value} {K : Nat} {v : Nat → Value} {n : Nat → Nat} {gr : Value} {kr k : Nat} {u : Nat → Value} {m : Nat → Nat} (h : Gq Q B S w wr rv K v n gr kr k u m) (hk : k < K) {x x' : Value} {Sk : Nat} (hSk : S ≤ Sk) (hSw : Sk ≤ wr.heap.size)
    (huk : ∀ j, j < k → ∀ b, (u j).ownBlock = some b → b < Sk) {Y nz : List Int} (ho : Own B wr x Y) (hN : n k ≤ Y.length) (hxb : x.ownBlock = (v k).ownBlock ∨ ∃ b, x.ownBlock = some b ∧ Sk ≤ b) (hga : wr.grownBy wa none) (hnz : 0 < nz.length)
    (h1 : w'.ownsRow B 3 1 x' (Y.length + nz.length) (Y.map (Value.int .i64) ++ nz.map (Value.int .i64)))
    (h2 : (∃ g cap, x = .slice (some ⟨g, 0, none⟩) Y.length cap ∧ x' = .slice (some ⟨g, 0, none⟩) (Y.length + nz.length) cap ∧ wa.grownBy w' (some g)) ∨ (w'.ownsRow wa.heap.size 3 1 x' (Y.length + nz.length) (Y.map (Value.int .i64) ++ nz.map (Value.int .i64)) ∧ wa.grownBy w' none)) :
    Gq Q B S w w' rv K v n gr kr k u m ∧ Own B w' x' (Y ++ nz) ∧ (x'.ownBlock = (v k).ownBlock ∨ ∃ b, x'.ownBlock = some b ∧ Sk ≤ b) := by
  have ha := h.new hga
  have hoa : Own B wa x Y := World.ownsRow.kept ho hga (none_or _)
  have o1 : Own B w' x' (Y ++ nz) := by
    unfold Own
    rw [List.length_append, List.map_append]
    exact h1
  rcases h2 with ⟨g, cap, rfl, rfl, hg⟩ | ⟨h3, hg⟩
  · have ex : (Value.slice (some ⟨g, 0, none⟩) Y.length cap).ownBlock = some g := rfl
    have ex' : (Value.slice (some ⟨g, 0, none⟩) (Y.length + nz.length) cap).ownBlock = some g := rfl
    have hBg : B ≤ g := (World.ownsRow.lt hoa g ex).1
    rw [ex] at hxb
    have nr : rv.ownBlock ≠ some g := block_apart (by decide) ha.ap.row hoa ex
    have ngr : gr.ownBlock ≠ some g := block_apart (by decide) ha.grow hoa ex
    refine ⟨?_, o1, by rw [ex']; exact hxb⟩
    rcases hxb with q | ⟨b, q, hb⟩
    · refine ha.step hg (fun b e => by cases e; exact hBg) (fun b e => by cases e; exact h.ap.qv k hk _ q.symm) (fun j o e h => row_cells hoa j o (by rw [ex]; exact e) h) (fun j hj => ?_) (.inr nr) (.inr ngr) (fun j hj => ?_)
      · by_cases e : j = k
        · subst e
          exact (ha.ap.pm j hj).prefix q.symm hoa hN h1
        · refine (ha.ap.pm j hj).kept hg ?_
          have := h.hap j k hj hk e
          rwa [← q] at this
      · rcases h.gb j hj with q' | ⟨b, q', hb⟩
        · rw [q']
          have := h.hap j k (by omega) hk (by omega)
          rwa [← q] at this
        · refine .inr (fun e => ?_)
          rw [q'] at e
          cases e
          have := h.vb k hk _ q.symm
          omega
    · cases q
      refine ha.step hg (fun b e => by cases e; exact hBg) (fun b e hq => by cases e; have h7 := h.ap.qs _ hq; have h8 := h.sw; omega) (fun j o e h => row_cells hoa j o (by rw [ex]; exact e) h) (fun j hj => (ha.ap.pm j hj).kept hg (.inr fun e => ?_)) (.inr nr) (.inr ngr) (fun j hj => .inr fun e => ?_)
      · have := h.vb j hj _ e
        omega
      · have := huk j hj _ e
        omega
  · refine ⟨ha.new hg, o1, .inr ?_⟩
    rcases h3.2 with ⟨_, hn⟩ | ⟨g, cap, cur, rfl, hb, _⟩
    · omega
    · have := hga.size
      exact ⟨g, rfl, by omega⟩

theorem Gq.push {Q : Nat → Prop} {B S : Nat} {w wr wa w' : World} {rv : Value} {K : Nat} {v : Nat → Value} {n : Nat → Nat} {gr gr' : Value} {k : Nat} {u : Nat → Value} {m : Nat → Nat} (h : Gq Q B S w wr rv K v n gr k k u m) (hk : k < K) {x : Value} (hga : wr.grownBy wa none)
    (own' : w'.ownsRow S 32 1 gr' (k + 1) ((List.range k).map u ++ [x])) (hg : wa.grownBy w' gr.ownBlock) (hx : Pm B wr x k (n k + 64) (m k)) (hxb : x.ownBlock = (v k).ownBlock ∨ ∃ b, x.ownBlock = some b ∧ S ≤ b) :
    Gq Q B S w w' rv K v n gr' (k + 1) (k + 1) (fun j => if j < k then u j else x) m := by
  have ha := h.new hga
  have hxa := hx.kept hga (none_or _)
  have keep : ∀ {y : Value} {a b c : Nat}, Pm B wa y a b c → Pm B w' y a b c := fun hp => by
    obtain ⟨Y, ho, hl, hm⟩ := hp
    exact ⟨Y, ownsRow_apart (by decide) ho ha.grow hg, hl, hm⟩
  have hgB : ∀ b, gr.ownBlock = some b → S ≤ b := fun b e => (World.ownsRow.lt ha.grow b e).1
  have hr : rv.ownBlock = none ∨ rv.ownBlock ≠ gr.ownBlock := by
    cases e : rv.ownBlock with
    | none => exact .inl rfl
    | some b => exact .inr fun e' => by have h1 := h.rb b e; have h2 := hgB b e'.symm; omega
  refine ⟨⟨World.ownsRow.kept ha.ap.row hg hr, fun j hj => keep (ha.ap.pm j hj), ha.ap.bel.grown hg (Nat.le_trans ha.hB ha.sz) (fun b e => Nat.le_trans h.hB (hgB b e)), ha.ap.ko.trans (KeepsOthers.of_grownBy hg (row_cells ha.grow)), fun q hq => (hg.block q (Nat.lt_of_lt_of_le (ha.ap.qs q hq) ha.ap.bel.size) (fun e => by have h7 := hgB q e.symm; have h8 := ha.ap.qs q hq; have h9 := h.sw; omega)).trans (ha.ap.kp q hq), h.ap.qv, h.ap.qs⟩, ?_, fun j hj => ?_, fun j hj => ?_, Nat.le_trans ha.sz hg.size, h.hB, h.vb, h.rb, h.hap, hk, h.sw⟩
  · have : (List.range (k + 1)).map (fun j => if j < k then u j else x) = (List.range k).map u ++ [x] := by
      rw [List.range_succ, List.map_append]
      simp only [List.map_cons, List.map_nil, Nat.lt_irrefl, if_false]
      congr 1
      exact List.map_congr_left fun j hj => by rw [if_pos (List.mem_range.1 hj)]
    rw [this]
    exact own'
  · by_cases e : j < k
    · rw [if_pos e]; exact keep (ha.gp j e)
    · obtain rfl : j = k := by omega
      rw [if_neg e]; exact keep hxa
  · by_cases e : j < k
    · rw [if_pos e]; exact h.gb j e
    · obtain rfl : j = k := by omega
      rw [if_neg e]; exact hxb

theorem Gq.put {Q : Nat → Prop} {B S : Nat} {w wr : World} {rv : Value} {K : Nat} {v : Nat → Value} {n : Nat → Nat} {gg cap : Nat} {k : Nat} {u : Nat → Value} {m : Nat → Nat} (h : Gq Q B S w wr rv K v n (.slice (some ⟨gg, 0, none⟩) K cap) K k u m) (hk : k < K) {x : Value}
    (hx : Pm B wr x k (n k + 64) (m k)) (hxb : x.ownBlock = (v k).ownBlock ∨ ∃ b, x.ownBlock = some b ∧ S ≤ b) :
    Gq Q B S w (wr.setCell ⟨gg, k, none⟩ x) rv K v n (.slice (some ⟨gg, 0, none⟩) K cap) K (k + 1) (fun j => if j = k then x else u j) m := by
  obtain ⟨s1, s2⟩ := World.ownsRow.stored h.grow k x
  have hgS : S ≤ gg := (World.ownsRow.lt h.grow gg rfl).1
  have keep : ∀ {y : Value} {a b c : Nat}, Pm B wr y a b c → Pm B (wr.setCell ⟨gg, k, none⟩ x) y a b c := fun hp => by
    obtain ⟨Y, ho, hl, hm⟩ := hp
    exact ⟨Y, ownsRow_apart (by decide) ho h.grow s2, hl, hm⟩
  have hr : rv.ownBlock = none ∨ rv.ownBlock ≠ some gg := .inr fun e => by have := h.rb gg e; omega
  refine ⟨⟨World.ownsRow.kept h.ap.row s2 hr, fun j hj => keep (h.ap.pm j hj), h.ap.bel.setCell (p := ⟨gg, k, none⟩) (Nat.le_trans h.hB hgS) _, h.ap.ko.trans (KeepsOthers.setCell _ _ _), fun q hq => (heap_other (W := wr) ⟨gg, k, none⟩ _ (fun e9 => by have h7 : gg = q := e9; have h8 := h.ap.qs q hq; have h9 := h.sw; omega)).trans (h.ap.kp q hq), h.ap.qv, h.ap.qs⟩, ?_, fun j hj => ?_, fun j hj => ?_, Nat.le_trans h.sz s2.size, h.hB, h.vb, h.rb, h.hap, hk, h.sw⟩
  · have : ((List.range K).map u).set k x = (List.range K).map (fun j => if j = k then x else u j) := by
      apply List.ext_getElem?
      intro j
      rw [List.getElem?_set, List.getElem?_map, List.getElem?_map]
      by_cases e : k = j
      · subst e
        simp [hk]
      · have e' : ¬ j = k := fun h => e h.symm
        by_cases hj : j < K <;> simp [e, e', hj]
    rw [← this]
    exact s1
  · by_cases e : j = k
    · subst e; rw [if_pos rfl]; exact keep hx
    · rw [if_neg e]; exact keep (h.gp j (by omega))
  · by_cases e : j = k
    · subst e; rw [if_pos rfl]; exact hxb
    · rw [if_neg e]; exact h.gb j (by omega)

end Go.Proofs.Ytbhjpahieghepaa
