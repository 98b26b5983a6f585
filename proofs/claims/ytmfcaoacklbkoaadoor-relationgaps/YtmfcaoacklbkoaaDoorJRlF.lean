/-
  joined: RlF RlG RlH RlI RlJ RlK RmB RmC RnT
-/
import Derived.Test.YtmfcaoacklbkoaaDoorRlD
import Derived.Test.YtmfcaoacklbkoaaDoorRlE
import Derived.Test.YtmfcaoacklbkoaaDoorVsF
import Derived.Test.YtmfcaoacklbkoaaDoorRlC
import Derived.Deep.QuietTactic
import Derived.BigQuiet
import Derived.Deep.CutRange
import Derived.Test.YtmfcaoacklbkoaaDoorRlW
set_option linter.unusedSimpArgs false
set_option linter.unusedVariables false
namespace Go.Proofs.YtmfcaoacklbkoaaDoor
open Go Go.RowKit

def LsAns (B : Nat) (w w' : World) (e : Ending) : Except (Int × Int) (List (List Rl)) → Prop
  | .error p => e = .returned (.tuple #[.slice none 0 0, .int .i64 p.1, .int .i64 p.2]) ∧ Below B w w'
  | .ok l => ∃ s L, e = .returned (.tuple #[s, .int .i64 0, .int .i64 0]) ∧ OwnRs B w' s L ∧ rgS L = l ∧ Below B w w'
end Go.Proofs.YtmfcaoacklbkoaaDoor
set_option linter.unusedSimpArgs false
set_option linter.unusedVariables false
namespace Go.Proofs.YtmfcaoacklbkoaaDoor
open Go Go.RowKit

theorem lst_ne {s : ByteArray} {bars : Bool} : ∀ (f k : Nat) (out : List (List Rl)) (now : List Rl) (l : List (List Rl)), (∀ x ∈ out, x ≠ []) → lstS s bars f k out now = .ok l → ∀ x ∈ l, x ≠ []
  | 0, k, out, now, l, ho, h, x, hx => by
    injection h with h
    subst h
    cases hx
  | f + 1, k, out, now, l, ho, h, x, hx => by
    have ho2 : ∀ r : Rl, ∀ y ∈ out ++ [now ++ [r]], y ≠ [] := fun r y hy => by
      rcases List.mem_append.1 hy with hy | hy
      · exact ho y hy
      · obtain rfl := List.mem_singleton.1 hy
        simp
    rw [lstS] at h
    split at h
    · cases h
    split at h
    · exact lst_ne f _ _ _ _ ho h x hx
    split at h
    · injection h with h
      subst h
      exact ho2 _ x hx
    split at h
    · cases h
    · exact lst_ne f _ _ _ _ (ho2 _) h x hx
theorem lstF_ne {s : ByteArray} {bars : Bool} {l : List (List Rl)} (h : lstF s bars = .ok l) : ∀ x ∈ l, x ≠ [] := by
  unfold lstF at h
  split at h
  · injection h with h
    subst h
    intro x hx
    cases hx
  · exact lst_ne _ _ _ _ _ (fun x hx => by cases hx) h
theorem lst_len {s : ByteArray} {bars : Bool} : ∀ (f k : Nat) (out : List (List Rl)) (now : List Rl) (l : List (List Rl)), k ≤ s.size → out.length ≤ k → lstS s bars f k out now = .ok l → l.length ≤ s.size
  | 0, k, out, now, l, hk, ho, h => by
    injection h with h
    subst h
    exact Nat.zero_le _
  | f + 1, k, out, now, l, hk, ho, h => by
    rw [lstS] at h
    split at h
    · cases h
    rename_i he
    obtain ⟨_, _, hq, hqs⟩ := one_ok22 hk (Classical.not_not.1 he)
    split at h
    · rename_i hb
      have hlt : (oneF s k).k < s.size := by
        apply Classical.byContradiction
        intro hn; rw [atB_out hn] at hb; exact absurd hb.1 (by decide)
      have h1 := runF_le22 gapZ s (k := (oneF s k).k + 1) (by omega)
      have h2 := runF_ge gapZ s.data.toList ((oneF s k).k + 1)
      exact lst_len f _ _ _ _ h1 (by omega) h
    split at h
    · injection h with h
      subst h
      simp; omega
    rename_i hnl
    split at h
    · cases h
    · have h1 := runF_le22 gapZ s (k := (oneF s k).k + 1) (by omega)
      have h2 := runF_ge gapZ s.data.toList ((oneF s k).k + 1)
      exact lst_len f _ _ _ _ h1 (by simp; omega) h
theorem lstF_len {s : ByteArray} {bars : Bool} {l : List (List Rl)} (h : lstF s bars = .ok l) : l.length ≤ s.size := by
  unfold lstF at h
  split at h
  · injection h with h
    subst h
    exact Nat.zero_le _
  · exact lst_len _ _ _ _ _ (runF_le22 gapZ s (Nat.zero_le _)) (Nat.zero_le _) h
abbrev noRl : Rl := (⟨#[]⟩, 0, ⟨#[]⟩)
/-- what ReadList comes to -/
def lisF (R : Except (Int × Int) (List (List Rl))) : List Rl × Int × Int :=
  match R with
  | .error p => ([], p.1, p.2)
  | .ok l => (l.map (fun x => x.headD noRl), 0, 0)
theorem OwnRs.cellAt22 {B : Nat} {W : World} {a : Option Addr} {c : Nat} {L : List RG} (h : OwnRs B W (.slice a L.length c) L) {j : Nat} (hj : j < L.length) :
    ∃ g, a = some ⟨g, 0, none⟩ ∧ g < W.heap.size ∧ W.cell? ⟨g, j, none⟩ = some (L.getD j (undef, [])).1 := by
  have h1 := h.row
  have hd : (rgC L)[j]? = some (L.getD j (undef, [])).1 := by
    unfold rgC
    rw [List.getElem?_map, List.getElem?_eq_getElem hj, List.getD_eq_getElem?_getD, List.getElem?_eq_getElem hj]; rfl
  rcases h1.2 with ⟨e, hn⟩ | ⟨g, cap, cur, hv, hg, hh, r⟩
  · omega
  · injection hv with h2 h3 h4
    subst h2; subst h4
    have h5 := World.ownsRow.cellAt h1 j (by omega)
    rw [hd] at h5
    exact ⟨g, rfl, (Array.getElem?_eq_some_iff.1 hh).1, by simpa using h5⟩
theorem OwnR.head22 {B : Nat} {W : World} {v : Value} {rs : List Rl} (h : OwnR B W v rs) (hne : rs ≠ []) :
    ∃ g c, v = .slice (some ⟨g, 0, none⟩) rs.length c ∧ g < W.heap.size ∧ W.cell? ⟨g, 0, none⟩ = some (.string (rs.headD noRl).1) ∧ W.cell? ⟨g, 1, none⟩ = some (.int .i64 (rs.headD noRl).2.1) ∧ W.cell? ⟨g, 2, none⟩ = some (.string (rs.headD noRl).2.2) := by
  cases rs with
  | nil => exact absurd rfl hne
  | cons x r =>
    rcases h.2 with ⟨e, hn⟩ | ⟨g, cap, cur, rfl, hg, hh, q⟩
    · simp at hn
    · have h0 := World.ownsRow.cellAt h 0 (by simp <;> omega)
      have h1 := World.ownsRow.cellAt h 1 (by simp <;> omega)
      have h2 := World.ownsRow.cellAt h 2 (by simp <;> omega)
      exact ⟨g, cap, rfl, (Array.getElem?_eq_some_iff.1 hh).1, by simpa [relC] using h0, by simpa [relC] using h1, by simpa [relC] using h2⟩
theorem OwnR.put22 {B : Nat} {W w8 : World} {v v8 : Value} {N : List Rl} {o : Obj} {r : Rl} (h : OwnR B W v N) (own8 : w8.ownsRow B 34 3 v8 (N.length + 1) (relC N ++ [.string r.1, .int .i64 r.2.1, .string r.2.2])) :
    OwnR B w8 v8 (N ++ [r]) ∧ ∃ a8 c8, v8 = .slice a8 (N.length + 1) c8 := ⟨by unfold OwnR; rw [relC_snoc]; simpa using own8, row_form22 own8⟩
end Go.Proofs.YtmfcaoacklbkoaaDoor
set_option linter.unusedSimpArgs false
set_option linter.unusedVariables false
namespace Go.Proofs.YtmfcaoacklbkoaaDoor
open Go Go.RowKit

theorem sgF_size (o : Int) : (sgF o).size ≤ 2 := by
  unfold sgF
  repeat' split
  all_goals decide
/-- a relation's text -/
def txtB (n : ByteArray) (o : Int) (v : ByteArray) : ByteArray := if o = 0 then n else ((((n ++ ⟨#[32, 40]⟩) ++ sgF o) ++ ⟨#[32]⟩) ++ v) ++ ⟨#[41]⟩
theorem cat22 (x y : ByteArray) (h : x.size + y.size ≤ 9223372036854775807) (w : World) : (Op.stringOp .add x y).run Tryd.prog w = .ok (.string (x ++ y)) w := run_string_add_sum w x y h
end Go.Proofs.YtmfcaoacklbkoaaDoor
set_option linter.unusedSimpArgs false
set_option linter.unusedVariables false
namespace Go.Proofs.YtmfcaoacklbkoaaDoor
open Go Go.RowKit

/-- a slice reads relations -/
def RdR (w : World) (v : Value) (rs : List Rl) : Prop :=
  rs.length * 40 ≤ 140737488351232 ∧ ∃ a c, v = .slice a rs.length c ∧ rs.length ≤ c ∧ c ≤ maxLen ∧
    (rs ≠ [] → ∃ b off, a = some ⟨b, off, none⟩ ∧ b < w.heap.size ∧ ∀ j, j < rs.length → w.cell? ⟨b, off + j * 3, none⟩ = some (.string (rs.getD j noRl).1) ∧ w.cell? ⟨b, off + j * 3 + 1, none⟩ = some (.int .i64 (rs.getD j noRl).2.1) ∧ w.cell? ⟨b, off + j * 3 + 2, none⟩ = some (.string (rs.getD j noRl).2.2))
theorem RdR.below22 {w w' : World} {v : Value} {rs : List Rl} (h : RdR w v rs) (hb : Below w.heap.size w w') : RdR w' v rs := by
  obtain ⟨h1, a, c, rfl, hc, hm, h2⟩ := h
  refine ⟨h1, a, c, rfl, hc, hm, fun hne => ?_⟩
  obtain ⟨b, off, rfl, hlt, hcell⟩ := h2 hne
  refine ⟨b, off, rfl, Nat.lt_of_lt_of_le hlt hb.size, fun j hj => ?_⟩
  obtain ⟨x, y, z⟩ := hcell j hj
  exact ⟨(hb.cell (p := ⟨b, off + j * 3, none⟩) hlt).trans x, (hb.cell (p := ⟨b, off + j * 3 + 1, none⟩) hlt).trans y, (hb.cell (p := ⟨b, off + j * 3 + 2, none⟩) hlt).trans z⟩
theorem RdR.at22 {w : World} {v : Value} {rs : List Rl} (h : RdR w v rs) : ∃ a c, v = .slice a rs.length c ∧ rs.length ≤ c ∧ c ≤ maxLen ∧ ∀ j, j < rs.length → ∃ b off, a = some ⟨b, off, none⟩ ∧ w.cell? ⟨b, off + j * 3, none⟩ = some (.string (rs.getD j noRl).1) ∧ w.cell? ⟨b, off + j * 3 + 1, none⟩ = some (.int .i64 (rs.getD j noRl).2.1) ∧ w.cell? ⟨b, off + j * 3 + 2, none⟩ = some (.string (rs.getD j noRl).2.2) := by
  obtain ⟨h1, a, c, rfl, hc, hm, h2⟩ := h
  refine ⟨a, c, rfl, hc, hm, fun j hj => ?_⟩
  obtain ⟨b, off, e, hb, hcell⟩ := h2 (by intro e; subst e; simp at hj)
  exact ⟨b, off, e, hcell j hj⟩
/-- a slice reads lists of relations -/
def RdRs (w : World) (v : Value) (l : List (List Rl)) : Prop :=
  l.length * 24 ≤ 140737488351232 ∧ ∃ a c, v = .slice a l.length c ∧ l.length ≤ c ∧ c ≤ maxLen ∧
    (l ≠ [] → ∃ b off, a = some ⟨b, off, none⟩ ∧ b < w.heap.size ∧ ∀ j, j < l.length → ∃ u, w.cell? ⟨b, off + j, none⟩ = some u ∧ RdR w u (l.getD j []))
theorem RdRs.below22 {w w' : World} {v : Value} {l : List (List Rl)} (h : RdRs w v l) (hb : Below w.heap.size w w') : RdRs w' v l := by
  obtain ⟨h1, a, c, rfl, hc, hm, h2⟩ := h
  refine ⟨h1, a, c, rfl, hc, hm, fun hne => ?_⟩
  obtain ⟨b, off, rfl, hlt, hcell⟩ := h2 hne
  refine ⟨b, off, rfl, Nat.lt_of_lt_of_le hlt hb.size, fun j hj => ?_⟩
  obtain ⟨u, x, y⟩ := hcell j hj
  exact ⟨u, (hb.cell (p := ⟨b, off + j, none⟩) hlt).trans x, y.below22 hb⟩
theorem RdRs.at22 {w : World} {v : Value} {l : List (List Rl)} (h : RdRs w v l) : ∃ a c, v = .slice a l.length c ∧ l.length ≤ c ∧ c ≤ maxLen ∧ ∀ j, j < l.length → ∃ b off u, a = some ⟨b, off, none⟩ ∧ w.cell? ⟨b, off + j, none⟩ = some u ∧ RdR w u (l.getD j []) := by
  obtain ⟨h1, a, c, rfl, hc, hm, h2⟩ := h
  refine ⟨a, c, rfl, hc, hm, fun j hj => ?_⟩
  obtain ⟨b, off, e, hb, hcell⟩ := h2 (by intro e; subst e; simp at hj)
  obtain ⟨u, x, y⟩ := hcell j hj
  exact ⟨b, off, u, e, x, y⟩

def altT : Nat → ByteArray → List Rl → Option ByteArray
  | _, acc, [] => some acc
  | k, acc, r :: q => if relB r.1 r.2.1 r.2.2 = false then none else altT (k + 1) ((if k = 0 then acc else acc ++ ⟨#[32, 124, 32]⟩) ++ txtB r.1 r.2.1 r.2.2) q
def lisT : Nat → ByteArray → List (List Rl) → Option ByteArray
  | _, acc, [] => some acc
  | i, acc, rs :: q => if rs = [] then none else match altT 0 (if i = 0 then acc else acc ++ ⟨#[44, 32]⟩) rs with | none => none | some a => lisT (i + 1) a q
def szR : List Rl → Nat
  | [] => 0
  | r :: q => r.1.size + r.2.2.size + 10 + szR q
def szL : List (List Rl) → Nat
  | [] => 0
  | rs :: q => szR rs + 2 + szL q
def wrA22 (R : Option ByteArray) : Value := match R with | none => .tuple #[.string ⟨#[]⟩, .int .i64 1] | some t => .tuple #[.string t, .int .i64 0]
theorem txtB_size (n : ByteArray) (o : Int) (v : ByteArray) : (txtB n o v).size ≤ n.size + v.size + 6 := by
  unfold txtB
  have := sgF_size o
  split
  · omega
  · simp only [ByteArray.size_append]
    show n.size + 2 + (sgF o).size + 1 + v.size + 1 ≤ _
    omega
theorem alt_size : ∀ (k : Nat) (acc : ByteArray) (rs : List Rl) (t : ByteArray), altT k acc rs = some t → t.size ≤ acc.size + szR rs
  | k, acc, [], t, h => by
    injection h with h
    subst h
    exact Nat.le_add_right _ _
  | k, acc, r :: q, t, h => by
    rw [altT] at h
    split at h
    · cases h
    · have h1 := alt_size _ _ _ _ h
      have h2 := txtB_size r.1 r.2.1 r.2.2
      rw [ByteArray.size_append] at h1
      rw [szR]
      split at h1
      · omega
      · rw [ByteArray.size_append] at h1
        have : (⟨#[32, 124, 32]⟩ : ByteArray).size = 3 := rfl
        omega
theorem szR_drop {rs : List Rl} {k : Nat} (h : k < rs.length) : szR (rs.drop k) = (rs.getD k noRl).1.size + (rs.getD k noRl).2.2.size + 10 + szR (rs.drop (k + 1)) := by
  rw [List.drop_eq_getElem_cons h, szR, List.getD_eq_getElem?_getD, List.getElem?_eq_getElem h]; rfl
theorem szL_drop {l : List (List Rl)} {k : Nat} (h : k < l.length) : szL (l.drop k) = szR (l.getD k []) + 2 + szL (l.drop (k + 1)) := by
  rw [List.drop_eq_getElem_cons h, szL, List.getD_eq_getElem?_getD, List.getElem?_eq_getElem h]; rfl
theorem alt_drop {rs : List Rl} {k : Nat} (acc : ByteArray) (h : k < rs.length) : altT k acc (rs.drop k) = if relB (rs.getD k noRl).1 (rs.getD k noRl).2.1 (rs.getD k noRl).2.2 = false then none else altT (k + 1) ((if k = 0 then acc else acc ++ ⟨#[32, 124, 32]⟩) ++ txtB (rs.getD k noRl).1 (rs.getD k noRl).2.1 (rs.getD k noRl).2.2) (rs.drop (k + 1)) := by
  rw [List.drop_eq_getElem_cons h, altT, List.getD_eq_getElem?_getD, List.getElem?_eq_getElem h]; rfl
theorem lis_drop {l : List (List Rl)} {k : Nat} (acc : ByteArray) (h : k < l.length) : lisT k acc (l.drop k) = if l.getD k [] = [] then none else match altT 0 (if k = 0 then acc else acc ++ ⟨#[44, 32]⟩) (l.getD k []) with | none => none | some a => lisT (k + 1) a (l.drop (k + 1)) := by
  rw [List.drop_eq_getElem_cons h, lisT, List.getD_eq_getElem?_getD, List.getElem?_eq_getElem h]; rfl
end Go.Proofs.YtmfcaoacklbkoaaDoor
set_option linter.unusedSimpArgs false
set_option linter.unusedVariables false
namespace Go.Proofs.YtmfcaoacklbkoaaDoor
open Go Go.RowKit

theorem RdRs.all22 {w : World} {a : Option Addr} {c k : Nat} {l : List (List Rl)} (h : RdRs w (.slice a l.length c) l) (hk : k < l.length) :
    ∃ b off au cu, a = some ⟨b, off, none⟩ ∧ (l.getD k []).length ≤ cu ∧ cu ≤ maxLen ∧ (∀ W', Below w.heap.size w W' → W'.cell? ⟨b, off + k, none⟩ = some (.slice au (l.getD k []).length cu)) ∧
      (l.getD k [] ≠ [] → ∃ b2 off2, au = some ⟨b2, off2, none⟩ ∧ ∀ j, j < (l.getD k []).length → ∀ W', Below w.heap.size w W' → W'.cell? ⟨b2, off2 + j * 3, none⟩ = some (.string ((l.getD k []).getD j noRl).1) ∧ W'.cell? ⟨b2, off2 + j * 3 + 1, none⟩ = some (.int .i64 ((l.getD k []).getD j noRl).2.1) ∧ W'.cell? ⟨b2, off2 + j * 3 + 2, none⟩ = some (.string ((l.getD k []).getD j noRl).2.2)) := by
  obtain ⟨h1, a', c', e, hc, hm, h2⟩ := h
  injection e with q1 q2 q3
  subst q1
  obtain ⟨b, off, rfl, hlt, hcell⟩ := h2 (by intro e; subst e; simp at hk)
  obtain ⟨u, x, y⟩ := hcell k hk
  obtain ⟨y1, au, cu, rfl, yc, ym, y2⟩ := y
  refine ⟨b, off, au, cu, rfl, yc, ym, fun W' hb => (hb.cell (p := ⟨b, off + k, none⟩) hlt).trans x, fun hne => ?_⟩
  obtain ⟨b2, off2, e2, hl2, hc2⟩ := y2 hne
  refine ⟨b2, off2, e2, fun j hj W' hb => ?_⟩
  obtain ⟨p1, p2, p3⟩ := hc2 j hj
  exact ⟨(hb.cell (p := ⟨b2, off2 + j * 3, none⟩) hl2).trans p1, (hb.cell (p := ⟨b2, off2 + j * 3 + 1, none⟩) hl2).trans p2, (hb.cell (p := ⟨b2, off2 + j * 3 + 2, none⟩) hl2).trans p3⟩

end Go.Proofs.YtmfcaoacklbkoaaDoor
set_option linter.unusedSimpArgs false
set_option linter.unusedVariables false
namespace Go.Proofs.YtmfcaoacklbkoaaDoor
open Go Go.RowKit

theorem relC_at : ∀ (rs : List Rl) (j : Nat), j < rs.length → (relC rs)[j * 3]? = some (.string (rs.getD j noRl).1) ∧ (relC rs)[j * 3 + 1]? = some (.int .i64 (rs.getD j noRl).2.1) ∧ (relC rs)[j * 3 + 2]? = some (.string (rs.getD j noRl).2.2)
  | x :: r, 0, _ => ⟨rfl, rfl, rfl⟩
  | x :: r, j + 1, h => by
    have := relC_at r j (by simpa using h)
    have e : relC (x :: r) = .string x.1 :: .int .i64 x.2.1 :: .string x.2.2 :: relC r := rfl
    rw [e, show (j + 1) * 3 = j * 3 + 1 + 1 + 1 by omega, show j * 3 + 1 + 1 + 1 + 1 = (j * 3 + 1) + 1 + 1 + 1 by omega, show j * 3 + 1 + 1 + 1 + 2 = (j * 3 + 2) + 1 + 1 + 1 by omega]
    simpa using this
theorem OwnR.rd22 {B : Nat} {W : World} {v : Value} {rs : List Rl} (h : OwnR B W v rs) (h40 : rs.length * 40 ≤ 140737488351232) : RdR W v rs := by
  rcases h.2 with ⟨rfl, hn⟩ | ⟨g, cap, cur, rfl, hg, hh, hn, hm, hs, ht⟩
  · have : rs = [] := List.eq_nil_of_length_eq_zero hn
    subst this
    exact ⟨by simp, none, 0, rfl, Nat.le_refl _, Nat.zero_le _, fun h => absurd rfl h⟩
  · refine ⟨h40, _, cap, rfl, hn, hm, fun hne => ⟨g, 0, rfl, (Array.getElem?_eq_some_iff.1 hh).1, fun j hj => ?_⟩⟩
    have h1 := World.ownsRow.cellAt h (j * 3) (by omega)
    have h2 := World.ownsRow.cellAt h (j * 3 + 1) (by omega)
    have h3 := World.ownsRow.cellAt h (j * 3 + 2) (by omega)
    obtain ⟨e1, e2, e3⟩ := relC_at rs j hj
    rw [e1] at h1
    rw [e2] at h2
    rw [e3] at h3
    exact ⟨by simpa using h1, by simpa using h2, by simpa using h3⟩
theorem OwnRs.rd22 {B : Nat} {W : World} {v : Value} {L : List RG} (h : OwnRs B W v L) (h24 : L.length * 24 ≤ 140737488351232) (he : ∀ x ∈ L, x.2.length * 40 ≤ 140737488351232) : RdRs W v (rgS L) := by
  have hl : (rgS L).length = L.length := by simp [rgS]
  obtain ⟨a, c, rfl⟩ := row_form22 h.row
  rcases h.row.2 with ⟨e, hn⟩ | ⟨g, cap, cur, hv, hg, hh, hn, hm, hs, ht⟩
  · have : L = [] := List.eq_nil_of_length_eq_zero hn
    subst this
    injection e with q1 q2 q3
    subst q1 q3
    exact ⟨by simp [rgS], none, 0, rfl, Nat.le_refl _, Nat.zero_le _, fun h => absurd rfl h⟩
  · injection hv with q1 q2 q3
    subst q1 q3
    refine ⟨by rw [hl]; exact h24, _, _, by rw [hl], by rw [hl]; exact hn, hm, fun hne => ⟨g, 0, rfl, (Array.getElem?_eq_some_iff.1 hh).1, fun j hj => ?_⟩⟩
    rw [hl] at hj
    obtain ⟨g', e', _, hcell⟩ := h.cellAt22 hj
    injection e' with e'
    injection e' with e'
    subst e'
    have hx : L.getD j (undef, []) ∈ L := by rw [List.getD_eq_getElem?_getD, List.getElem?_eq_getElem hj]; exact List.getElem_mem hj
    refine ⟨_, by simpa using hcell, ?_⟩
    have h2 := (h.own _ hx).rd22 (he _ hx)
    have h3 : (rgS L).getD j [] = (L.getD j (undef, [])).2 := by unfold rgS; rw [List.getD_eq_getElem?_getD, List.getElem?_map, List.getD_eq_getElem?_getD, List.getElem?_eq_getElem hj]; rfl
    rw [h3]; exact h2
theorem one_row22 {B : Nat} (W : World) (r : Rl) (hB : B ≤ W.heap.size) : OwnR B (W.alloc (.cells #[.string r.1, .int .i64 r.2.1, .string r.2.2] 34)) (.slice (some ⟨W.heap.size, 0, none⟩) 1 1) [r] :=
  ⟨rfl, .inr ⟨W.heap.size, 1, #[.string r.1, .int .i64 r.2.1, .string r.2.2], rfl, hB, World.alloc_heap_new W _, Nat.le_refl _, by unfold maxLen; omega, rfl, rfl⟩⟩
theorem OwnRs.one22 {B : Nat} {W : World} {s : Value} {L : List RG} (h : OwnRs B W s L) (r : Rl) (hB : B ≤ W.heap.size) :
    St22 B (W.alloc (.cells #[.string r.1, .int .i64 r.2.1, .string r.2.2] 34)) s L (.slice (some ⟨W.heap.size, 0, none⟩) 1 1) [r] := by
  have hk : ∀ k, k < W.heap.size → (W.alloc (.cells #[.string r.1, .int .i64 r.2.1, .string r.2.2] 34)).heap[k]? = W.heap[k]? := fun k hk => Below.heap_alloc W _ k hk
  refine ⟨⟨row_kept22 h.row fun k e => hk k (World.ownsRow.lt h.row k e).2, fun x hx => row_kept22 (h.own x hx) fun k e => hk k (World.ownsRow.lt (h.own x hx) k e).2, h.ap⟩, one_row22 W r hB, fun x hx g e e2 => ?_⟩
  have h1 := (World.ownsRow.lt (h.own x hx) g e).2
  have h2 : W.heap.size = g := by simpa [Value.ownBlock] using e2
  omega

end Go.Proofs.YtmfcaoacklbkoaaDoor
set_option linter.unusedSimpArgs false
set_option linter.unusedVariables false
namespace Go.Proofs.YtmfcaoacklbkoaaDoor
open Go Go.RowKit

theorem blw_dn22 (W : World) (k : Nat) : Below W.heap.size W (W.drewN k) := ⟨rfl, rfl, rfl, Nat.le_refl _, fun _ _ => rfl⟩
theorem RdR.dn22 {W : World} {v : Value} {rs : List Rl} (h : RdR W v rs) (k : Nat) : RdR (W.drewN k) v rs := h.below22 (blw_dn22 W k)
theorem RdRs.dn22 {W : World} {v : Value} {l : List (List Rl)} (h : RdRs W v l) (k : Nat) : RdRs (W.drewN k) v l := h.below22 (blw_dn22 W k)
set_option maxHeartbeats 3200000 in
set_option maxRecDepth 20000 in
theorem same22 (u v : Value) (rs : List Rl) (w : World) (hu : RdR w u rs) (hv : RdR w v rs) :
    Calls Tryd.prog 15 #[u, v] w fun e w' => e = .returned (.bool true) ∧ ∃ m, w' = w.drewN m := by
  obtain ⟨a, c, rfl, hc, hm, hcu⟩ := hu.at22
  obtain ⟨b, d, rfl, hd, hm2, hcv⟩ := hv.at22
  have h40 := hu.1
  have HU : Hid (∀ j, j < rs.length → ∃ b off, a = some ⟨b, off, none⟩ ∧ w.cell? ⟨b, off + j * 3, none⟩ = some (.string (rs.getD j noRl).1) ∧ w.cell? ⟨b, off + j * 3 + 1, none⟩ = some (.int .i64 (rs.getD j noRl).2.1) ∧ w.cell? ⟨b, off + j * 3 + 2, none⟩ = some (.string (rs.getD j noRl).2.2)) := hcu
  have HV : Hid (∀ j, j < rs.length → ∃ g off, b = some ⟨g, off, none⟩ ∧ w.cell? ⟨g, off + j * 3, none⟩ = some (.string (rs.getD j noRl).1) ∧ w.cell? ⟨g, off + j * 3 + 1, none⟩ = some (.int .i64 (rs.getD j noRl).2.1) ∧ w.cell? ⟨g, off + j * 3 + 2, none⟩ = some (.string (rs.getD j noRl).2.2)) := hcv
  clear hu hv hcu hcv
  generalize rs.length = n at *
  go_enter Tryd.func15, Tryd.ntmps15
  go_wp2
  go_loopg [5] n (fun g i wr => ∃ k m : Nat, k + g = n ∧ i = .int .i64 k ∧ Hid (wr = w.drewN m))
  case atStart => exact ⟨0, 0, by omega, rfl, rfl⟩
  case round =>
    obtain ⟨k, m, hk, rfl, HW⟩ := hrel
    have HG : Hid (k + gk = n) := hk
    by_cases hlt : k < n
    · obtain ⟨ub, uo, rfl, x0, x1, x2⟩ := HU.out k hlt
      obtain ⟨vb, vo, rfl, y0, y1, y2⟩ := HV.out k hlt
      have X0 : wr.cell? ⟨ub, uo + k * 3, none⟩ = some (.string (rs.getD k noRl).1) := by rw [HW.out]; exact x0
      have X1 : wr.cell? ⟨ub, uo + k * 3 + 1, none⟩ = some (.int .i64 (rs.getD k noRl).2.1) := by rw [HW.out]; exact x1
      have X2 : wr.cell? ⟨ub, uo + k * 3 + 2, none⟩ = some (.string (rs.getD k noRl).2.2) := by rw [HW.out]; exact x2
      have Y0 : wr.cell? ⟨vb, vo + k * 3, none⟩ = some (.string (rs.getD k noRl).1) := by rw [HW.out]; exact y0
      have Y1 : wr.cell? ⟨vb, vo + k * 3 + 1, none⟩ = some (.int .i64 (rs.getD k noRl).2.1) := by rw [HW.out]; exact y1
      have Y2 : wr.cell? ⟨vb, vo + k * 3 + 2, none⟩ = some (.string (rs.getD k noRl).2.2) := by rw [HW.out]; exact y2
      clear x0 x1 x2 y0 y1 y2 hk
      generalize (rs.getD k noRl).1 = N at *
      generalize (rs.getD k noRl).2.1 = o at *
      generalize (rs.getD k noRl).2.2 = V at *
      go_upto_region 6 with fail
      go_quiet (fail)
      have HW2 : Hid (wr.drewN nq = w.drewN (m + nq)) := by show _ = _; rw [HW.out, World.drewN_drewN]
      clear X0 X1 X2 Y0 Y1 Y2
      generalize wr.drewN nq = wq at *
      go_wp2
      go_roundg (gk - 1)
      case measure => have := HG.out; omega
      case rel => exact ⟨k + 1, m + nq, by have := HG.out; omega, by go_num, HW2.out⟩
    · clear hk
      go_wp2
      go_ret
      exact ⟨rfl, m, HW.out⟩
set_option maxHeartbeats 3200000 in
set_option maxRecDepth 20000 in
theorem alike22 (u v : Value) (l : List (List Rl)) (w : World) (hu : RdRs w u l) (hv : RdRs w v l) :
    Calls Tryd.prog 16 #[u, v] w fun e w' => e = .returned (.bool true) ∧ ∃ m, w' = w.drewN m := by
  obtain ⟨a, c, rfl, hc, hm, hcu⟩ := hu.at22
  obtain ⟨b, d, rfl, hd, hm2, hcv⟩ := hv.at22
  have h24 := hu.1
  have HU : Hid (∀ j, j < l.length → ∃ b off u, a = some ⟨b, off, none⟩ ∧ w.cell? ⟨b, off + j, none⟩ = some u ∧ RdR w u (l.getD j [])) := hcu
  have HV : Hid (∀ j, j < l.length → ∃ g off u, b = some ⟨g, off, none⟩ ∧ w.cell? ⟨g, off + j, none⟩ = some u ∧ RdR w u (l.getD j [])) := hcv
  clear hu hv hcu hcv
  generalize l.length = n at *
  go_enter Tryd.func16, Tryd.ntmps16
  go_wp2
  go_loopg [5] n (fun g i wr => ∃ k m : Nat, k + g = n ∧ i = .int .i64 k ∧ Hid (wr = w.drewN m))
  case atStart => exact ⟨0, 0, by omega, rfl, rfl⟩
  case round =>
    obtain ⟨k, m, hk, rfl, HW⟩ := hrel
    have HG : Hid (k + gk = n) := hk
    by_cases hlt : k < n
    · obtain ⟨ub, uo, cu, rfl, x0, x1⟩ := HU.out k hlt
      obtain ⟨vb, vo, cv, rfl, y0, y1⟩ := HV.out k hlt
      generalize l.getD k [] = rs at *
      have X0 : wr.cell? ⟨ub, uo + k, none⟩ = some cu := by rw [HW.out]; exact x0
      have Y0 : wr.cell? ⟨vb, vo + k, none⟩ = some cv := by rw [HW.out]; exact y0
      have HSm : Hid (∀ j, Calls Tryd.prog 15 #[cu, cv] (wr.drewN j) fun e w' => e = .returned (.bool true) ∧ ∃ m, w' = (wr.drewN j).drewN m) := fun j => same22 cu cv rs _ (by rw [HW.out]; exact (x1.dn22 m).dn22 j) (by rw [HW.out]; exact (y1.dn22 m).dn22 j)
      obtain ⟨a1, c1, rfl, -, -, -⟩ := x1.at22
      obtain ⟨a2, c2, rfl, -, -, -⟩ := y1.at22
      clear x0 x1 y0 y1 hk
      generalize rs.length = nr at *
      go_upto_region 6 with fail
      go_quiet ((go_at_call 15; exact Calls.quiet_of (HSm.out _)))
      have HW2 : Hid (wr.drewN nq = w.drewN (m + nq)) := by show _ = _; rw [HW.out, World.drewN_drewN]
      clear X0 Y0 HSm
      generalize wr.drewN nq = wq at *
      go_wp2
      go_roundg (gk - 1)
      case measure => have := HG.out; omega
      case rel => exact ⟨k + 1, m + nq, by have := HG.out; omega, by go_num, HW2.out⟩
    · clear hk
      go_wp2
      go_ret
      exact ⟨rfl, m, HW.out⟩

end Go.Proofs.YtmfcaoacklbkoaaDoor
set_option linter.unusedSimpArgs false
set_option linter.unusedVariables false
namespace Go.Proofs.YtmfcaoacklbkoaaDoor
open Go Go.RowKit

theorem lst_each {s : ByteArray} {bars : Bool} : ∀ (f k : Nat) (out : List (List Rl)) (now : List Rl) (l : List (List Rl)), k ≤ s.size → now.length ≤ k → (∀ x ∈ out, x.length ≤ s.size) → lstS s bars f k out now = .ok l → ∀ x ∈ l, x.length ≤ s.size
  | 0, k, out, now, l, hk, hn, ho, h, x, hx => by
    injection h with h
    subst h
    cases hx
  | f + 1, k, out, now, l, hk, hn, ho, h, x, hx => by
    rw [lstS] at h
    split at h
    · cases h
    rename_i he
    obtain ⟨_, _, hq, hqs⟩ := one_ok22 hk (Classical.not_not.1 he)
    have ho2 : ∀ r : Rl, ∀ y ∈ out ++ [now ++ [r]], y.length ≤ s.size := fun r y hy => by
      rcases List.mem_append.1 hy with hy | hy
      · exact ho y hy
      · obtain rfl := List.mem_singleton.1 hy
        simp; omega
    have hgo : ∀ Z : Int, 0 ≤ Z → atB s (oneF s k).k = Z → k < runF gapZ s.data.toList ((oneF s k).k + 1) ∧ runF gapZ s.data.toList ((oneF s k).k + 1) ≤ s.size := fun Z h0 hz => by
      have hlt : (oneF s k).k < s.size := by
        apply Classical.byContradiction
        intro hn; rw [atB_out hn] at hz; omega
      have h1 := runF_le22 gapZ s (k := (oneF s k).k + 1) (by omega)
      have h2 := runF_ge gapZ s.data.toList ((oneF s k).k + 1)
      exact ⟨by omega, h1⟩
    split at h
    · rename_i hb
      obtain ⟨h1, h2⟩ := hgo 124 (by decide) hb.1
      exact lst_each f _ _ _ _ h2 (by simp; omega) ho h x hx
    split at h
    · injection h with h
      subst h
      exact ho2 _ x hx
    split at h
    · cases h
    · rename_i hc
      obtain ⟨h1, h2⟩ := hgo 44 (by decide) (Classical.not_not.1 hc)
      exact lst_each f _ _ _ _ h2 (by simp) (ho2 _) h x hx
theorem lstF_each {s : ByteArray} {bars : Bool} {l : List (List Rl)} (h : lstF s bars = .ok l) : ∀ x ∈ l, x.length ≤ s.size := by
  unfold lstF at h
  split at h
  · injection h with h
    subst h
    intro x hx
    cases hx
  · exact lst_each _ _ _ _ _ (runF_le22 gapZ s (Nat.zero_le _)) (Nat.zero_le _) (fun x hx => by cases hx) h
/-- the error, the place, the lists -/
def lsE (R : Except (Int × Int) (List (List Rl))) : Int := match R with | .error p => p.1 | .ok _ => 0
def lsQ (R : Except (Int × Int) (List (List Rl))) : Int := match R with | .error p => p.2 | .ok _ => 0
def lsL (R : Except (Int × Int) (List (List Rl))) : List (List Rl) := match R with | .error _ => [] | .ok l => l
theorem RdRs.nil22 (W : World) : RdRs W (.slice none 0 0) [] := ⟨by simp, none, 0, rfl, by simp, by unfold maxLen; omega, fun h => absurd rfl h⟩
theorem RdR.nil22 (W : World) : RdR W (.slice none 0 0) [] := ⟨by simp, none, 0, rfl, by simp, by unfold maxLen; omega, fun h => absurd rfl h⟩
theorem OwnRs.len22 {B : Nat} {W : World} {v : Value} {L : List RG} {l : List (List Rl)} (h : OwnRs B W v L) (hl : rgS L = l) : L.length = l.length := by rw [← hl]; simp [rgS]
/-- what Read answers, with what may be said of it later -/
theorem ls_rd22 {B : Nat} {w w' : World} {e : Ending} {s : ByteArray} {bars : Bool} (h : LsAns B w w' e (lstF s bars)) (hs : s.size ≤ 1099511627776) :
    ∃ v L, e = .returned (.tuple #[v, .int .i64 (lsE (lstF s bars)), .int .i64 (lsQ (lstF s bars))]) ∧ OwnRs B w' v L ∧ rgS L = lsL (lstF s bars) ∧ RdRs w' v (lsL (lstF s bars)) ∧ Below B w w' := by
  have h1 := fun l (q : lstF s bars = .ok l) => lstF_len q
  have h2 := fun l (q : lstF s bars = .ok l) => lstF_each q
  generalize lstF s bars = R at *
  cases R with
  | error p =>
    obtain ⟨rfl, hb⟩ := h
    exact ⟨_, [], rfl, OwnRs.nil _ _, rfl, RdRs.nil22 _, hb⟩
  | ok l =>
    obtain ⟨v, L, rfl, ho, hl, hb⟩ := h
    have h3 := h1 l rfl
    have h4 := h2 l rfl
    have h5 := ho.len22 hl
    refine ⟨v, L, rfl, ho, hl, ?_, hb⟩
    show RdRs w' v l
    rw [← hl]
    refine ho.rd22 (by omega) (fun x hx => ?_)
    have := h4 x.2 (by rw [← hl]; exact List.mem_map.2 ⟨x, hx, rfl⟩)
    omega
theorem lisF_len {s : ByteArray} : (lisF (lstF s false)).1.length ≤ s.size := by
  have h1 := fun l (q : lstF s false = .ok l) => lstF_len q
  generalize lstF s false = R at *
  cases R with
  | error p => exact Nat.zero_le _
  | ok l => have := h1 l rfl; simpa [lisF] using this

end Go.Proofs.YtmfcaoacklbkoaaDoor
set_option linter.unusedSimpArgs false
set_option linter.unusedVariables false
namespace Go.Proofs.YtmfcaoacklbkoaaDoor
open Go Go.RowKit

theorem onD_pl {s n v : ByteArray} {o : Int} {g : Nat} (hg : g ≤ s.size) : g ≤ (onD s n o v g).k ∧ (onD s n o v g).k ≤ s.size := by
  unfold onD
  split
  · rename_i e
    have hlt := at_lt22 (by decide) e
    have h1 := runF_ge gapZ s.data.toList (g + 1)
    have h2 := runF_le22 gapZ s (k := g + 1) (by omega)
    exact ⟨by show g ≤ runF _ _ _; omega, h2⟩
  · exact ⟨Nat.le_refl _, hg⟩
theorem onC_pl {s n : ByteArray} {o : Int} {d : Nat} (hd : d ≤ s.size) : d ≤ (onC s n o d).k ∧ (onC s n o d).k ≤ s.size := by
  unfold onC
  simp only []
  split
  · exact ⟨Nat.le_refl _, hd⟩
  split
  · exact ⟨Nat.le_refl _, hd⟩
  have hf := runF_le22 wrdZ s hd
  have hf2 := runF_ge wrdZ s.data.toList d
  have hg := runF_le22 gapZ s hf
  have hg2 := runF_ge gapZ s.data.toList (runF wrdZ s.data.toList d)
  obtain ⟨h1, h2⟩ := onD_pl (s := s) (n := n) (o := o) (v := s.extract d (runF wrdZ s.data.toList d)) hg
  exact ⟨by omega, h2⟩
theorem onB_pl {s n : ByteArray} {b : Nat} (hb : b ≤ s.size) : b ≤ (onB s n b).k ∧ (onB s n b).k ≤ s.size := by
  unfold onB
  simp only []
  split
  · exact ⟨Nat.le_refl _, hb⟩
  have hf := runF_le22 sgnZ s hb
  have hf2 := runF_ge sgnZ s.data.toList b
  have hg := runF_le22 gapZ s hf
  have hg2 := runF_ge gapZ s.data.toList (runF sgnZ s.data.toList b)
  obtain ⟨h1, h2⟩ := onC_pl (s := s) (n := n) (o := opF (s.extract b (runF sgnZ s.data.toList b))) hg
  exact ⟨by omega, h2⟩
theorem onA_pl {s n : ByteArray} {a : Nat} (ha : a ≤ s.size) : a ≤ (onA s n a).k ∧ (onA s n a).k ≤ s.size := by
  unfold onA
  split
  · rename_i e
    have hlt := at_lt22 (by decide) e
    have h1 := runF_ge gapZ s.data.toList (a + 1)
    have h2 := runF_le22 gapZ s (k := a + 1) (by omega)
    obtain ⟨h3, h4⟩ := onB_pl (s := s) (n := n) h2
    exact ⟨by omega, h4⟩
  · exact ⟨Nat.le_refl _, ha⟩
theorem one_pl {s : ByteArray} {k : Nat} (hk : k ≤ s.size) : k ≤ (oneF s k).k ∧ (oneF s k).k ≤ s.size := by
  unfold oneF
  simp only []
  split
  · exact ⟨Nat.le_refl _, hk⟩
  split
  · exact ⟨Nat.le_refl _, hk⟩
  have ht := runF_le22 wrdZ s hk
  have ht2 := runF_ge wrdZ s.data.toList k
  have ha := runF_le22 gapZ s ht
  have ha2 := runF_ge gapZ s.data.toList (runF wrdZ s.data.toList k)
  obtain ⟨h1, h2⟩ := onA_pl (s := s) (n := s.extract k (runF wrdZ s.data.toList k)) ha
  exact ⟨by omega, h2⟩
/-- where a fault lies -/
theorem lst_bad {s : ByteArray} {bars : Bool} : ∀ (f k : Nat) (out : List (List Rl)) (now : List Rl) (p : Int × Int), k ≤ s.size → lstS s bars f k out now = .error p → p.1 ≠ 0 ∧ (k : Int) ≤ p.2 ∧ p.2 ≤ s.size
  | 0, k, out, now, p, hk, h => by cases h
  | f + 1, k, out, now, p, hk, h => by
    obtain ⟨h1, h2⟩ := one_pl hk
    rw [lstS] at h
    split at h
    · rename_i he
      injection h with h
      subst h
      exact ⟨he, by simp only; omega, by simp only; omega⟩
    rename_i he
    split at h
    · rename_i hb
      obtain ⟨h3, h4⟩ := next22_lt hk he (by decide) hb.1
      obtain ⟨q1, q2, q3⟩ := lst_bad f _ _ _ p h4 h
      exact ⟨q1, by omega, q3⟩
    split at h
    · cases h
    split at h
    · injection h with h
      subst h
      exact ⟨show (220 : Int) ≠ 0 by decide, by simp only; omega, by simp only; omega⟩
    · rename_i hc
      obtain ⟨h3, h4⟩ := next22_lt hk he (by decide) (Classical.not_not.1 hc)
      obtain ⟨q1, q2, q3⟩ := lst_bad f _ _ _ p h4 h
      exact ⟨q1, by omega, q3⟩
/-- the lists that are done stay, and the one that is being read grows -/
theorem lst_grows {s : ByteArray} : ∀ (f k : Nat) (out : List (List Rl)) (now : List Rl) (l : List (List Rl)), k ≤ s.size → s.size < k + f → lstS s true f k out now = .ok l → ∃ x, x ∈ l ∧ now.length < x.length
  | 0, k, out, now, l, hk, hf, h => by omega
  | f + 1, k, out, now, l, hk, hf, h => by
    rw [lstS] at h
    split at h
    · cases h
    rename_i he
    split at h
    · rename_i hb
      obtain ⟨h3, h4⟩ := next22_lt hk he (by decide) hb.1
      obtain ⟨x, x1, x2⟩ := lst_grows f _ _ _ l h4 (by omega) h
      exact ⟨x, x1, by simp at x2; omega⟩
    split at h
    · injection h with h
      subst h
      exact ⟨now ++ [((oneF s k).n, (oneF s k).o, (oneF s k).v)], by simp, by simp⟩
    split at h
    · cases h
    · rename_i hc
      obtain ⟨h3, h4⟩ := next22_lt hk he (by decide) (Classical.not_not.1 hc)
      exact lst_has f _ _ _ l h4 (by omega) h (now ++ [((oneF s k).n, (oneF s k).o, (oneF s k).v)]) (by simp) (by simp)
  where
  lst_has {s : ByteArray} : ∀ (f k : Nat) (out : List (List Rl)) (now : List Rl) (l : List (List Rl)), k ≤ s.size → s.size < k + f → lstS s true f k out now = .ok l → ∀ y, y ∈ out → ∀ {n : Nat}, n < y.length → ∃ x, x ∈ l ∧ n < x.length := by
    intro f
    induction f with
    | zero => intro k out now l hk hf; omega
    | succ f ih =>
      intro k out now l hk hf h y hy n hn
      rw [lstS] at h
      split at h
      · cases h
      rename_i he
      split at h
      · rename_i hb
        obtain ⟨h3, h4⟩ := next22_lt hk he (by decide) hb.1
        exact ih _ _ _ l h4 (by omega) h y hy hn
      split at h
      · injection h with h
        subst h
        exact ⟨y, List.mem_append_left _ hy, hn⟩
      split at h
      · cases h
      · rename_i hc
        obtain ⟨h3, h4⟩ := next22_lt hk he (by decide) (Classical.not_not.1 hc)
        exact ih _ _ _ l h4 (by omega) h y (List.mem_append_left _ hy) hn
/-- both readings from a place on -/
theorem lst_both {s : ByteArray} : ∀ (f k : Nat) (out : List (List Rl)), k ≤ s.size → s.size < k + f → (∀ x ∈ out, x.length = 1) →
    (∀ p, lstS s true f k out [] = .error p → ∃ p', lstS s false f k out [] = .error p' ∧ p'.1 ≠ 0 ∧ p'.2 ≤ p.2) ∧
    (∀ l, lstS s true f k out [] = .ok l → (lstS s false f k out [] = .ok l ∧ ∀ x ∈ l, x.length = 1) ∨ (∃ q : Nat, lstS s false f k out [] = .error (220, (q : Int)) ∧ q < s.size ∧ atB s q = 124 ∧ ∃ x ∈ l, x.length ≠ 1))
  | 0, k, out, hk, hf, ho => by omega
  | f + 1, k, out, hk, hf, ho => by
    rw [lstS, lstS]
    by_cases he : (oneF s k).e ≠ 0
    · rw [if_pos he, if_pos he]
      exact ⟨fun p h => ⟨p, h, by injection h with h; subst h; exact he, by injection h with h; subst h; exact Int.le_refl _⟩, fun l h => by cases h⟩
    rw [if_neg he, if_neg he]
    by_cases hb : atB s (oneF s k).k = 124
    · have hlt := at_lt22 (by decide) hb
      obtain ⟨h3, h4⟩ := next22_lt hk he (by decide) hb
      have h5 := runF_ge gapZ s.data.toList ((oneF s k).k + 1)
      rw [if_pos ⟨hb, rfl⟩, if_neg (show ¬ (atB s (oneF s k).k = 124 ∧ false = true) by rintro ⟨_, h⟩; cases h), if_neg (by omega), if_pos (by rw [hb]; decide)]
      refine ⟨fun p h => ⟨_, rfl, show (220 : Int) ≠ 0 by decide, ?_⟩, fun l h => .inr ⟨_, rfl, hlt, hb, ?_⟩⟩
      · have := (lst_bad f _ _ _ p h4 h).2.1
        show ((oneF s k).k : Int) ≤ _
        omega
      · obtain ⟨x, x1, x2⟩ := lst_grows f _ _ _ l h4 (by omega) h
        exact ⟨x, x1, by simp at x2; omega⟩
    · rw [if_neg (fun h => hb h.1), if_neg (show ¬ (atB s (oneF s k).k = 124 ∧ false = true) by rintro ⟨_, h⟩; cases h)]
      by_cases hs : s.size ≤ (oneF s k).k
      · rw [if_pos hs, if_pos hs]
        refine ⟨fun p h => (by cases h), fun l h => .inl ⟨h, fun x hx => ?_⟩⟩
        injection h with h
        subst h
        rcases List.mem_append.1 hx with hx | hx
        · exact ho x hx
        · obtain rfl := List.mem_singleton.1 hx
          rfl
      · rw [if_neg hs, if_neg hs]
        by_cases hc : atB s (oneF s k).k ≠ 44
        · rw [if_pos hc, if_pos hc]
          exact ⟨fun p h => ⟨p, h, by injection h with h; subst h; exact (show (220 : Int) ≠ 0 by decide), by injection h with h; subst h; exact Int.le_refl _⟩, fun l h => by cases h⟩
        · rw [if_neg hc, if_neg hc]
          obtain ⟨h3, h4⟩ := next22_lt hk he (by decide) (Classical.not_not.1 hc)
          refine lst_both f _ _ h4 (by omega) (fun x hx => ?_)
          rcases List.mem_append.1 hx with hx | hx
          · exact ho x hx
          · obtain rfl := List.mem_singleton.1 hx
            rfl
theorem lstF_both (s : ByteArray) :
    (∀ p, lstF s true = .error p → ∃ p', lstF s false = .error p' ∧ p'.1 ≠ 0 ∧ p'.2 ≤ p.2) ∧
    (∀ l, lstF s true = .ok l → (lstF s false = .ok l ∧ ∀ x ∈ l, x.length = 1) ∨ (∃ q : Nat, lstF s false = .error (220, (q : Int)) ∧ q < s.size ∧ atB s q = 124 ∧ ∃ x ∈ l, x.length ≠ 1)) := by
  unfold lstF
  by_cases h : runF gapZ s.data.toList 0 = s.size
  · rw [if_pos h, if_pos h]
    exact ⟨fun p h => (by cases h), fun l h => .inl ⟨h, fun x hx => by injection h with h; subst h; cases hx⟩⟩
  · rw [if_neg h, if_neg h]
    exact lst_both _ _ _ (runF_le22 gapZ s (Nat.zero_le _)) (by omega) (fun x hx => by cases hx)
theorem flat_ones : ∀ {l : List (List Rl)}, (∀ x ∈ l, x.length = 1) → l.map (fun x => x.headD noRl) = l.flatten
  | [], _ => rfl
  | x :: q, h => by
    have h1 := h x (List.mem_cons_self ..)
    obtain ⟨r, rfl⟩ := List.length_eq_one_iff.1 h1
    rw [List.map_cons, List.flatten_cons, flat_ones fun y hy => h y (List.mem_cons_of_mem _ hy)]
    rfl

end Go.Proofs.YtmfcaoacklbkoaaDoor
