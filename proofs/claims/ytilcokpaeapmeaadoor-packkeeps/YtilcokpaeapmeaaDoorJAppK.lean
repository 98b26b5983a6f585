/-
  joined: AppK DrM
-/
import Derived.Test.YtilcokpaeapmeaaDoorKApp2
import Derived.Deep.RegionLaw
import Derived.Test.YtilcokpaeapmeaaDoorJPlain
import Derived.Test.YtilcokpaeapmeaaDoorJGrow
set_option linter.unusedSimpArgs false
set_option linter.unusedVariables false
namespace Go.Proofs.YtilcokpaeapmeaaDoor
open Go Go.RowKit

section
variable {P : Program} (w : World)
/-- append onto a row of structs of one's own: in its block, or in a new one -/
theorem run_append_apk (base : Nat) (t ty e : TypeId) (i : TypeInfo) (z : Value) (size bytes : Nat) (ht : P.underlying t = some (.slice e)) (hi : P.info? e = some i) (hz : i.zero = some z)
    (hsize : i.size = size) (hby : i.bytes = bytes) (hzs : z.cells.size = size) (hsz : 0 < size)
    (v : Value) (n : Nat) (xs : List Value) (hown : w.ownsRow base e size v n xs)
    (a : Addr) (m c : Nat) (news : List Value) (hl : news.length = m * size) (hnews : ∀ j u, news[j]? = some u → w.cell? (a.add j) = some u) (h1 : ∀ u ∈ news, u.oneCell' = true)
    (h63 : n + m ≤ maxLen) (hbytes : (n + m) * bytes ≤ 140737488355328) (hbase : base ≤ w.heap.size) :
    ∃ v' w', (Builtin.append_ #[t, t] ty #[v, .slice (some a) m c]).run P w = .ok v' w' ∧ w'.ownsRow base e size v' (n + m) (xs ++ news) ∧ Ap w v w' v' := by
  have hlen : (xs ++ news).length = (n + m) * size := by rw [List.length_append, hown.1, hl, Nat.add_mul]
  have up : ∀ {v' : Value} {w' : World}, w'.ownsRow w.heap.size e size v' (n + m) (xs ++ news) → w'.ownsRow base e size v' (n + m) (xs ++ news) := fun h => by
    refine ⟨h.1, ?_⟩
    rcases h.2 with hn | ⟨g, cap, cur, hv, hb', hg, r⟩
    · exact .inl hn
    · exact .inr ⟨g, cap, cur, hv, Nat.le_trans hbase hb', hg, r⟩
  have fresh : ∀ {v' : Value} {w' : World}, w'.ownsRow w.heap.size e size v' (n + m) (xs ++ news) → ∀ g, v'.ownBlock = some g → w.heap.size ≤ g := fun h g hg => (h.lt g hg).1
  rcases hown.2 with ⟨rfl, rfl⟩ | ⟨g, cap, cur, rfl, hbg, hg, hnc, hcm, hcs, htake⟩
  · have hx : xs = [] := List.eq_nil_of_length_eq_zero (by simpa using hown.1)
    subst hx
    obtain ⟨v', w', hr, h2, h3, -⟩ := run_append_own (P := P) w w.heap.size t ty e i z size bytes ht hi hz hsize hby hzs hsz (.slice none 0 0) 0 [] (World.ownsRow_nil w _ e size) a m c news hl hnews h1 h63 hbytes (Nat.le_refl _)
    exact ⟨v', w', hr, up h2, h3, .inr (fresh h2), .inr fun k hk => h3.block k hk (by simp [Value.ownBlock])⟩
  · by_cases hroom : n + m ≤ cap
    · have hmul : (n + m) * size ≤ cap * size := Nat.mul_le_mul_right _ hroom
      have hfit : n * i.size + news.length ≤ cur.size := by rw [hl, hcs, hsize, ← Nat.add_mul]; exact hmul
      have hr := run_append_room (P := P) w t ty e i ht hi g n cap cur hg a m c news (by rw [hl, hsize]) hnews h1 hroom hfit
      refine ⟨_, _, hr, ⟨hlen, .inr ⟨g, cap, _, rfl, hbg, setRow_heap w g cur _ e _ hg, hroom, hcm, ?_, ?_⟩⟩, ⟨rfl, rfl, rfl, by simp, fun k _ hk => setRow_other w g k _ (fun e => hk (by simp [e, Value.ownBlock]))⟩, .inl rfl, .inl rfl⟩
      · simp only [List.size_toArray, List.length_append, List.length_take, List.length_drop, Array.length_toList, hsize]
        rw [hsize] at hfit
        have : n * size ≤ cur.size := by omega
        rw [← hcs]; omega
      · rw [hsize, htake, ← hlen]
        exact List.take_left
    · have holds : ∀ j u, xs[j]? = some u → w.cell? ((⟨g, 0, none⟩ : Addr).add j) = some u := hown.cells (g := g) rfl
      obtain ⟨v', w', hrun, r1, r2⟩ := run_append_arg_grows (P := P) w t ty e i z size bytes ht hi hz hsize hby hzs hsz ⟨g, 0, none⟩ n cap xs hown.1 holds a m c news hl hnews (by omega) h63 hbytes
      exact ⟨v', w', hrun, up r1, ⟨r2.os, r2.tape, r2.output, r2.size, fun k hk _ => r2.block k hk (by simp)⟩, .inr (fresh r1), .inr fun k hk => r2.block k hk (by simp)⟩
end
theorem step_append_apk {P : Program} {ops : Array Oper} {o : Oper} {a : Act} {w : World} {K : Act → World → Prop} {Q : Exit → Act → World → Prop} {E : Prop}
    (hg : o.guard = none) (s x : Operand) (t : TypeId) (hop : o.op = Op.call { callee := Callee.builtin Builtin.append, args := #[s, x], argTypes := #[t, t] })
    (base : Nat) (e : TypeId) (i : TypeInfo) (z : Value) (size bytes : Nat) (h1 : P.underlying t = some (.slice e)) (h2 : P.info? e = some i) (h3 : i.zero = some z) (h4 : i.size = size) (h5 : i.bytes = bytes) (h6 : z.cells.size = size) (h7 : 0 < size)
    (v : Value) (n : Nat) (xs : List Value) (hs : a.eval s = v) (hown : w.ownsRow base e size v n xs)
    (ad : Addr) (m c : Nat) (news : List Value) (hx : a.eval x = .slice (some ad) m c) (hn : news.length = m * size) (hc : ∀ j u, news[j]? = some u → w.cell? (ad.add j) = some u) (h1c : ∀ u ∈ news, u.oneCell' = true)
    (b1 : n + m ≤ maxLen) (b2 : (n + m) * bytes ≤ 140737488355328) (hbase : base ≤ w.heap.size)
    (hK : ∀ v' w', w'.ownsRow base e size v' (n + m) (xs ++ news) → Ap w v w' v' → K (a.put o.dst v') w') :
    if Region.wanted o (yielded ops a.tmps) = true then Oper.wp P o a w K Q else E := by
  have hw : Region.wanted o (yielded ops a.tmps) = true := by simp [Region.wanted, hg]
  rw [if_pos hw]
  obtain ⟨v', w', hrun, r1, r2⟩ := run_append_apk (P := P) w base t o.type e i z size bytes h1 h2 h3 h4 h5 h6 h7 v n xs hown ad m c news hn hc h1c b1 b2 hbase
  unfold Oper.wp
  simp [execOp, hop, resolve, invoke, builtin, hs, hx, hrun, Result.andThen]
  exact hK v' w' r1 r2

theorem wpList_append_apk {P : Program} {w : World} {ops : Array Oper} {rest : List Oper} {o : Oper} {a : Act} {Q : Exit → Act → World → Prop} (hgd : o.guard = none) (s x : Operand) (t : TypeId)
    (hop : o.op = .call { callee := .builtin .append, args := #[s, x], argTypes := #[t, t] })
    (base : Nat) (e : TypeId) (i : TypeInfo) (z : Value) (size bytes : Nat) (h1 : P.underlying t = some (.slice e)) (h2 : P.info? e = some i) (h3 : i.zero = some z) (h4 : i.size = size) (h5 : i.bytes = bytes) (h6 : z.cells.size = size) (h7 : 0 < size)
    (v : Value) (n : Nat) (xs : List Value) (hs : a.eval s = v) (hown : w.ownsRow base e size v n xs)
    (ad : Addr) (m c : Nat) (news : List Value) (hx : a.eval x = .slice (some ad) m c) (hn : news.length = m * size) (hc : ∀ j u, news[j]? = some u → w.cell? (ad.add j) = some u) (h1c : ∀ u ∈ news, u.oneCell' = true)
    (b1 : n + m ≤ maxLen) (b2 : (n + m) * bytes ≤ 140737488355328) (hbase : base ≤ w.heap.size)
    (h : ∀ v' w', w'.ownsRow base e size v' (n + m) (xs ++ news) → Ap w v w' v' → wpList P ops Q rest (a.put o.dst v') w') :
    wpList P ops Q (o :: rest) a w := by
  refine wpList_plain hgd fun K hK => ?_
  obtain ⟨v', w', hrun, r1, r2⟩ := run_append_apk (P := P) w base t o.type e i z size bytes h1 h2 h3 h4 h5 h6 h7 v n xs hown ad m c news hn hc h1c b1 b2 hbase
  unfold Oper.wp execOp
  simp only [hop, resolve, invoke, builtin, Sem.run_bind, Sem.run_pure, Result.andThen_ok, List.map_toArray, List.map_cons, List.map_nil, hs, hx, hrun]
  exact hK _ _ (h v' w' r1 r2)
end Go.Proofs.YtilcokpaeapmeaaDoor
set_option linter.unusedSimpArgs false
set_option linter.unusedVariables false
namespace Go.Proofs.YtilcokpaeapmeaaDoor
open Go.RowKit

theorem infoZ : (Tryd.prog.info? 61).map (fun i => (i.zero, i.size, i.bytes)) = some (some (.agg #[.bool false, .slice none 0 0]), 2, 32) := by kernel_rfl

/-- the slice reads the steps l -/
def RdZ (w : World) (v : Value) (l : List Stp) : Prop :=
  l.length * 32 ≤ 140737488351232 ∧ ∃ a c, v = .slice a l.length c ∧ l.length ≤ c ∧ c ≤ maxLen ∧
    (l ≠ [] → ∃ b off, a = some ⟨b, off, none⟩ ∧ b < w.heap.size ∧ ∀ j, j < l.length → ∃ u, w.cell? ⟨b, off + j * 2, none⟩ = some (.bool (l.getD j (false, [])).1) ∧ w.cell? ⟨b, off + j * 2 + 1, none⟩ = some u ∧ Rd w u (l.getD j (false, [])).2)
theorem RdZ.len {w : World} {v : Value} {l : List Stp} (h : RdZ w v l) : l.length * 32 ≤ 140737488351232 := h.1
theorem RdZ.below {w w' : World} {v : Value} {l : List Stp} (h : RdZ w v l) (hb : Below w.heap.size w w') : RdZ w' v l := by
  obtain ⟨h1, a, c, rfl, hc, hm, h2⟩ := h
  refine ⟨h1, a, c, rfl, hc, hm, fun hne => ?_⟩
  obtain ⟨b, off, rfl, hlt, hcell⟩ := h2 hne
  refine ⟨b, off, rfl, Nat.lt_of_lt_of_le hlt hb.size, fun j hj => ?_⟩
  obtain ⟨u, hd, hu, hr⟩ := hcell j hj
  exact ⟨u, (hb.cell (p := ⟨b, off + j * 2, none⟩) hlt).trans hd, (hb.cell (p := ⟨b, off + j * 2 + 1, none⟩) hlt).trans hu, hr.below hb⟩
theorem RdZ.nil (w : World) : RdZ w (.slice none 0 0) [] := ⟨by simp, none, 0, rfl, Nat.le_refl _, Nat.zero_le _, fun h => absurd rfl h⟩
theorem RdZ.form {w : World} {v : Value} {l : List Stp} (h : RdZ w v l) : ∃ a c, v = .slice a l.length c ∧ l.length ≤ c ∧ c ≤ maxLen ∧ ∀ k, k < l.length → ∃ b off u, a = some ⟨b, off, none⟩ ∧ b < w.heap.size ∧ w.cell? ⟨b, off + k * 2, none⟩ = some (.bool (l.getD k (false, [])).1) ∧ w.cell? ⟨b, off + k * 2 + 1, none⟩ = some u ∧ Rd w u (l.getD k (false, [])).2 := by
  obtain ⟨h1, a, c, rfl, hc, hm, h2⟩ := h
  refine ⟨a, c, rfl, hc, hm, fun k hk => ?_⟩
  obtain ⟨b, off, e, hb, hcell⟩ := h2 (by intro e; subst e; simp at hk)
  obtain ⟨u, hd, hu, hr⟩ := hcell k hk
  exact ⟨b, off, u, e, hb, hd, hu, hr⟩

/-- a step with the value of its list -/
abbrev SV := Bool × Cls
def svC (L : List SV) : List Value := L.flatMap (fun x => [.bool x.1, x.2.1])
def svS (L : List SV) : List Stp := L.map (fun x => (x.1, x.2.2))
theorem svC_len (L : List SV) : (svC L).length = L.length * 2 := by
  induction L with
  | nil => rfl
  | cons x r ih => simp only [svC, List.flatMap_cons, List.length_append, List.length_cons, List.length_nil] at ih ⊢; omega
theorem svC_snoc (L : List SV) (x : SV) : svC (L ++ [x]) = svC L ++ [.bool x.1, x.2.1] := by simp [svC]
theorem svS_snoc (L : List SV) (x : SV) : svS (L ++ [x]) = svS L ++ [(x.1, x.2.2)] := by simp [svS]
theorem svS_len (L : List SV) : (svS L).length = L.length := by simp [svS]
theorem svC_at : ∀ (L : List SV) (j : Nat) (h : j < L.length), (svC L)[j * 2]? = some (.bool L[j].1) ∧ (svC L)[j * 2 + 1]? = some L[j].2.1
  | x :: r, 0, _ => ⟨rfl, rfl⟩
  | x :: r, j + 1, h => by
    have := svC_at r j (by simpa using h)
    have e : svC (x :: r) = .bool x.1 :: x.2.1 :: svC r := rfl
    rw [e, show (j + 1) * 2 = j * 2 + 1 + 1 by omega, show j * 2 + 1 + 1 + 1 = (j * 2 + 1) + 1 + 1 by omega]
    simpa using this
/-- a row of steps that a call owns, each list of its own and apart from the others -/
structure OwnZ (B : Nat) (W : World) (s : Value) (L : List SV) : Prop where
  row : W.ownsRow B 61 2 s L.length (svC L)
  own : ∀ x ∈ L, Own B W x.2.1 x.2.2
  ap : ApartC (L.map Prod.snd)
theorem OwnZ.nil (B : Nat) (W : World) : OwnZ B W (.slice none 0 0) [] := ⟨World.ownsRow_nil _ _ _ _, fun x hx => (by cases hx), List.Pairwise.nil⟩
theorem OwnZ.grown {B : Nat} {W W' : World} {s : Value} {L : List SV} (h : OwnZ B W s L) (hg : W.grownBy W' none) : OwnZ B W' s L :=
  ⟨World.ownsRow.kept h.row hg (one_or _), fun x hx => World.ownsRow.kept (h.own x hx) hg (one_or _), h.ap⟩
theorem OwnZ.below {B : Nat} {W W' : World} {s : Value} {L : List SV} (h : OwnZ B W s L) (hb : Below W.heap.size W W') : OwnZ B W' s L := h.grown (grown_below hb)
theorem OwnZ.mono {B B' : Nat} {W : World} {s : Value} {L : List SV} (h : OwnZ B W s L) (hb : B' ≤ B) : OwnZ B' W s L := ⟨row_mono h.row hb, fun x hx => (h.own x hx).mono hb, h.ap⟩
/-- one step more at the row's end -/
theorem OwnZ.app {B : Nat} {W Wa w1 : World} {s s' u : Value} {L : List SV} {d : Bool} {z : List Int} (h : OwnZ B W s L) (hga : W.grownBy Wa none) (own' : w1.ownsRow B 61 2 s' (L.length + 1) (svC L ++ [.bool d, u])) (hg : Wa.grownBy w1 s.ownBlock)
    (hu : Own B W u z) (hap : ApartC ((L ++ [(d, u, z)]).map Prod.snd)) : OwnZ B w1 s' (L ++ [(d, u, z)]) := by
  have rowa := World.ownsRow.kept h.row hga (one_or _)
  refine ⟨by rw [svC_snoc]; simpa using own', fun x hx => ?_, hap⟩
  have o0 : Own B W x.2.1 x.2.2 := by
    rcases List.mem_append.1 hx with hx | hx
    · exact h.own x hx
    · obtain rfl : x = (d, u, z) := by simpa using hx
      exact hu
  exact row_apart (by decide) (World.ownsRow.kept o0 hga (one_or _)) rowa hg
theorem OwnZ.rdz {B : Nat} {W : World} {s : Value} {L : List SV} (h : OwnZ B W s L) (h32 : L.length * 32 ≤ 140737488351232) (h8 : ∀ x ∈ L, x.2.2.length * 8 ≤ 140737488351232) : RdZ W s (svS L) := by
  rcases h.row.2 with ⟨rfl, hn⟩ | ⟨g, cap, cur, hv, hg, hh, hn, hm, hs, ht⟩
  · have : L = [] := List.length_eq_zero_iff.1 hn
    subst this; exact RdZ.nil W
  · subst hv
    refine ⟨by rw [svS_len]; exact h32, _, cap, by rw [svS_len], by rw [svS_len]; exact hn, hm, fun _ => ⟨g, 0, rfl, (Array.getElem?_eq_some_iff.1 hh).1, fun j hj => ?_⟩⟩
    have hj' : j < L.length := by rw [svS_len] at hj; exact hj
    obtain ⟨e1, e2⟩ := svC_at L j hj'
    have e : (svS L).getD j (false, []) = (L[j].1, L[j].2.2) := by simp [svS, List.getD_eq_getElem?_getD, hj']
    rw [e]
    refine ⟨L[j].2.1, ?_, ?_, (h.own _ (List.getElem_mem hj')).rd (h8 _ (List.getElem_mem hj'))⟩
    · rw [Nat.zero_add, World.ownsRow.cellAt h.row _ (by omega), e1]
    · rw [Nat.zero_add, World.ownsRow.cellAt h.row _ (by omega), e2]
theorem rdz_each {w : World} {v : Value} {l : List Stp} (h : RdZ w v l) : ∀ x ∈ l, x.2.length * 8 ≤ 140737488351232 := fun x hx => by
  obtain ⟨k, hk, rfl⟩ := List.getElem_of_mem hx
  obtain ⟨_, _, _, _, _, hc⟩ := h.form
  obtain ⟨_, _, u, _, _, _, _, hr⟩ := hc k hk
  have := hr.len
  simpa [List.getD_eq_getElem?_getD, hk] using this
/-- the steps l, in memory of the call's own -/
def OwnS (B : Nat) (W : World) (s : Value) (l : List Stp) : Prop := ∃ L : List SV, OwnZ B W s L ∧ svS L = l
theorem OwnS.below {B : Nat} {W W' : World} {s : Value} {l : List Stp} (h : OwnS B W s l) (hb : Below W.heap.size W W') : OwnS B W' s l := by
  obtain ⟨L, h, e⟩ := h; exact ⟨L, h.below hb, e⟩
theorem OwnS.mono {B B' : Nat} {W : World} {s : Value} {l : List Stp} (h : OwnS B W s l) (hb : B' ≤ B) : OwnS B' W s l := by
  obtain ⟨L, h, e⟩ := h; exact ⟨L, h.mono hb, e⟩
theorem OwnS.rdz {B : Nat} {W : World} {s : Value} {l : List Stp} (h : OwnS B W s l) (h32 : l.length * 32 ≤ 140737488351232) (h8 : ∀ x ∈ l, x.2.length * 8 ≤ 140737488351232) : RdZ W s l := by
  obtain ⟨L, h, rfl⟩ := h
  exact h.rdz (by rw [svS_len] at h32; exact h32) (fun x hx => h8 _ (List.mem_map_of_mem (f := fun x : SV => (x.1, x.2.2)) hx))
theorem OwnS.form {B : Nat} {W : World} {s : Value} {l : List Stp} (h : OwnS B W s l) : ∃ a c, s = .slice a l.length c := by
  obtain ⟨L, h, rfl⟩ := h
  rcases h.row.2 with ⟨rfl, hn⟩ | ⟨g, cap, cur, rfl, _⟩
  · exact ⟨none, 0, by rw [svS_len, hn]⟩
  · exact ⟨_, cap, by rw [svS_len]⟩

end Go.Proofs.YtilcokpaeapmeaaDoor
