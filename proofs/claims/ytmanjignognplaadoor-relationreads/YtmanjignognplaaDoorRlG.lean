/-
  The document's Read and ReadList of relations, walked.
  KEEP: lisF head22 put22 cellAt22 OwnR OwnRs St22 LsAns blw Ap put_app step_append_apk len below nil form rd mono on app start at new trans refl kept own row out grown rdz set one more lt size cell some none letL tail next step go add put del get look no yes e c f b k n m box take each block shape os tape output setCell heap alloc addr last blk drew keep done
-/
import Derived.Test.YtmanjignognplaaDoorRlF
set_option linter.unusedSimpArgs false
set_option linter.unusedVariables false
namespace Go.Proofs.YtmanjignognplaaDoor
open Go Go.RowKit

theorem rRead22_any (s : ByteArray) (w : World) (hs : s.size ≤ 1099511627776) :
    Calls Tryd.prog 11 #[.string s] w fun e w' => LsAns w.heap.size w w' e (lstF s true) := by
  have HL : Hid (Calls Tryd.prog 29 #[.string s, .bool true] w fun e w' => LsAns w.heap.size w w' e (lstF s true)) := rLists22_any s true w hs
  generalize lstF s true = R at *
  go_enter Tryd.func11, Tryd.ntmps11
  go_wp2_with fail
  refine HL.out.mono ?_
  intro e w1 h1
  cases R with
  | error p =>
    obtain ⟨rfl, hb⟩ := h1
    go_wp2
    go_returns
    exact ⟨rfl, hb⟩
  | ok l =>
    obtain ⟨v, L, rfl, ho, hl, hb⟩ := h1
    go_wp2
    go_returns
    exact ⟨v, L, rfl, ho, hl, hb⟩
theorem lst_ne {s : ByteArray} {bars : Bool} : ∀ (f k : Nat) (out : List (List Rl)) (now : List Rl) (l : List (List Rl)), (∀ x ∈ out, x ≠ []) → lstS s bars f k out now = .ok l → ∀ x ∈ l, x ≠ []
  | 0, k, out, now, l, ho, h, x, hx => by
    injection h with h
    subst h
    cases hx
  | f + 1, k, out, now, l, ho, h, x, hx => by
    have ho2 : ∀ r : Rl, ∀ y ∈ out ++ [now ++ [r]], y ≠ [] := fun r y hy => by
      rcases List.mem_append.1 hy with hy | hy
      · exact ho y hy
      · obtain rfl := List.mem_singleton.1 hy
        simp
    rw [lstS] at h
    split at h
    · cases h
    split at h
    · exact lst_ne f _ _ _ _ ho h x hx
    split at h
    · injection h with h
      subst h
      exact ho2 _ x hx
    split at h
    · cases h
    · exact lst_ne f _ _ _ _ (ho2 _) h x hx
theorem lstF_ne {s : ByteArray} {bars : Bool} {l : List (List Rl)} (h : lstF s bars = .ok l) : ∀ x ∈ l, x ≠ [] := by
  unfold lstF at h
  split at h
  · injection h with h
    subst h
    intro x hx
    cases hx
  · exact lst_ne _ _ _ _ _ (fun x hx => by cases hx) h
theorem lst_len {s : ByteArray} {bars : Bool} : ∀ (f k : Nat) (out : List (List Rl)) (now : List Rl) (l : List (List Rl)), k ≤ s.size → out.length ≤ k → lstS s bars f k out now = .ok l → l.length ≤ s.size
  | 0, k, out, now, l, hk, ho, h => by
    injection h with h
    subst h
    exact Nat.zero_le _
  | f + 1, k, out, now, l, hk, ho, h => by
    rw [lstS] at h
    split at h
    · cases h
    rename_i he
    obtain ⟨_, _, hq, hqs⟩ := one_ok22 hk (Classical.not_not.1 he)
    split at h
    · rename_i hb
      have hlt : (oneF s k).k < s.size := by
        apply Classical.byContradiction
        intro hn; rw [atB_out hn] at hb; exact absurd hb.1 (by decide)
      have h1 := runF_le22 gapZ s (k := (oneF s k).k + 1) (by omega)
      have h2 := runF_ge gapZ s.data.toList ((oneF s k).k + 1)
      exact lst_len f _ _ _ _ h1 (by omega) h
    split at h
    · injection h with h
      subst h
      simp; omega
    rename_i hnl
    split at h
    · cases h
    · have h1 := runF_le22 gapZ s (k := (oneF s k).k + 1) (by omega)
      have h2 := runF_ge gapZ s.data.toList ((oneF s k).k + 1)
      exact lst_len f _ _ _ _ h1 (by simp; omega) h
theorem lstF_len {s : ByteArray} {bars : Bool} {l : List (List Rl)} (h : lstF s bars = .ok l) : l.length ≤ s.size := by
  unfold lstF at h
  split at h
  · injection h with h
    subst h
    exact Nat.zero_le _
  · exact lst_len _ _ _ _ _ (runF_le22 gapZ s (Nat.zero_le _)) (Nat.zero_le _) h
abbrev noRl : Rl := (⟨#[]⟩, 0, ⟨#[]⟩)
/-- what ReadList comes to -/
def lisF (R : Except (Int × Int) (List (List Rl))) : List Rl × Int × Int :=
  match R with
  | .error p => ([], p.1, p.2)
  | .ok l => (l.map (fun x => x.headD noRl), 0, 0)
theorem OwnRs.cellAt22 {B : Nat} {W : World} {a : Option Addr} {c : Nat} {L : List RG} (h : OwnRs B W (.slice a L.length c) L) {j : Nat} (hj : j < L.length) :
    ∃ g, a = some ⟨g, 0, none⟩ ∧ g < W.heap.size ∧ W.cell? ⟨g, j, none⟩ = some (L.getD j (undef, [])).1 := by
  have h1 := h.row
  have hd : (rgC L)[j]? = some (L.getD j (undef, [])).1 := by
    unfold rgC
    rw [List.getElem?_map, List.getElem?_eq_getElem hj, List.getD_eq_getElem?_getD, List.getElem?_eq_getElem hj]; rfl
  rcases h1.2 with ⟨e, hn⟩ | ⟨g, cap, cur, hv, hg, hh, r⟩
  · omega
  · injection hv with h2 h3 h4
    subst h2; subst h4
    have h5 := World.ownsRow.cellAt h1 j (by omega)
    rw [hd] at h5
    exact ⟨g, rfl, (Array.getElem?_eq_some_iff.1 hh).1, by simpa using h5⟩
theorem OwnR.head22 {B : Nat} {W : World} {v : Value} {rs : List Rl} (h : OwnR B W v rs) (hne : rs ≠ []) :
    ∃ g c, v = .slice (some ⟨g, 0, none⟩) rs.length c ∧ g < W.heap.size ∧ W.cell? ⟨g, 0, none⟩ = some (.string (rs.headD noRl).1) ∧ W.cell? ⟨g, 1, none⟩ = some (.int .i64 (rs.headD noRl).2.1) ∧ W.cell? ⟨g, 2, none⟩ = some (.string (rs.headD noRl).2.2) := by
  cases rs with
  | nil => exact absurd rfl hne
  | cons x r =>
    rcases h.2 with ⟨e, hn⟩ | ⟨g, cap, cur, rfl, hg, hh, q⟩
    · simp at hn
    · have h0 := World.ownsRow.cellAt h 0 (by simp <;> omega)
      have h1 := World.ownsRow.cellAt h 1 (by simp <;> omega)
      have h2 := World.ownsRow.cellAt h 2 (by simp <;> omega)
      exact ⟨g, cap, rfl, (Array.getElem?_eq_some_iff.1 hh).1, by simpa [relC] using h0, by simpa [relC] using h1, by simpa [relC] using h2⟩
theorem OwnR.put22 {B : Nat} {W w8 : World} {v v8 : Value} {N : List Rl} {o : Obj} {r : Rl} (h : OwnR B W v N) (own8 : w8.ownsRow B 23 3 v8 (N.length + 1) (relC N ++ [.string r.1, .int .i64 r.2.1, .string r.2.2])) :
    OwnR B w8 v8 (N ++ [r]) ∧ ∃ a8 c8, v8 = .slice a8 (N.length + 1) c8 := ⟨by unfold OwnR; rw [relC_snoc]; simpa using own8, row_form22 own8⟩
set_option maxHeartbeats 3200000 in
set_option maxRecDepth 20000 in
theorem rReadList22_any (s : ByteArray) (w : World) (hs : s.size ≤ 1099511627776) :
    Calls Tryd.prog 14 #[.string s] w fun e w' => ∃ v, e = .returned (.tuple #[v, .int .i64 (lisF (lstF s false)).2.1, .int .i64 (lisF (lstF s false)).2.2]) ∧ OwnR w.heap.size w' v (lisF (lstF s false)).1 ∧ Below w.heap.size w w' := by
  have HL : Hid (Calls Tryd.prog 29 #[.string s, .bool false] w fun e w' => LsAns w.heap.size w w' e (lstF s false)) := rLists22_any s false w hs
  have HNe : Hid (∀ l, lstF s false = .ok l → (∀ x ∈ l, x ≠ []) ∧ l.length ≤ s.size) := fun l h => ⟨lstF_ne h, lstF_len h⟩
  generalize lstF s false = R at *
  obtain ⟨i0, hi, hz0, hz1, hz2⟩ := info_parts infoR22
  have HIn : Hid (Tryd.prog.info? 23 = some i0 ∧ i0.zero = some (.agg #[.string ⟨#[]⟩, .int .i64 0, .string ⟨#[]⟩]) ∧ i0.size = 3 ∧ i0.bytes = 40) := ⟨hi, hz0, hz1, hz2⟩
  clear hi hz0 hz1 hz2
  go_enter Tryd.func14, Tryd.ntmps14
  go_wp2_with fail
  refine HL.out.mono ?_
  intro e w1 h1
  have key : ∃ (a : Option Addr) (c : Nat) (L : List RG) (er at' : Int), e = .returned (.tuple #[.slice a L.length c, .int .i64 er, .int .i64 at']) ∧ OwnRs w.heap.size w1 (.slice a L.length c) L ∧ Below w.heap.size w w1 ∧ (∀ x ∈ L, x.2 ≠ []) ∧ L.length ≤ s.size ∧ lisF R = (L.map (fun x => x.2.headD noRl), er, at') := by
    cases R with
    | error p =>
      obtain ⟨rfl, hb⟩ := h1
      exact ⟨none, 0, [], p.1, p.2, rfl, OwnRs.nil _ _, hb, fun x hx => (by cases hx), Nat.zero_le _, rfl⟩
    | ok l =>
      obtain ⟨v, L, rfl, ho, hl, hb⟩ := h1
      obtain ⟨a, c, rfl⟩ := row_form22 ho.row
      obtain ⟨q1, q2⟩ := HNe.out l rfl
      refine ⟨a, c, L, 0, 0, rfl, ho, hb, fun x hx => q1 x.2 (by rw [← hl]; exact List.mem_map.2 ⟨x, hx, rfl⟩), by rw [← hl] at q2; simpa [rgS] using q2, ?_⟩
      rw [← hl]; simp [lisF, rgS]
  clear h1 HNe HL
  obtain ⟨a5, c5, L, er, at', rfl, ho, hb, hne, hlen, hR⟩ := key
  have HLo : Hid (OwnRs w.heap.size w1 (.slice a5 L.length c5) L) := ho
  have HB1 : Hid (Below w.heap.size w w1) := hb
  have HNn : Hid (∀ x ∈ L, x.2 ≠ []) := hne
  have HR : Hid (lisF R = (L.map (fun x => x.2.headD noRl), er, at')) := hR
  clear ho hb hne hR
  go_wp2
  go_loopg [8, 9] L.length (fun g o i wr => ∃ (k : Nat) (N : List Rl) (a8 : Option Addr) (c8 : Nat), k + g = L.length ∧ N.length = k ∧ i = .int .i64 k ∧ o = .slice a8 N.length c8 ∧ Hid (N ++ (L.drop k).map (fun x => x.2.headD noRl) = L.map (fun x => x.2.headD noRl)) ∧ Hid (OwnR w1.heap.size wr (.slice a8 N.length c8) N) ∧ Hid (Below w1.heap.size w1 wr))
  case atStart => exact ⟨0, [], none, 0, by omega, rfl, rfl, rfl, rfl, OwnR.nil _ _, Below.refl _ _⟩
  case round =>
    obtain ⟨k, N, a8, c8, hk, hNk, rfl, rfl, HN, HO, HB⟩ := hrel
    have HG : Hid (k + gk = L.length) := hk
    by_cases hlt : k < L.length
    · obtain ⟨g, rfl, hgl, hgc⟩ := HLo.out.cellAt22 hlt
      have hx : L.getD k (undef, []) ∈ L := by rw [List.getD_eq_getElem?_getD, List.getElem?_eq_getElem hlt]; exact List.getElem_mem hlt
      obtain ⟨g2, c2, hv2, hg2, hc0, hc1, hc2⟩ := (HLo.out.own _ hx).head22 (HNn.out _ hx)
      have hpos : 0 < (L.getD k (undef, [])).2.length := List.length_pos_iff.2 (HNn.out _ hx)
      have hdr : L.drop k = L.getD k (undef, []) :: L.drop (k + 1) := by rw [List.drop_eq_getElem_cons hlt, List.getD_eq_getElem?_getD, List.getElem?_eq_getElem hlt]; rfl
      rw [hv2] at hgc
      have HN2 : Hid ((N ++ [(L.getD k (undef, [])).2.headD noRl]) ++ (L.drop (k + 1)).map (fun x => x.2.headD noRl) = L.map (fun x => x.2.headD noRl)) := by show _ = _; rw [← HN.out, hdr]; simp
      generalize (L.getD k (undef, [])).2.headD noRl = r at *
      obtain ⟨n, o, v⟩ := r
      generalize (L.getD k (undef, [])).2.length = m at *
      have hcW : wr.cell? ⟨g, k, none⟩ = some (.slice (some ⟨g2, 0, none⟩) m c2) := (HB.out.cell (p := ⟨g, k, none⟩) hgl).trans hgc
      have e0 : wr.cell? ⟨g2, 0, none⟩ = some (.string n) := (HB.out.cell (p := ⟨g2, 0, none⟩) hg2).trans hc0
      have e1 : wr.cell? ⟨g2, 1, none⟩ = some (.int .i64 o) := (HB.out.cell (p := ⟨g2, 1, none⟩) hg2).trans hc1
      have e2 : wr.cell? ⟨g2, 2, none⟩ = some (.string v) := (HB.out.cell (p := ⟨g2, 2, none⟩) hg2).trans hc2
      clear hgc hc0 hc1 hc2 hdr hx hk HN hv2
      have HRow : Hid ((wr.alloc (.cells #[.string n, .int .i64 o, .string v] 23)).ownsRow w1.heap.size 23 3 (.slice a8 N.length c8) N.length (relC N)) := World.ownsRow.alloc HO.out _
      have HNw : Hid (∀ j u, [Value.string n, Value.int .i64 o, Value.string v][j]? = some u → (wr.alloc (.cells #[.string n, .int .i64 o, .string v] 23)).cell? ((⟨wr.heap.size, 0, none⟩ : Addr).add j) = some u) := three_new22 wr _ _ _ _
      have HPt : Hid (∀ v8 w8, w8.ownsRow w1.heap.size 23 3 v8 (N.length + 1) (relC N ++ [.string n, .int .i64 o, .string v]) → Ap (wr.alloc (.cells #[.string n, .int .i64 o, .string v] 23)) (.slice a8 N.length c8) w8 v8 → (OwnR w1.heap.size w8 v8 (N ++ [(n, o, v)]) ∧ ∃ a9 c9, v8 = .slice a9 (N.length + 1) c9) ∧ Below w1.heap.size w1 w8) := fun v8 w8 o8 p8 => ⟨OwnR.put22 (o := .cells #[] 0) (r := (n, o, v)) HO.out o8, (Below.alloc HB.out HB.out.size _).grown p8.grown (Nat.le_trans HB.out.size (by simp)) (fun q hq => (World.ownsRow.lt HO.out q hq).1)⟩
      have hszb : w1.heap.size ≤ wr.heap.size := HB.out.size
      have hw1 : IntKind.i64.wrap ((k : Int) + 1) = (k : Int) + 1 := by rw [IntKind.wrap_i64]; omega
      go_wp2_with (at_builtin; refine wpList_append_apk rfl (.tmp 22) (.tmp 29) 32 rfl w1.heap.size 23 i0 (.agg #[.string ⟨#[]⟩, .int .i64 0, .string ⟨#[]⟩]) 3 40 Tryd.underlying32 HIn.out.1 HIn.out.2.1 HIn.out.2.2.1 HIn.out.2.2.2 rfl (by decide) (.slice a8 N.length c8) N.length (relC N) rfl HRow.out ⟨wr.heap.size, 0, none⟩ 1 1 [.string n, .int .i64 o, .string v] rfl rfl HNw.out (by simp [Value.oneCell']) (by unfold maxLen; omega) (by omega) (by simp; omega) ?_; intro v8 w8 own8 ap8; obtain ⟨⟨s8, a9, c9, rfl⟩, b8⟩ := HPt.out v8 w8 own8 ap8; have HT8 : Hid (OwnR w1.heap.size w8 (.slice a9 (N.length + 1) c9) (N ++ [(n, o, v)])) := s8; have HB8 : Hid (Below w1.heap.size w1 w8) := b8; clear own8 ap8 s8 b8)
      all_goals
        go_roundg (gk - 1)
        case measure => have := HG.out; omega
        case rel => exact ⟨k + 1, N ++ [(n, o, v)], a9, c9, by have := HG.out; omega, by simp; omega, by first | rfl | go_num, by simp; omega, HN2.out, by rw [List.length_append]; exact HT8.out, HB8.out⟩
    · have HE : Hid (N = L.map (fun x => x.2.headD noRl)) := by show _ = _; have := HN.out; rw [List.drop_eq_nil_of_le (by omega)] at this; simpa using this
      have HBw : Hid (Below w.heap.size w wr) := HB1.out.trans (HB.out.mono HB1.out.size)
      clear hk HN
      go_wp2
      go_returns
      rw [HR.out]
      exact ⟨_, rfl, by show OwnR _ _ _ (L.map _); rw [← HE.out]; exact row_mono HO.out HB1.out.size, HBw.out⟩
end Go.Proofs.YtmanjignognplaaDoor
