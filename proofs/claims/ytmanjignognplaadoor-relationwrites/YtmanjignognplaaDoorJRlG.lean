/-
  joined: RlG RlH RlI RmB
-/
import Derived.Test.YtmanjignognplaaDoorRlF
import Derived.Test.YtmanjignognplaaDoorRlC
import Derived.Deep.QuietTactic
import Derived.BigQuiet
import Derived.Deep.CutRange
set_option linter.unusedSimpArgs false
set_option linter.unusedVariables false
namespace Go.Proofs.YtmanjignognplaaDoor
open Go Go.RowKit

theorem rRead22_any (s : ByteArray) (w : World) (hs : s.size ≤ 1099511627776) :
    Calls Tryd.prog 11 #[.string s] w fun e w' => LsAns w.heap.size w w' e (lstF s true) := by
  have HL : Hid (Calls Tryd.prog 29 #[.string s, .bool true] w fun e w' => LsAns w.heap.size w w' e (lstF s true)) := rLists22_any s true w hs
  generalize lstF s true = R at *
  go_enter Tryd.func11, Tryd.ntmps11
  go_wp2_with fail
  refine HL.out.mono ?_
  intro e w1 h1
  cases R with
  | error p =>
    obtain ⟨rfl, hb⟩ := h1
    go_wp2
    go_returns
    exact ⟨rfl, hb⟩
  | ok l =>
    obtain ⟨v, L, rfl, ho, hl, hb⟩ := h1
    go_wp2
    go_returns
    exact ⟨v, L, rfl, ho, hl, hb⟩
theorem lst_ne {s : ByteArray} {bars : Bool} : ∀ (f k : Nat) (out : List (List Rl)) (now : List Rl) (l : List (List Rl)), (∀ x ∈ out, x ≠ []) → lstS s bars f k out now = .ok l → ∀ x ∈ l, x ≠ []
  | 0, k, out, now, l, ho, h, x, hx => by
    injection h with h
    subst h
    cases hx
  | f + 1, k, out, now, l, ho, h, x, hx => by
    have ho2 : ∀ r : Rl, ∀ y ∈ out ++ [now ++ [r]], y ≠ [] := fun r y hy => by
      rcases List.mem_append.1 hy with hy | hy
      · exact ho y hy
      · obtain rfl := List.mem_singleton.1 hy
        simp
    rw [lstS] at h
    split at h
    · cases h
    split at h
    · exact lst_ne f _ _ _ _ ho h x hx
    split at h
    · injection h with h
      subst h
      exact ho2 _ x hx
    split at h
    · cases h
    · exact lst_ne f _ _ _ _ (ho2 _) h x hx
theorem lstF_ne {s : ByteArray} {bars : Bool} {l : List (List Rl)} (h : lstF s bars = .ok l) : ∀ x ∈ l, x ≠ [] := by
  unfold lstF at h
  split at h
  · injection h with h
    subst h
    intro x hx
    cases hx
  · exact lst_ne _ _ _ _ _ (fun x hx => by cases hx) h
theorem lst_len {s : ByteArray} {bars : Bool} : ∀ (f k : Nat) (out : List (List Rl)) (now : List Rl) (l : List (List Rl)), k ≤ s.size → out.length ≤ k → lstS s bars f k out now = .ok l → l.length ≤ s.size
  | 0, k, out, now, l, hk, ho, h => by
    injection h with h
    subst h
    exact Nat.zero_le _
  | f + 1, k, out, now, l, hk, ho, h => by
    rw [lstS] at h
    split at h
    · cases h
    rename_i he
    obtain ⟨_, _, hq, hqs⟩ := one_ok22 hk (Classical.not_not.1 he)
    split at h
    · rename_i hb
      have hlt : (oneF s k).k < s.size := by
        apply Classical.byContradiction
        intro hn; rw [atB_out hn] at hb; exact absurd hb.1 (by decide)
      have h1 := runF_le22 gapZ s (k := (oneF s k).k + 1) (by omega)
      have h2 := runF_ge gapZ s.data.toList ((oneF s k).k + 1)
      exact lst_len f _ _ _ _ h1 (by omega) h
    split at h
    · injection h with h
      subst h
      simp; omega
    rename_i hnl
    split at h
    · cases h
    · have h1 := runF_le22 gapZ s (k := (oneF s k).k + 1) (by omega)
      have h2 := runF_ge gapZ s.data.toList ((oneF s k).k + 1)
      exact lst_len f _ _ _ _ h1 (by simp; omega) h
theorem lstF_len {s : ByteArray} {bars : Bool} {l : List (List Rl)} (h : lstF s bars = .ok l) : l.length ≤ s.size := by
  unfold lstF at h
  split at h
  · injection h with h
    subst h
    exact Nat.zero_le _
  · exact lst_len _ _ _ _ _ (runF_le22 gapZ s (Nat.zero_le _)) (Nat.zero_le _) h
abbrev noRl : Rl := (⟨#[]⟩, 0, ⟨#[]⟩)
/-- what ReadList comes to -/
def lisF (R : Except (Int × Int) (List (List Rl))) : List Rl × Int × Int :=
  match R with
  | .error p => ([], p.1, p.2)
  | .ok l => (l.map (fun x => x.headD noRl), 0, 0)
theorem OwnRs.cellAt22 {B : Nat} {W : World} {a : Option Addr} {c : Nat} {L : List RG} (h : OwnRs B W (.slice a L.length c) L) {j : Nat} (hj : j < L.length) :
    ∃ g, a = some ⟨g, 0, none⟩ ∧ g < W.heap.size ∧ W.cell? ⟨g, j, none⟩ = some (L.getD j (undef, [])).1 := by
  have h1 := h.row
  have hd : (rgC L)[j]? = some (L.getD j (undef, [])).1 := by
    unfold rgC
    rw [List.getElem?_map, List.getElem?_eq_getElem hj, List.getD_eq_getElem?_getD, List.getElem?_eq_getElem hj]; rfl
  rcases h1.2 with ⟨e, hn⟩ | ⟨g, cap, cur, hv, hg, hh, r⟩
  · omega
  · injection hv with h2 h3 h4
    subst h2; subst h4
    have h5 := World.ownsRow.cellAt h1 j (by omega)
    rw [hd] at h5
    exact ⟨g, rfl, (Array.getElem?_eq_some_iff.1 hh).1, by simpa using h5⟩
theorem OwnR.head22 {B : Nat} {W : World} {v : Value} {rs : List Rl} (h : OwnR B W v rs) (hne : rs ≠ []) :
    ∃ g c, v = .slice (some ⟨g, 0, none⟩) rs.length c ∧ g < W.heap.size ∧ W.cell? ⟨g, 0, none⟩ = some (.string (rs.headD noRl).1) ∧ W.cell? ⟨g, 1, none⟩ = some (.int .i64 (rs.headD noRl).2.1) ∧ W.cell? ⟨g, 2, none⟩ = some (.string (rs.headD noRl).2.2) := by
  cases rs with
  | nil => exact absurd rfl hne
  | cons x r =>
    rcases h.2 with ⟨e, hn⟩ | ⟨g, cap, cur, rfl, hg, hh, q⟩
    · simp at hn
    · have h0 := World.ownsRow.cellAt h 0 (by simp <;> omega)
      have h1 := World.ownsRow.cellAt h 1 (by simp <;> omega)
      have h2 := World.ownsRow.cellAt h 2 (by simp <;> omega)
      exact ⟨g, cap, rfl, (Array.getElem?_eq_some_iff.1 hh).1, by simpa [relC] using h0, by simpa [relC] using h1, by simpa [relC] using h2⟩
theorem OwnR.put22 {B : Nat} {W w8 : World} {v v8 : Value} {N : List Rl} {o : Obj} {r : Rl} (h : OwnR B W v N) (own8 : w8.ownsRow B 23 3 v8 (N.length + 1) (relC N ++ [.string r.1, .int .i64 r.2.1, .string r.2.2])) :
    OwnR B w8 v8 (N ++ [r]) ∧ ∃ a8 c8, v8 = .slice a8 (N.length + 1) c8 := ⟨by unfold OwnR; rw [relC_snoc]; simpa using own8, row_form22 own8⟩
set_option maxHeartbeats 3200000 in
set_option maxRecDepth 20000 in
theorem rReadList22_any (s : ByteArray) (w : World) (hs : s.size ≤ 1099511627776) :
    Calls Tryd.prog 14 #[.string s] w fun e w' => ∃ v, e = .returned (.tuple #[v, .int .i64 (lisF (lstF s false)).2.1, .int .i64 (lisF (lstF s false)).2.2]) ∧ OwnR w.heap.size w' v (lisF (lstF s false)).1 ∧ Below w.heap.size w w' := by
  have HL : Hid (Calls Tryd.prog 29 #[.string s, .bool false] w fun e w' => LsAns w.heap.size w w' e (lstF s false)) := rLists22_any s false w hs
  have HNe : Hid (∀ l, lstF s false = .ok l → (∀ x ∈ l, x ≠ []) ∧ l.length ≤ s.size) := fun l h => ⟨lstF_ne h, lstF_len h⟩
  generalize lstF s false = R at *
  obtain ⟨i0, hi, hz0, hz1, hz2⟩ := info_parts infoR22
  have HIn : Hid (Tryd.prog.info? 23 = some i0 ∧ i0.zero = some (.agg #[.string ⟨#[]⟩, .int .i64 0, .string ⟨#[]⟩]) ∧ i0.size = 3 ∧ i0.bytes = 40) := ⟨hi, hz0, hz1, hz2⟩
  clear hi hz0 hz1 hz2
  go_enter Tryd.func14, Tryd.ntmps14
  go_wp2_with fail
  refine HL.out.mono ?_
  intro e w1 h1
  have key : ∃ (a : Option Addr) (c : Nat) (L : List RG) (er at' : Int), e = .returned (.tuple #[.slice a L.length c, .int .i64 er, .int .i64 at']) ∧ OwnRs w.heap.size w1 (.slice a L.length c) L ∧ Below w.heap.size w w1 ∧ (∀ x ∈ L, x.2 ≠ []) ∧ L.length ≤ s.size ∧ lisF R = (L.map (fun x => x.2.headD noRl), er, at') := by
    cases R with
    | error p =>
      obtain ⟨rfl, hb⟩ := h1
      exact ⟨none, 0, [], p.1, p.2, rfl, OwnRs.nil _ _, hb, fun x hx => (by cases hx), Nat.zero_le _, rfl⟩
    | ok l =>
      obtain ⟨v, L, rfl, ho, hl, hb⟩ := h1
      obtain ⟨a, c, rfl⟩ := row_form22 ho.row
      obtain ⟨q1, q2⟩ := HNe.out l rfl
      refine ⟨a, c, L, 0, 0, rfl, ho, hb, fun x hx => q1 x.2 (by rw [← hl]; exact List.mem_map.2 ⟨x, hx, rfl⟩), by rw [← hl] at q2; simpa [rgS] using q2, ?_⟩
      rw [← hl]; simp [lisF, rgS]
  clear h1 HNe HL
  obtain ⟨a5, c5, L, er, at', rfl, ho, hb, hne, hlen, hR⟩ := key
  have HLo : Hid (OwnRs w.heap.size w1 (.slice a5 L.length c5) L) := ho
  have HB1 : Hid (Below w.heap.size w w1) := hb
  have HNn : Hid (∀ x ∈ L, x.2 ≠ []) := hne
  have HR : Hid (lisF R = (L.map (fun x => x.2.headD noRl), er, at')) := hR
  clear ho hb hne hR
  go_wp2
  go_loopg [8, 9] L.length (fun g o i wr => ∃ (k : Nat) (N : List Rl) (a8 : Option Addr) (c8 : Nat), k + g = L.length ∧ N.length = k ∧ i = .int .i64 k ∧ o = .slice a8 N.length c8 ∧ Hid (N ++ (L.drop k).map (fun x => x.2.headD noRl) = L.map (fun x => x.2.headD noRl)) ∧ Hid (OwnR w1.heap.size wr (.slice a8 N.length c8) N) ∧ Hid (Below w1.heap.size w1 wr))
  case atStart => exact ⟨0, [], none, 0, by omega, rfl, rfl, rfl, rfl, OwnR.nil _ _, Below.refl _ _⟩
  case round =>
    obtain ⟨k, N, a8, c8, hk, hNk, rfl, rfl, HN, HO, HB⟩ := hrel
    have HG : Hid (k + gk = L.length) := hk
    by_cases hlt : k < L.length
    · obtain ⟨g, rfl, hgl, hgc⟩ := HLo.out.cellAt22 hlt
      have hx : L.getD k (undef, []) ∈ L := by rw [List.getD_eq_getElem?_getD, List.getElem?_eq_getElem hlt]; exact List.getElem_mem hlt
      obtain ⟨g2, c2, hv2, hg2, hc0, hc1, hc2⟩ := (HLo.out.own _ hx).head22 (HNn.out _ hx)
      have hpos : 0 < (L.getD k (undef, [])).2.length := List.length_pos_iff.2 (HNn.out _ hx)
      have hdr : L.drop k = L.getD k (undef, []) :: L.drop (k + 1) := by rw [List.drop_eq_getElem_cons hlt, List.getD_eq_getElem?_getD, List.getElem?_eq_getElem hlt]; rfl
      rw [hv2] at hgc
      have HN2 : Hid ((N ++ [(L.getD k (undef, [])).2.headD noRl]) ++ (L.drop (k + 1)).map (fun x => x.2.headD noRl) = L.map (fun x => x.2.headD noRl)) := by show _ = _; rw [← HN.out, hdr]; simp
      generalize (L.getD k (undef, [])).2.headD noRl = r at *
      obtain ⟨n, o, v⟩ := r
      generalize (L.getD k (undef, [])).2.length = m at *
      have hcW : wr.cell? ⟨g, k, none⟩ = some (.slice (some ⟨g2, 0, none⟩) m c2) := (HB.out.cell (p := ⟨g, k, none⟩) hgl).trans hgc
      have e0 : wr.cell? ⟨g2, 0, none⟩ = some (.string n) := (HB.out.cell (p := ⟨g2, 0, none⟩) hg2).trans hc0
      have e1 : wr.cell? ⟨g2, 1, none⟩ = some (.int .i64 o) := (HB.out.cell (p := ⟨g2, 1, none⟩) hg2).trans hc1
      have e2 : wr.cell? ⟨g2, 2, none⟩ = some (.string v) := (HB.out.cell (p := ⟨g2, 2, none⟩) hg2).trans hc2
      clear hgc hc0 hc1 hc2 hdr hx hk HN hv2
      have HRow : Hid ((wr.alloc (.cells #[.string n, .int .i64 o, .string v] 23)).ownsRow w1.heap.size 23 3 (.slice a8 N.length c8) N.length (relC N)) := World.ownsRow.alloc HO.out _
      have HNw : Hid (∀ j u, [Value.string n, Value.int .i64 o, Value.string v][j]? = some u → (wr.alloc (.cells #[.string n, .int .i64 o, .string v] 23)).cell? ((⟨wr.heap.size, 0, none⟩ : Addr).add j) = some u) := three_new22 wr _ _ _ _
      have HPt : Hid (∀ v8 w8, w8.ownsRow w1.heap.size 23 3 v8 (N.length + 1) (relC N ++ [.string n, .int .i64 o, .string v]) → Ap (wr.alloc (.cells #[.string n, .int .i64 o, .string v] 23)) (.slice a8 N.length c8) w8 v8 → (OwnR w1.heap.size w8 v8 (N ++ [(n, o, v)]) ∧ ∃ a9 c9, v8 = .slice a9 (N.length + 1) c9) ∧ Below w1.heap.size w1 w8) := fun v8 w8 o8 p8 => ⟨OwnR.put22 (o := .cells #[] 0) (r := (n, o, v)) HO.out o8, (Below.alloc HB.out HB.out.size _).grown p8.grown (Nat.le_trans HB.out.size (by simp)) (fun q hq => (World.ownsRow.lt HO.out q hq).1)⟩
      have hszb : w1.heap.size ≤ wr.heap.size := HB.out.size
      have hw1 : IntKind.i64.wrap ((k : Int) + 1) = (k : Int) + 1 := by rw [IntKind.wrap_i64]; omega
      go_wp2_with (at_builtin; refine wpList_append_apk rfl (.tmp 22) (.tmp 29) 32 rfl w1.heap.size 23 i0 (.agg #[.string ⟨#[]⟩, .int .i64 0, .string ⟨#[]⟩]) 3 40 Tryd.underlying32 HIn.out.1 HIn.out.2.1 HIn.out.2.2.1 HIn.out.2.2.2 rfl (by decide) (.slice a8 N.length c8) N.length (relC N) rfl HRow.out ⟨wr.heap.size, 0, none⟩ 1 1 [.string n, .int .i64 o, .string v] rfl rfl HNw.out (by simp [Value.oneCell']) (by unfold maxLen; omega) (by omega) (by simp; omega) ?_; intro v8 w8 own8 ap8; obtain ⟨⟨s8, a9, c9, rfl⟩, b8⟩ := HPt.out v8 w8 own8 ap8; have HT8 : Hid (OwnR w1.heap.size w8 (.slice a9 (N.length + 1) c9) (N ++ [(n, o, v)])) := s8; have HB8 : Hid (Below w1.heap.size w1 w8) := b8; clear own8 ap8 s8 b8)
      all_goals
        go_roundg (gk - 1)
        case measure => have := HG.out; omega
        case rel => exact ⟨k + 1, N ++ [(n, o, v)], a9, c9, by have := HG.out; omega, by simp; omega, by first | rfl | go_num, by simp; omega, HN2.out, by rw [List.length_append]; exact HT8.out, HB8.out⟩
    · have HE : Hid (N = L.map (fun x => x.2.headD noRl)) := by show _ = _; have := HN.out; rw [List.drop_eq_nil_of_le (by omega)] at this; simpa using this
      have HBw : Hid (Below w.heap.size w wr) := HB1.out.trans (HB.out.mono HB1.out.size)
      clear hk HN
      go_wp2
      go_returns
      rw [HR.out]
      exact ⟨_, rfl, by show OwnR _ _ _ (L.map _); rw [← HE.out]; exact row_mono HO.out HB1.out.size, HBw.out⟩
end Go.Proofs.YtmanjignognplaaDoor
set_option linter.unusedSimpArgs false
set_option linter.unusedVariables false
namespace Go.Proofs.YtmanjignognplaaDoor
open Go Go.RowKit

theorem sgF_size (o : Int) : (sgF o).size ≤ 2 := by
  unfold sgF
  repeat' split
  all_goals decide
/-- a relation's text -/
def txtB (n : ByteArray) (o : Int) (v : ByteArray) : ByteArray := if o = 0 then n else ((((n ++ ⟨#[32, 40]⟩) ++ sgF o) ++ ⟨#[32]⟩) ++ v) ++ ⟨#[41]⟩
theorem cat22 (x y : ByteArray) (h : x.size + y.size ≤ 9223372036854775807) (w : World) : (Op.stringOp .add x y).run Tryd.prog w = .ok (.string (x ++ y)) w := run_string_add_sum w x y h
set_option maxHeartbeats 3200000 in
set_option maxRecDepth 20000 in
theorem rText22_any (n : ByteArray) (o : Int) (v : ByteArray) (w : World) (hn : n.size ≤ 1099511627776) (hv : v.size ≤ 1099511627776) :
    Calls Tryd.prog 37 #[.agg #[.string n, .int .i64 o, .string v]] w fun e w' => e = .returned (.string (txtB n o v)) ∧ Below w.heap.size w w' := by
  have HS : Hid (∀ V, Calls Tryd.prog 25 #[.int .i64 o] V fun e w' => e = .returned (.string (sgF o)) ∧ w' = V) := fun V => rSign22o_any o V
  have HT : Hid (txtB n o v = if o = 0 then n else ((((n ++ ⟨#[32, 40]⟩) ++ sgF o) ++ ⟨#[32]⟩) ++ v) ++ ⟨#[41]⟩) := rfl
  have hg := sgF_size o
  generalize txtB n o v = T at *
  go_enter Tryd.func37, Tryd.ntmps37
  go_upto_region 1 with fail
  have HBa : Hid (Below w.heap.size w (w.alloc (.cells #[.string n, .int .i64 o, .string v] 23))) := Below.alloc (Below.refl _ _) (Nat.le_refl _) _
  have HQ : Hid (Rq (w.alloc (.cells #[.string n, .int .i64 o, .string v] 23)) w.heap.size n o v) := Rq.newS _ _ _ _ _ rfl
  generalize w.alloc (.cells #[.string n, .int .i64 o, .string v] 23) = W at *
  have c0 := HQ.out.c0
  have c1 := HQ.out.c1
  have c2 := HQ.out.c2
  by_cases h0 : o = 0
  · subst h0
    have HE : Hid (T = n) := HT.out
    clear HT
    go_wp2
    go_ret
    exact ⟨by rw [HE.out]; rfl, HBa.out⟩
  · have d0 : (o == 0) = false := by simpa using h0
    have HE0 : T = ((((n ++ ⟨#[32, 40]⟩) ++ sgF o) ++ ⟨#[32]⟩) ++ v) ++ ⟨#[41]⟩ := by rw [HT.out, if_neg h0]
    clear HT h0
    generalize sgF o = G at *
    have s1 : (n ++ (⟨#[32, 40]⟩ : ByteArray)).size = n.size + 2 := ByteArray.size_append
    have k1 := cat22 n ⟨#[32, 40]⟩ (by show n.size + 2 ≤ _; omega)
    generalize n ++ (⟨#[32, 40]⟩ : ByteArray) = t1 at *
    have s2 : (t1 ++ G).size = t1.size + G.size := ByteArray.size_append
    have k2 := cat22 t1 G (by omega)
    generalize t1 ++ G = t2 at *
    have s3 : (t2 ++ (⟨#[32]⟩ : ByteArray)).size = t2.size + 1 := ByteArray.size_append
    have k3 := cat22 t2 ⟨#[32]⟩ (by show t2.size + 1 ≤ _; omega)
    generalize t2 ++ (⟨#[32]⟩ : ByteArray) = t3 at *
    have s4 : (t3 ++ v).size = t3.size + v.size := ByteArray.size_append
    have k4 := cat22 t3 v (by omega)
    generalize t3 ++ v = t4 at *
    have k5 := cat22 t4 ⟨#[41]⟩ (by show t4.size + 1 ≤ _; omega)
    generalize t4 ++ (⟨#[41]⟩ : ByteArray) = t5 at *
    have HE : Hid (T = t5) := HE0
    clear HE0 s1 s2 s3 s4 hg
    go_wp2_with fail
    go_cut [2] from 8 to 19 (fun p wx => p = .string t5 ∧ wx = W.drew)
    case first =>
      go_region_law (go_wp2_with (go_at_call 25; refine (HS.out _).mono ?_; rintro e w8 ⟨rfl, h8⟩; have h8s := h8.symm; clear h8; subst h8s))
      all_goals
        go_wp2_with fail
        go_meet
        exact ⟨rfl, rfl⟩
    case rest =>
      obtain ⟨rfl, rfl⟩ := hcut
      go_wp2
      go_ret
      exact ⟨by rw [HE.out]; rfl, HBa.out.drew⟩
end Go.Proofs.YtmanjignognplaaDoor
set_option linter.unusedSimpArgs false
set_option linter.unusedVariables false
namespace Go.Proofs.YtmanjignognplaaDoor
open Go Go.RowKit

/-- a slice reads relations -/
def RdR (w : World) (v : Value) (rs : List Rl) : Prop :=
  rs.length * 40 ≤ 140737488351232 ∧ ∃ a c, v = .slice a rs.length c ∧ rs.length ≤ c ∧ c ≤ maxLen ∧
    (rs ≠ [] → ∃ b off, a = some ⟨b, off, none⟩ ∧ b < w.heap.size ∧ ∀ j, j < rs.length → w.cell? ⟨b, off + j * 3, none⟩ = some (.string (rs.getD j noRl).1) ∧ w.cell? ⟨b, off + j * 3 + 1, none⟩ = some (.int .i64 (rs.getD j noRl).2.1) ∧ w.cell? ⟨b, off + j * 3 + 2, none⟩ = some (.string (rs.getD j noRl).2.2))
theorem RdR.below22 {w w' : World} {v : Value} {rs : List Rl} (h : RdR w v rs) (hb : Below w.heap.size w w') : RdR w' v rs := by
  obtain ⟨h1, a, c, rfl, hc, hm, h2⟩ := h
  refine ⟨h1, a, c, rfl, hc, hm, fun hne => ?_⟩
  obtain ⟨b, off, rfl, hlt, hcell⟩ := h2 hne
  refine ⟨b, off, rfl, Nat.lt_of_lt_of_le hlt hb.size, fun j hj => ?_⟩
  obtain ⟨x, y, z⟩ := hcell j hj
  exact ⟨(hb.cell (p := ⟨b, off + j * 3, none⟩) hlt).trans x, (hb.cell (p := ⟨b, off + j * 3 + 1, none⟩) hlt).trans y, (hb.cell (p := ⟨b, off + j * 3 + 2, none⟩) hlt).trans z⟩
theorem RdR.at22 {w : World} {v : Value} {rs : List Rl} (h : RdR w v rs) : ∃ a c, v = .slice a rs.length c ∧ rs.length ≤ c ∧ c ≤ maxLen ∧ ∀ j, j < rs.length → ∃ b off, a = some ⟨b, off, none⟩ ∧ w.cell? ⟨b, off + j * 3, none⟩ = some (.string (rs.getD j noRl).1) ∧ w.cell? ⟨b, off + j * 3 + 1, none⟩ = some (.int .i64 (rs.getD j noRl).2.1) ∧ w.cell? ⟨b, off + j * 3 + 2, none⟩ = some (.string (rs.getD j noRl).2.2) := by
  obtain ⟨h1, a, c, rfl, hc, hm, h2⟩ := h
  refine ⟨a, c, rfl, hc, hm, fun j hj => ?_⟩
  obtain ⟨b, off, e, hb, hcell⟩ := h2 (by intro e; subst e; simp at hj)
  exact ⟨b, off, e, hcell j hj⟩
/-- a slice reads lists of relations -/
def RdRs (w : World) (v : Value) (l : List (List Rl)) : Prop :=
  l.length * 24 ≤ 140737488351232 ∧ ∃ a c, v = .slice a l.length c ∧ l.length ≤ c ∧ c ≤ maxLen ∧
    (l ≠ [] → ∃ b off, a = some ⟨b, off, none⟩ ∧ b < w.heap.size ∧ ∀ j, j < l.length → ∃ u, w.cell? ⟨b, off + j, none⟩ = some u ∧ RdR w u (l.getD j []))
theorem RdRs.below22 {w w' : World} {v : Value} {l : List (List Rl)} (h : RdRs w v l) (hb : Below w.heap.size w w') : RdRs w' v l := by
  obtain ⟨h1, a, c, rfl, hc, hm, h2⟩ := h
  refine ⟨h1, a, c, rfl, hc, hm, fun hne => ?_⟩
  obtain ⟨b, off, rfl, hlt, hcell⟩ := h2 hne
  refine ⟨b, off, rfl, Nat.lt_of_lt_of_le hlt hb.size, fun j hj => ?_⟩
  obtain ⟨u, x, y⟩ := hcell j hj
  exact ⟨u, (hb.cell (p := ⟨b, off + j, none⟩) hlt).trans x, y.below22 hb⟩
theorem RdRs.at22 {w : World} {v : Value} {l : List (List Rl)} (h : RdRs w v l) : ∃ a c, v = .slice a l.length c ∧ l.length ≤ c ∧ c ≤ maxLen ∧ ∀ j, j < l.length → ∃ b off u, a = some ⟨b, off, none⟩ ∧ w.cell? ⟨b, off + j, none⟩ = some u ∧ RdR w u (l.getD j []) := by
  obtain ⟨h1, a, c, rfl, hc, hm, h2⟩ := h
  refine ⟨a, c, rfl, hc, hm, fun j hj => ?_⟩
  obtain ⟨b, off, e, hb, hcell⟩ := h2 (by intro e; subst e; simp at hj)
  obtain ⟨u, x, y⟩ := hcell j hj
  exact ⟨b, off, u, e, x, y⟩

def altT : Nat → ByteArray → List Rl → Option ByteArray
  | _, acc, [] => some acc
  | k, acc, r :: q => if relB r.1 r.2.1 r.2.2 = false then none else altT (k + 1) ((if k = 0 then acc else acc ++ ⟨#[32, 124, 32]⟩) ++ txtB r.1 r.2.1 r.2.2) q
def lisT : Nat → ByteArray → List (List Rl) → Option ByteArray
  | _, acc, [] => some acc
  | i, acc, rs :: q => if rs = [] then none else match altT 0 (if i = 0 then acc else acc ++ ⟨#[44, 32]⟩) rs with | none => none | some a => lisT (i + 1) a q
def szR : List Rl → Nat
  | [] => 0
  | r :: q => r.1.size + r.2.2.size + 10 + szR q
def szL : List (List Rl) → Nat
  | [] => 0
  | rs :: q => szR rs + 2 + szL q
def wrA22 (R : Option ByteArray) : Value := match R with | none => .tuple #[.string ⟨#[]⟩, .int .i64 1] | some t => .tuple #[.string t, .int .i64 0]
theorem txtB_size (n : ByteArray) (o : Int) (v : ByteArray) : (txtB n o v).size ≤ n.size + v.size + 6 := by
  unfold txtB
  have := sgF_size o
  split
  · omega
  · simp only [ByteArray.size_append]
    show n.size + 2 + (sgF o).size + 1 + v.size + 1 ≤ _
    omega
theorem alt_size : ∀ (k : Nat) (acc : ByteArray) (rs : List Rl) (t : ByteArray), altT k acc rs = some t → t.size ≤ acc.size + szR rs
  | k, acc, [], t, h => by
    injection h with h
    subst h
    exact Nat.le_add_right _ _
  | k, acc, r :: q, t, h => by
    rw [altT] at h
    split at h
    · cases h
    · have h1 := alt_size _ _ _ _ h
      have h2 := txtB_size r.1 r.2.1 r.2.2
      rw [ByteArray.size_append] at h1
      rw [szR]
      split at h1
      · omega
      · rw [ByteArray.size_append] at h1
        have : (⟨#[32, 124, 32]⟩ : ByteArray).size = 3 := rfl
        omega
theorem szR_drop {rs : List Rl} {k : Nat} (h : k < rs.length) : szR (rs.drop k) = (rs.getD k noRl).1.size + (rs.getD k noRl).2.2.size + 10 + szR (rs.drop (k + 1)) := by
  rw [List.drop_eq_getElem_cons h, szR, List.getD_eq_getElem?_getD, List.getElem?_eq_getElem h]; rfl
theorem szL_drop {l : List (List Rl)} {k : Nat} (h : k < l.length) : szL (l.drop k) = szR (l.getD k []) + 2 + szL (l.drop (k + 1)) := by
  rw [List.drop_eq_getElem_cons h, szL, List.getD_eq_getElem?_getD, List.getElem?_eq_getElem h]; rfl
theorem alt_drop {rs : List Rl} {k : Nat} (acc : ByteArray) (h : k < rs.length) : altT k acc (rs.drop k) = if relB (rs.getD k noRl).1 (rs.getD k noRl).2.1 (rs.getD k noRl).2.2 = false then none else altT (k + 1) ((if k = 0 then acc else acc ++ ⟨#[32, 124, 32]⟩) ++ txtB (rs.getD k noRl).1 (rs.getD k noRl).2.1 (rs.getD k noRl).2.2) (rs.drop (k + 1)) := by
  rw [List.drop_eq_getElem_cons h, altT, List.getD_eq_getElem?_getD, List.getElem?_eq_getElem h]; rfl
theorem lis_drop {l : List (List Rl)} {k : Nat} (acc : ByteArray) (h : k < l.length) : lisT k acc (l.drop k) = if l.getD k [] = [] then none else match altT 0 (if k = 0 then acc else acc ++ ⟨#[44, 32]⟩) (l.getD k []) with | none => none | some a => lisT (k + 1) a (l.drop (k + 1)) := by
  rw [List.drop_eq_getElem_cons h, lisT, List.getD_eq_getElem?_getD, List.getElem?_eq_getElem h]; rfl
end Go.Proofs.YtmanjignognplaaDoor
set_option linter.unusedSimpArgs false
set_option linter.unusedVariables false
namespace Go.Proofs.YtmanjignognplaaDoor
open Go Go.RowKit

theorem blw_dn22 (W : World) (k : Nat) : Below W.heap.size W (W.drewN k) := ⟨rfl, rfl, rfl, Nat.le_refl _, fun _ _ => rfl⟩
theorem RdR.dn22 {W : World} {v : Value} {rs : List Rl} (h : RdR W v rs) (k : Nat) : RdR (W.drewN k) v rs := h.below22 (blw_dn22 W k)
theorem RdRs.dn22 {W : World} {v : Value} {l : List (List Rl)} (h : RdRs W v l) (k : Nat) : RdRs (W.drewN k) v l := h.below22 (blw_dn22 W k)
set_option maxHeartbeats 3200000 in
set_option maxRecDepth 20000 in
theorem same22 (u v : Value) (rs : List Rl) (w : World) (hu : RdR w u rs) (hv : RdR w v rs) :
    Calls Tryd.prog 15 #[u, v] w fun e w' => e = .returned (.bool true) ∧ ∃ m, w' = w.drewN m := by
  obtain ⟨a, c, rfl, hc, hm, hcu⟩ := hu.at22
  obtain ⟨b, d, rfl, hd, hm2, hcv⟩ := hv.at22
  have h40 := hu.1
  have HU : Hid (∀ j, j < rs.length → ∃ b off, a = some ⟨b, off, none⟩ ∧ w.cell? ⟨b, off + j * 3, none⟩ = some (.string (rs.getD j noRl).1) ∧ w.cell? ⟨b, off + j * 3 + 1, none⟩ = some (.int .i64 (rs.getD j noRl).2.1) ∧ w.cell? ⟨b, off + j * 3 + 2, none⟩ = some (.string (rs.getD j noRl).2.2)) := hcu
  have HV : Hid (∀ j, j < rs.length → ∃ g off, b = some ⟨g, off, none⟩ ∧ w.cell? ⟨g, off + j * 3, none⟩ = some (.string (rs.getD j noRl).1) ∧ w.cell? ⟨g, off + j * 3 + 1, none⟩ = some (.int .i64 (rs.getD j noRl).2.1) ∧ w.cell? ⟨g, off + j * 3 + 2, none⟩ = some (.string (rs.getD j noRl).2.2)) := hcv
  clear hu hv hcu hcv
  generalize rs.length = n at *
  go_enter Tryd.func15, Tryd.ntmps15
  go_wp2
  go_loopg [5] n (fun g i wr => ∃ k m : Nat, k + g = n ∧ i = .int .i64 k ∧ Hid (wr = w.drewN m))
  case atStart => exact ⟨0, 0, by omega, rfl, rfl⟩
  case round =>
    obtain ⟨k, m, hk, rfl, HW⟩ := hrel
    have HG : Hid (k + gk = n) := hk
    by_cases hlt : k < n
    · obtain ⟨ub, uo, rfl, x0, x1, x2⟩ := HU.out k hlt
      obtain ⟨vb, vo, rfl, y0, y1, y2⟩ := HV.out k hlt
      have X0 : wr.cell? ⟨ub, uo + k * 3, none⟩ = some (.string (rs.getD k noRl).1) := by rw [HW.out]; exact x0
      have X1 : wr.cell? ⟨ub, uo + k * 3 + 1, none⟩ = some (.int .i64 (rs.getD k noRl).2.1) := by rw [HW.out]; exact x1
      have X2 : wr.cell? ⟨ub, uo + k * 3 + 2, none⟩ = some (.string (rs.getD k noRl).2.2) := by rw [HW.out]; exact x2
      have Y0 : wr.cell? ⟨vb, vo + k * 3, none⟩ = some (.string (rs.getD k noRl).1) := by rw [HW.out]; exact y0
      have Y1 : wr.cell? ⟨vb, vo + k * 3 + 1, none⟩ = some (.int .i64 (rs.getD k noRl).2.1) := by rw [HW.out]; exact y1
      have Y2 : wr.cell? ⟨vb, vo + k * 3 + 2, none⟩ = some (.string (rs.getD k noRl).2.2) := by rw [HW.out]; exact y2
      clear x0 x1 x2 y0 y1 y2 hk
      generalize (rs.getD k noRl).1 = N at *
      generalize (rs.getD k noRl).2.1 = o at *
      generalize (rs.getD k noRl).2.2 = V at *
      go_upto_region 6 with fail
      go_quiet (fail)
      have HW2 : Hid (wr.drewN nq = w.drewN (m + nq)) := by show _ = _; rw [HW.out, World.drewN_drewN]
      clear X0 X1 X2 Y0 Y1 Y2
      generalize wr.drewN nq = wq at *
      go_wp2
      go_roundg (gk - 1)
      case measure => have := HG.out; omega
      case rel => exact ⟨k + 1, m + nq, by have := HG.out; omega, by go_num, HW2.out⟩
    · clear hk
      go_wp2
      go_ret
      exact ⟨rfl, m, HW.out⟩
set_option maxHeartbeats 3200000 in
set_option maxRecDepth 20000 in
theorem alike22 (u v : Value) (l : List (List Rl)) (w : World) (hu : RdRs w u l) (hv : RdRs w v l) :
    Calls Tryd.prog 12 #[u, v] w fun e w' => e = .returned (.bool true) ∧ ∃ m, w' = w.drewN m := by
  obtain ⟨a, c, rfl, hc, hm, hcu⟩ := hu.at22
  obtain ⟨b, d, rfl, hd, hm2, hcv⟩ := hv.at22
  have h24 := hu.1
  have HU : Hid (∀ j, j < l.length → ∃ b off u, a = some ⟨b, off, none⟩ ∧ w.cell? ⟨b, off + j, none⟩ = some u ∧ RdR w u (l.getD j [])) := hcu
  have HV : Hid (∀ j, j < l.length → ∃ g off u, b = some ⟨g, off, none⟩ ∧ w.cell? ⟨g, off + j, none⟩ = some u ∧ RdR w u (l.getD j [])) := hcv
  clear hu hv hcu hcv
  generalize l.length = n at *
  go_enter Tryd.func12, Tryd.ntmps12
  go_wp2
  go_loopg [5] n (fun g i wr => ∃ k m : Nat, k + g = n ∧ i = .int .i64 k ∧ Hid (wr = w.drewN m))
  case atStart => exact ⟨0, 0, by omega, rfl, rfl⟩
  case round =>
    obtain ⟨k, m, hk, rfl, HW⟩ := hrel
    have HG : Hid (k + gk = n) := hk
    by_cases hlt : k < n
    · obtain ⟨ub, uo, cu, rfl, x0, x1⟩ := HU.out k hlt
      obtain ⟨vb, vo, cv, rfl, y0, y1⟩ := HV.out k hlt
      generalize l.getD k [] = rs at *
      have X0 : wr.cell? ⟨ub, uo + k, none⟩ = some cu := by rw [HW.out]; exact x0
      have Y0 : wr.cell? ⟨vb, vo + k, none⟩ = some cv := by rw [HW.out]; exact y0
      have HSm : Hid (∀ j, Calls Tryd.prog 15 #[cu, cv] (wr.drewN j) fun e w' => e = .returned (.bool true) ∧ ∃ m, w' = (wr.drewN j).drewN m) := fun j => same22 cu cv rs _ (by rw [HW.out]; exact (x1.dn22 m).dn22 j) (by rw [HW.out]; exact (y1.dn22 m).dn22 j)
      obtain ⟨a1, c1, rfl, -, -, -⟩ := x1.at22
      obtain ⟨a2, c2, rfl, -, -, -⟩ := y1.at22
      clear x0 x1 y0 y1 hk
      generalize rs.length = nr at *
      go_upto_region 6 with fail
      go_quiet ((go_at_call 15; exact Calls.quiet_of (HSm.out _)))
      have HW2 : Hid (wr.drewN nq = w.drewN (m + nq)) := by show _ = _; rw [HW.out, World.drewN_drewN]
      clear X0 Y0 HSm
      generalize wr.drewN nq = wq at *
      go_wp2
      go_roundg (gk - 1)
      case measure => have := HG.out; omega
      case rel => exact ⟨k + 1, m + nq, by have := HG.out; omega, by go_num, HW2.out⟩
    · clear hk
      go_wp2
      go_ret
      exact ⟨rfl, m, HW.out⟩

end Go.Proofs.YtmanjignognplaaDoor
