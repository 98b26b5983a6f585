/-
  The document's lists, walked (walks/genrlf.py writes it).
  KEEP: OwnR OwnRs St22 LsAns blw Ap put_app step_append_apk len below nil form rd mono on app start at new trans refl kept own row out grown rdz set one more lt size cell some none letL tail next step go add put del get look no yes e c f b k n m box take each block shape os tape output setCell heap alloc addr last blk drew keep done
-/
import Derived.Test.YtmanjignognplaaDoorRlD
import Derived.Test.YtmanjignognplaaDoorRlE
import Derived.Test.YtmanjignognplaaDoorVsF
set_option linter.unusedSimpArgs false
set_option linter.unusedVariables false
namespace Go.Proofs.YtmanjignognplaaDoor
open Go Go.RowKit

def LsAns (B : Nat) (w w' : World) (e : Ending) : Except (Int × Int) (List (List Rl)) → Prop
  | .error p => e = .returned (.tuple #[.slice none 0 0, .int .i64 p.1, .int .i64 p.2]) ∧ Below B w w'
  | .ok l => ∃ s L, e = .returned (.tuple #[s, .int .i64 0, .int .i64 0]) ∧ OwnRs B w' s L ∧ rgS L = l ∧ Below B w w'
set_option maxHeartbeats 6400000 in
set_option maxRecDepth 100000 in
theorem rLists22_any (s : ByteArray) (bars : Bool) (w : World) (hs : s.size ≤ 1099511627776) :
    Calls Tryd.prog 29 #[.string s, .bool bars] w fun e w' => LsAns w.heap.size w w' e (lstF s bars) := by
  obtain ⟨R, hR⟩ : ∃ R, R = lstF s bars := ⟨_, rfl⟩
  rw [← hR]
  have HBeh : Hid (∀ (j : Nat), j ≤ s.size → ∀ V, Calls Tryd.prog 45 #[.string s, .int .i64 j] V fun e w' => e = .returned (.int .i64 (runF gapZ s.data.toList j)) ∧ w' = V) := fun j hj V => rBehind22_any s j V (by omega) hj
  have HOne : Hid (∀ (j : Nat), j ≤ s.size → ∀ V, Calls Tryd.prog 46 #[.string s, .int .i64 j] V fun e w' => e = .returned (onV (oneF s j)) ∧ Below V.heap.size V w') := fun j hj V => rOne22_any s j V (by omega) hj (fun v hv V => rLegal20_any v V hv)
  have HR : Hid (R = if runF gapZ s.data.toList 0 = s.size then .ok [] else lstS s bars (s.size + 1) (runF gapZ s.data.toList 0) [] []) := hR
  have ha := runF_le22 gapZ s (Nat.zero_le s.size)
  have HB0 : Hid (∀ V, Calls Tryd.prog 45 #[.string s, .int .i64 0] V fun e w' => e = .returned (.int .i64 (runF gapZ s.data.toList 0)) ∧ w' = V) := HBeh.out 0 (Nat.zero_le _)
  clear hR
  generalize runF gapZ s.data.toList 0 = a at *
  obtain ⟨i0, hi, hz0, hz1, hz2⟩ := info_parts infoR22
  have HIn : Hid (Tryd.prog.info? 23 = some i0 ∧ i0.zero = some (.agg #[.string ⟨#[]⟩, .int .i64 0, .string ⟨#[]⟩]) ∧ i0.size = 3 ∧ i0.bytes = 40) := ⟨hi, hz0, hz1, hz2⟩
  clear hi hz0 hz1 hz2
  obtain ⟨i1, hi, hz0, hz1, hz2⟩ := info_parts infoRs22
  have HIn1 : Hid (Tryd.prog.info? 32 = some i1 ∧ i1.zero = some (.slice none 0 0) ∧ i1.size = 1 ∧ i1.bytes = 24) := ⟨hi, hz0, hz1, hz2⟩
  clear hi hz0 hz1 hz2
  go_enter Tryd.func29, Tryd.ntmps29
  go_wp2_with fail
  refine (HB0.out _).mono ?_
  rintro e w9 ⟨rfl, h9⟩
  have h9s := h9.symm; clear h9; subst h9s
  clear HB0
  by_cases h0 : a = s.size
  · have HE : Hid (R = .ok []) := by show _ = _; rw [HR.out, if_pos h0]
    subst h0
    clear HR
    have hb : ((s.size : Int) == (s.size : Int)) = true := by simp
    go_wp2
    go_returns
    rw [HE.out]
    exact ⟨_, [], rfl, OwnRs.nil _ _, rfl, Below.refl _ _⟩
  have d0 : ((a : Int) == (s.size : Int)) = false := by simp; omega
  have HR2 : Hid (R = lstS s bars (s.size + 1) a [] []) := by show _ = _; rw [HR.out, if_neg h0]
  clear HR
  go_wp2
  go_loopg [7, 8, 9] (s.size + 1) (fun g o i nw wr => ∃ (k : Nat) (L : List RG) (N : List Rl) (a7 : Option Addr) (c7 : Nat) (a9 : Option Addr) (c9 : Nat), s.size < k + g ∧ k ≤ s.size ∧ L.length ≤ k ∧ N.length ≤ k ∧ i = .int .i64 k ∧ o = .slice a7 L.length c7 ∧ nw = .slice a9 N.length c9 ∧ Hid (St22 w.heap.size wr (.slice a7 L.length c7) L (.slice a9 N.length c9) N) ∧ Hid (R = lstS s bars g k (rgS L) N) ∧ Hid (Below w.heap.size w wr))
  case atStart => exact ⟨a, [], [], none, 0, none, 0, by omega, ha, by simp, by simp, rfl, rfl, rfl, St22.nil _ _, HR2.out, Below.refl _ _⟩
  case round =>
    obtain ⟨k, L, N, a7, c7, a9, c9, hfu, hks, hL, hN, rfl, rfl, rfl, HS, HK, HB⟩ := hrel
    clear HR2 d0 h0 ha
    obtain ⟨f, rfl⟩ : ∃ f, gk = f + 1 := ⟨gk - 1, by omega⟩
    have HOk := HOne.out k hks
    have HSz := fun h => one_ok22 (s := s) hks h
    have HK2 : R = if (oneF s k).e ≠ 0 then .error ((oneF s k).e, ((oneF s k).k : Int)) else if atB s (oneF s k).k = 124 ∧ bars = true then lstS s bars f (runF gapZ s.data.toList ((oneF s k).k + 1)) (rgS L) (N ++ [((oneF s k).n, (oneF s k).o, (oneF s k).v)]) else if s.size ≤ (oneF s k).k then .ok (rgS L ++ [N ++ [((oneF s k).n, (oneF s k).o, (oneF s k).v)]]) else if atB s (oneF s k).k ≠ 44 then .error (220, ((oneF s k).k : Int)) else lstS s bars f (runF gapZ s.data.toList ((oneF s k).k + 1)) (rgS L ++ [N ++ [((oneF s k).n, (oneF s k).o, (oneF s k).v)]]) [] := HK.out
    clear HK HOne
    generalize oneF s k = r at *
    obtain ⟨n, o, v, er, q⟩ := r
    have HK3 : Hid (R = if er ≠ 0 then .error (er, (q : Int)) else if atB s q = 124 ∧ bars = true then lstS s bars f (runF gapZ s.data.toList (q + 1)) (rgS L) (N ++ [(n, o, v)]) else if s.size ≤ q then .ok (rgS L ++ [(N ++ [(n, o, v)])]) else if atB s q ≠ 44 then .error (220, (q : Int)) else lstS s bars f (runF gapZ s.data.toList (q + 1)) (rgS L ++ [(N ++ [(n, o, v)])]) []) := HK2
    have HOv : Hid (∀ V, Calls Tryd.prog 46 #[.string s, .int .i64 k] V fun e w' => e = .returned (.tuple #[.agg #[.string n, .int .i64 o, .string v], .int .i64 er, .int .i64 q]) ∧ Below V.heap.size V w') := HOk
    have HSq : Hid (er = 0 → n.size ≤ s.size ∧ v.size ≤ s.size ∧ k < q ∧ q ≤ s.size) := HSz
    clear HK2 HOk HSz
    go_wp2_with fail
    refine (HOv.out _).mono ?_
    rintro e w2 ⟨rfl, b2⟩
    have HS2 : Hid (St22 w.heap.size w2 (.slice a7 L.length c7) L (.slice a9 N.length c9) N) := HS.out.blw b2
    have HB2 : Hid (Below w.heap.size w w2) := HB.out.trans (b2.mono HB.out.size)
    clear HS HB b2 HOv
    by_cases he : er = 0
    rotate_left
    · have he1 : (er != 0) = true := by simpa using he
      have he2 : (er == 0) = false := by simpa using he
      have HE : Hid (R = .error (er, (q : Int))) := by show _ = _; rw [HK3.out, if_pos he]
      have HBf : Hid (Below w.heap.size w (w2.alloc (.cells #[.string n, .int .i64 o, .string v] 23))) := Below.alloc HB2.out HB2.out.size _
      clear HK3 he
      go_wp2
      all_goals
        go_returns
        rw [HE.out]
        exact ⟨rfl, HBf.out⟩
    subst he
    obtain ⟨hn, hv, hkq, hqs⟩ := HSq.out rfl
    have HK4 : Hid (R = if atB s q = 124 ∧ bars = true then lstS s bars f (runF gapZ s.data.toList (q + 1)) (rgS L) (N ++ [(n, o, v)]) else if s.size ≤ q then .ok (rgS L ++ [(N ++ [(n, o, v)])]) else if atB s q ≠ 44 then .error (220, (q : Int)) else lstS s bars f (runF gapZ s.data.toList (q + 1)) (rgS L ++ [(N ++ [(n, o, v)])]) []) := by show _ = _; rw [HK3.out, if_neg (by simp)]
    have HSb : Hid (St22 w.heap.size (w2.alloc (.cells #[.string n, .int .i64 o, .string v] 23)) (.slice a7 L.length c7) L (.slice a9 N.length c9) N) := HS2.out.blw (Below.alloc (Below.refl _ _) (Nat.le_refl _) _)
    have HBb : Hid (Below w.heap.size w (w2.alloc (.cells #[.string n, .int .i64 o, .string v] 23))) := Below.alloc HB2.out HB2.out.size _
    have HQb : Hid (Rq (w2.alloc (.cells #[.string n, .int .i64 o, .string v] 23)) w2.heap.size n o v) := Rq.newS _ _ _ _ _ rfl
    clear HK3 HSq HS2 HB2 hn hv
    go_upto_region 9 with fail
    generalize w2.alloc (.cells #[.string n, .int .i64 o, .string v] 23) = wb at *
    have z0 := HQb.out.c0
    have z1 := HQb.out.c1
    have z2 := HQb.out.c2
    generalize w2.heap.size = Db at *
    clear w2
    have HRow : Hid ((wb.alloc (.cells #[.string n, .int .i64 o, .string v] 23)).ownsRow w.heap.size 23 3 (.slice a9 N.length c9) N.length (relC N)) := World.ownsRow.alloc HSb.out.g _
    have HNw : Hid (∀ j u, [Value.string n, Value.int .i64 o, Value.string v][j]? = some u → (wb.alloc (.cells #[.string n, .int .i64 o, .string v] 23)).cell? ((⟨wb.heap.size, 0, none⟩ : Addr).add j) = some u) := three_new22 wb _ _ _ _
    have HPt : Hid (∀ v8 w8, w8.ownsRow w.heap.size 23 3 v8 (N.length + 1) (relC N ++ [.string n, .int .i64 o, .string v]) → Ap (wb.alloc (.cells #[.string n, .int .i64 o, .string v] 23)) (.slice a9 N.length c9) w8 v8 → (St22 w.heap.size w8 (.slice a7 L.length c7) L v8 (N ++ [(n, o, v)]) ∧ ∃ a8 c8, v8 = .slice a8 (N.length + 1) c8) ∧ Below w.heap.size w w8) := fun v8 w8 o8 p8 => ⟨HSb.out.put (r := (n, o, v)) o8 p8, (Below.alloc HBb.out HBb.out.size _).grown p8.grown (Nat.le_trans HBb.out.size (by simp)) (fun q hq => (World.ownsRow.lt HSb.out.g q hq).1)⟩
    have hszb : w.heap.size ≤ wb.heap.size := HBb.out.size
    go_upto_region 10 with (at_builtin; refine wpList_append_apk rfl (.tmp 30) (.tmp 32) 32 rfl w.heap.size 23 i0 (.agg #[.string ⟨#[]⟩, .int .i64 0, .string ⟨#[]⟩]) 3 40 Tryd.underlying32 HIn.out.1 HIn.out.2.1 HIn.out.2.2.1 HIn.out.2.2.2 rfl (by decide) (.slice a9 N.length c9) N.length (relC N) rfl HRow.out ⟨wb.heap.size, 0, none⟩ 1 1 [.string n, .int .i64 o, .string v] rfl rfl HNw.out (by simp [Value.oneCell']) (by unfold maxLen; omega) (by omega) (by simp; omega) ?_; intro v8 w8 own8 ap8; obtain ⟨⟨s8, a8, c8, rfl⟩, b8⟩ := HPt.out v8 w8 own8 ap8; have HT8 : Hid (St22 w.heap.size w8 (.slice a7 L.length c7) L (.slice a8 (N.length + 1) c8) (N ++ [(n, o, v)])) := s8; have HB8 : Hid (Below w.heap.size w w8) := b8; clear own8 ap8 s8 b8)
    clear HRow HNw HPt HSb HBb HQb z0 z1 z2 hszb
    by_cases hlt : q < s.size
    · have hat := atB_in hlt
      obtain ⟨z, hz⟩ : ∃ z : Int, z = (((s[q]'hlt).toNat : Nat) : Int) := ⟨_, rfl⟩
      have hzz : (((s[q]'hlt).toNat : Nat) : Int) = z := hz.symm
      rw [← hz] at hat
      clear hz
      have hqe : ((q : Int) == (s.size : Int)) = false := by simp; omega
      by_cases h44 : z = 44
      · subst h44
        have hc1 : ((q + 1 : Nat) : Int) = (q : Int) + 1 := by omega
        have HBh0 := HBeh.out (q + 1) (by omega)
        rw [hc1] at HBh0
        have HBq : Hid (∀ V, Calls Tryd.prog 45 #[.string s, .int .i64 ((q : Int) + 1)] V fun e w' => e = .returned (.int .i64 (runF gapZ s.data.toList (q + 1))) ∧ w' = V) := HBh0
        have hw1 : IntKind.i64.wrap ((q : Int) + 1) = (q : Int) + 1 := by rw [IntKind.wrap_i64]; omega
        have hx1 := runF_ge gapZ s.data.toList (q + 1)
        have hx2 := runF_le22 gapZ s (k := q + 1) (by omega)
        clear HBh0 hc1
        have HKn : Hid (R = lstS s bars f (runF gapZ s.data.toList (q + 1)) (rgS L ++ [(N ++ [(n, o, v)])]) []) := by show _ = _; rw [HK4.out, if_neg (by rw [hat]; rintro ⟨h, _⟩; exact absurd h (by decide)), if_neg (by omega), if_neg (by rw [hat]; decide)]
        clear HK4 hat
        generalize runF gapZ s.data.toList (q + 1) = x at *
        have HRow2 : Hid ((w8.alloc (.cells #[.slice a8 (N.length + 1) c8] 32)).ownsRow w.heap.size 32 1 (.slice a7 L.length c7) L.length (rgC L)) := World.ownsRow.alloc HT8.out.t.row _
        have HNw2 : Hid (∀ j u, [Value.slice a8 (N.length + 1) c8][j]? = some u → (w8.alloc (.cells #[.slice a8 (N.length + 1) c8] 32)).cell? ((⟨w8.heap.size, 0, none⟩ : Addr).add j) = some u) := one_new22 w8 _ _
        have HPt2 : Hid (∀ v9 w9, w9.ownsRow w.heap.size 32 1 v9 (L.length + 1) (rgC L ++ [.slice a8 (N.length + 1) c8]) → Ap (w8.alloc (.cells #[.slice a8 (N.length + 1) c8] 32)) (.slice a7 L.length c7) w9 v9 → (OwnRs w.heap.size w9 v9 (L ++ [((.slice a8 (N.length + 1) c8), (N ++ [(n, o, v)]))]) ∧ ∃ a9 c9, v9 = .slice a9 (L.length + 1) c9) ∧ Below w.heap.size w w9) := fun v9 w9 o9 p9 => ⟨HT8.out.done o9 p9, (Below.alloc HB8.out HB8.out.size _).grown p9.grown (Nat.le_trans HB8.out.size (by simp)) (fun q hq => (World.ownsRow.lt HT8.out.t.row q hq).1)⟩
        have hsz9 : w.heap.size ≤ w8.heap.size := HB8.out.size
        go_wp2_with (first | (go_at_call 45; refine (HBq.out _).mono ?_; rintro e w0 ⟨rfl, h0⟩; have h0s := h0.symm; clear h0; subst h0s) | (at_builtin; refine wpList_append_apk rfl (.tmp 52) (.tmp 54) 27 rfl w.heap.size 32 i1 (.slice none 0 0) 1 24 Tryd.underlying27 HIn1.out.1 HIn1.out.2.1 HIn1.out.2.2.1 HIn1.out.2.2.2 rfl (by decide) (.slice a7 L.length c7) L.length (rgC L) rfl HRow2.out ⟨w8.heap.size, 0, none⟩ 1 1 [.slice a8 (N.length + 1) c8] rfl rfl HNw2.out (by simp [Value.oneCell']) (by unfold maxLen; omega) (by omega) (by simp; omega) ?_; intro v9 w9 own9 ap9; obtain ⟨⟨s9, a9', c9', rfl⟩, b9⟩ := HPt2.out v9 w9 own9 ap9; have HT9 : Hid (OwnRs w.heap.size w9 (.slice a9' (L.length + 1) c9') (L ++ [((.slice a8 (N.length + 1) c8), (N ++ [(n, o, v)]))])) := s9; have HB9 : Hid (Below w.heap.size w w9) := b9; clear own9 ap9 s9 b9))
        all_goals
          go_roundg f
          case measure => omega
          case rel => exact ⟨x, L ++ [((.slice a8 (N.length + 1) c8), (N ++ [(n, o, v)]))], [], a9', c9', none, 0, by omega, hx2, by simp; omega, by simp, rfl, by simp, rfl, ⟨by rw [List.length_append]; exact HT9.out, OwnR.nil _ _, fun x hx g e e2 => by cases e2⟩, by rw [rgS, List.map_append]; exact HKn.out, HB9.out⟩

      have d44 : (z != 44) = true := by simpa using h44
      have e44 : (z == 44) = false := by simpa using h44
      by_cases h124 : z = 124
      · subst h124
        cases bars
        · skip
          have HE : Hid (R = .error (220, (q : Int))) := by show _ = _; rw [HK4.out, if_neg (by rintro ⟨_, h⟩; exact absurd h (by decide)), if_neg (by omega), if_pos (by rw [hat]; decide)]
          clear HK4 hat
          have HRow2 : Hid ((w8.alloc (.cells #[.slice a8 (N.length + 1) c8] 32)).ownsRow w.heap.size 32 1 (.slice a7 L.length c7) L.length (rgC L)) := World.ownsRow.alloc HT8.out.t.row _
          have HNw2 : Hid (∀ j u, [Value.slice a8 (N.length + 1) c8][j]? = some u → (w8.alloc (.cells #[.slice a8 (N.length + 1) c8] 32)).cell? ((⟨w8.heap.size, 0, none⟩ : Addr).add j) = some u) := one_new22 w8 _ _
          have HPt2 : Hid (∀ v9 w9, w9.ownsRow w.heap.size 32 1 v9 (L.length + 1) (rgC L ++ [.slice a8 (N.length + 1) c8]) → Ap (w8.alloc (.cells #[.slice a8 (N.length + 1) c8] 32)) (.slice a7 L.length c7) w9 v9 → (OwnRs w.heap.size w9 v9 (L ++ [((.slice a8 (N.length + 1) c8), (N ++ [(n, o, v)]))]) ∧ ∃ a9 c9, v9 = .slice a9 (L.length + 1) c9) ∧ Below w.heap.size w w9) := fun v9 w9 o9 p9 => ⟨HT8.out.done o9 p9, (Below.alloc HB8.out HB8.out.size _).grown p9.grown (Nat.le_trans HB8.out.size (by simp)) (fun q hq => (World.ownsRow.lt HT8.out.t.row q hq).1)⟩
          have hsz9 : w.heap.size ≤ w8.heap.size := HB8.out.size
          go_wp2_with (at_builtin; refine wpList_append_apk rfl (.tmp 52) (.tmp 54) 27 rfl w.heap.size 32 i1 (.slice none 0 0) 1 24 Tryd.underlying27 HIn1.out.1 HIn1.out.2.1 HIn1.out.2.2.1 HIn1.out.2.2.2 rfl (by decide) (.slice a7 L.length c7) L.length (rgC L) rfl HRow2.out ⟨w8.heap.size, 0, none⟩ 1 1 [.slice a8 (N.length + 1) c8] rfl rfl HNw2.out (by simp [Value.oneCell']) (by unfold maxLen; omega) (by omega) (by simp; omega) ?_; intro v9 w9 own9 ap9; obtain ⟨⟨s9, a9', c9', rfl⟩, b9⟩ := HPt2.out v9 w9 own9 ap9; have HT9 : Hid (OwnRs w.heap.size w9 (.slice a9' (L.length + 1) c9') (L ++ [((.slice a8 (N.length + 1) c8), (N ++ [(n, o, v)]))])) := s9; have HB9 : Hid (Below w.heap.size w w9) := b9; clear own9 ap9 s9 b9)
          all_goals
            go_returns
            rw [HE.out]
            exact ⟨rfl, HB9.out⟩

        · skip
          have hc1 : ((q + 1 : Nat) : Int) = (q : Int) + 1 := by omega
          have HBh0 := HBeh.out (q + 1) (by omega)
          rw [hc1] at HBh0
          have HBq : Hid (∀ V, Calls Tryd.prog 45 #[.string s, .int .i64 ((q : Int) + 1)] V fun e w' => e = .returned (.int .i64 (runF gapZ s.data.toList (q + 1))) ∧ w' = V) := HBh0
          have hw1 : IntKind.i64.wrap ((q : Int) + 1) = (q : Int) + 1 := by rw [IntKind.wrap_i64]; omega
          have hx1 := runF_ge gapZ s.data.toList (q + 1)
          have hx2 := runF_le22 gapZ s (k := q + 1) (by omega)
          clear HBh0 hc1
          have HKn : Hid (R = lstS s true f (runF gapZ s.data.toList (q + 1)) (rgS L) (N ++ [(n, o, v)])) := by show _ = _; rw [HK4.out, if_pos ⟨hat, rfl⟩]
          clear HK4 hat
          generalize runF gapZ s.data.toList (q + 1) = x at *
          go_wp2_with (go_at_call 45; refine (HBq.out _).mono ?_; rintro e w0 ⟨rfl, h0⟩; have h0s := h0.symm; clear h0; subst h0s)
          go_roundg f
          case measure => omega
          case rel => exact ⟨x, L, (N ++ [(n, o, v)]), a7, c7, a8, c8, by omega, hx2, by omega, by simp; omega, rfl, rfl, by simp, by rw [List.length_append]; exact HT8.out, HKn.out, HB8.out⟩

      · have d124 : (z == 124) = false := by simpa using h124
        have HE : Hid (R = .error (220, (q : Int))) := by show _ = _; rw [HK4.out, if_neg (by rw [hat]; rintro ⟨h, _⟩; exact h124 h), if_neg (by omega), if_pos (by rw [hat]; exact h44)]
        clear HK4 hat
        have HRow2 : Hid ((w8.alloc (.cells #[.slice a8 (N.length + 1) c8] 32)).ownsRow w.heap.size 32 1 (.slice a7 L.length c7) L.length (rgC L)) := World.ownsRow.alloc HT8.out.t.row _
        have HNw2 : Hid (∀ j u, [Value.slice a8 (N.length + 1) c8][j]? = some u → (w8.alloc (.cells #[.slice a8 (N.length + 1) c8] 32)).cell? ((⟨w8.heap.size, 0, none⟩ : Addr).add j) = some u) := one_new22 w8 _ _
        have HPt2 : Hid (∀ v9 w9, w9.ownsRow w.heap.size 32 1 v9 (L.length + 1) (rgC L ++ [.slice a8 (N.length + 1) c8]) → Ap (w8.alloc (.cells #[.slice a8 (N.length + 1) c8] 32)) (.slice a7 L.length c7) w9 v9 → (OwnRs w.heap.size w9 v9 (L ++ [((.slice a8 (N.length + 1) c8), (N ++ [(n, o, v)]))]) ∧ ∃ a9 c9, v9 = .slice a9 (L.length + 1) c9) ∧ Below w.heap.size w w9) := fun v9 w9 o9 p9 => ⟨HT8.out.done o9 p9, (Below.alloc HB8.out HB8.out.size _).grown p9.grown (Nat.le_trans HB8.out.size (by simp)) (fun q hq => (World.ownsRow.lt HT8.out.t.row q hq).1)⟩
        have hsz9 : w.heap.size ≤ w8.heap.size := HB8.out.size
        go_wp2_with (at_builtin; refine wpList_append_apk rfl (.tmp 52) (.tmp 54) 27 rfl w.heap.size 32 i1 (.slice none 0 0) 1 24 Tryd.underlying27 HIn1.out.1 HIn1.out.2.1 HIn1.out.2.2.1 HIn1.out.2.2.2 rfl (by decide) (.slice a7 L.length c7) L.length (rgC L) rfl HRow2.out ⟨w8.heap.size, 0, none⟩ 1 1 [.slice a8 (N.length + 1) c8] rfl rfl HNw2.out (by simp [Value.oneCell']) (by unfold maxLen; omega) (by omega) (by simp; omega) ?_; intro v9 w9 own9 ap9; obtain ⟨⟨s9, a9', c9', rfl⟩, b9⟩ := HPt2.out v9 w9 own9 ap9; have HT9 : Hid (OwnRs w.heap.size w9 (.slice a9' (L.length + 1) c9') (L ++ [((.slice a8 (N.length + 1) c8), (N ++ [(n, o, v)]))])) := s9; have HB9 : Hid (Below w.heap.size w w9) := b9; clear own9 ap9 s9 b9)
        all_goals
          go_returns
          rw [HE.out]
          exact ⟨rfl, HB9.out⟩

    · skip
      have HE : Hid (R = .ok (rgS L ++ [(N ++ [(n, o, v)])])) := by show _ = _; rw [HK4.out, if_neg (by rw [atB_out hlt]; rintro ⟨h, _⟩; exact absurd h (by decide)), if_pos (by omega)]
      have hqe : q = s.size := by omega
      clear HK4
      subst hqe
      have HRow2 : Hid ((w8.alloc (.cells #[.slice a8 (N.length + 1) c8] 32)).ownsRow w.heap.size 32 1 (.slice a7 L.length c7) L.length (rgC L)) := World.ownsRow.alloc HT8.out.t.row _
      have HNw2 : Hid (∀ j u, [Value.slice a8 (N.length + 1) c8][j]? = some u → (w8.alloc (.cells #[.slice a8 (N.length + 1) c8] 32)).cell? ((⟨w8.heap.size, 0, none⟩ : Addr).add j) = some u) := one_new22 w8 _ _
      have HPt2 : Hid (∀ v9 w9, w9.ownsRow w.heap.size 32 1 v9 (L.length + 1) (rgC L ++ [.slice a8 (N.length + 1) c8]) → Ap (w8.alloc (.cells #[.slice a8 (N.length + 1) c8] 32)) (.slice a7 L.length c7) w9 v9 → (OwnRs w.heap.size w9 v9 (L ++ [((.slice a8 (N.length + 1) c8), (N ++ [(n, o, v)]))]) ∧ ∃ a9 c9, v9 = .slice a9 (L.length + 1) c9) ∧ Below w.heap.size w w9) := fun v9 w9 o9 p9 => ⟨HT8.out.done o9 p9, (Below.alloc HB8.out HB8.out.size _).grown p9.grown (Nat.le_trans HB8.out.size (by simp)) (fun q hq => (World.ownsRow.lt HT8.out.t.row q hq).1)⟩
      have hsz9 : w.heap.size ≤ w8.heap.size := HB8.out.size
      go_wp2_with (at_builtin; refine wpList_append_apk rfl (.tmp 52) (.tmp 54) 27 rfl w.heap.size 32 i1 (.slice none 0 0) 1 24 Tryd.underlying27 HIn1.out.1 HIn1.out.2.1 HIn1.out.2.2.1 HIn1.out.2.2.2 rfl (by decide) (.slice a7 L.length c7) L.length (rgC L) rfl HRow2.out ⟨w8.heap.size, 0, none⟩ 1 1 [.slice a8 (N.length + 1) c8] rfl rfl HNw2.out (by simp [Value.oneCell']) (by unfold maxLen; omega) (by omega) (by simp; omega) ?_; intro v9 w9 own9 ap9; obtain ⟨⟨s9, a9', c9', rfl⟩, b9⟩ := HPt2.out v9 w9 own9 ap9; have HT9 : Hid (OwnRs w.heap.size w9 (.slice a9' (L.length + 1) c9') (L ++ [((.slice a8 (N.length + 1) c8), (N ++ [(n, o, v)]))])) := s9; have HB9 : Hid (Below w.heap.size w w9) := b9; clear own9 ap9 s9 b9)
      all_goals
        go_returns
        rw [HE.out]
        exact ⟨_, _, rfl, HT9.out, by rw [rgS, List.map_append]; rfl, HB9.out⟩

end Go.Proofs.YtmanjignognplaaDoor
