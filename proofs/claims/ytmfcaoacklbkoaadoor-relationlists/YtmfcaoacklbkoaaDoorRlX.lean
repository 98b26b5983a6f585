/-
  The program's several, alternatives, whole, Read, ReadList, walked.
  KEEP: off c0 c1 c2 c3 c4 s0 s1 s2 s3 s4 newS rds lt f t q x walk LsAns Ap blw put22 OwnR OwnRs len below nil form rd mono on app start at new trans refl kept own row out grown rdz set one more lt size cell some none letL tail next step go add put del get look no yes e c f b k n m box c0 c1 c2 s0 s1 s2 s3 newS drewN x t q done keep
-/
import Derived.Test.YtmfcaoacklbkoaaDoorRlU
import Derived.Test.YtmfcaoacklbkoaaDoorRlW
import Derived.Test.YtmfcaoacklbkoaaDoorRlG
set_option linter.unusedSimpArgs false
set_option linter.unusedVariables false
namespace Go.Proofs.YtmfcaoacklbkoaaDoor
open Go Go.RowKit

/-- what is appended to a row of the call's own lies apart from the reader -/
theorem LkA.app22 {A B w8 : World} {D : Nat} {s : ByteArray} {a : Nat} {v v8 : Value} {o : Obj} (h : LkA A B D s a) (hD : D < A.heap.size) (hv : ∀ g, v.ownBlock = some g → A.heap.size ≤ g) (ap8 : Ap (B.alloc o) v w8 v8) : LkA A w8 D s a := by
  have hsn : (B.alloc o).heap.size = B.heap.size + 1 := by simp
  have hk : ∀ k, k < B.heap.size → some k ≠ v.ownBlock → w8.heap[k]? = B.heap[k]? := fun k hk hne => (ap8.grown.block k (by rw [hsn]; omega) hne).trans (Below.heap_alloc B o k hk)
  have hs := h.2.size
  refine ⟨h.1.kept (hk D h.1.lt fun e => by have := hv D e.symm; omega), ap8.grown.os.trans h.2.os, ap8.grown.tape.trans h.2.tape, ap8.grown.output.trans h.2.output, ?_, fun k hk2 hne => ?_⟩
  · have := ap8.grown.size
    rw [hsn] at this
    omega
  · exact (hk k (by omega) fun e => by have := hv k e.symm; omega).trans (h.2.block k hk2 hne)
/-- what several answers -/
def SvAns (w w' : World) (e : Ending) (D : Nat) (s : ByteArray) : Except (Int × Nat) (List Rl × Nat) → Prop
  | .error p => e = .returned (.tuple #[.slice none 0 0, .int .i64 p.1]) ∧ p.1 ≠ 0 ∧ p.2 ≤ s.size ∧ LkA w w' D s p.2
  | .ok p => ∃ a c, e = .returned (.tuple #[.slice a p.1.length c, .int .i64 0]) ∧ OwnR w.heap.size w' (.slice a p.1.length c) p.1 ∧ LkA w w' D s p.2
theorem OwnR.lk22 {B : Nat} {W W' : World} {D : Nat} {s : ByteArray} {a : Nat} {v : Value} {N : List Rl} (h : OwnR B W v N) (hD : D < B) (hk : LkA W W' D s a) : OwnR B W' v N :=
  row_kept22 h fun k e => hk.2.block k (World.ownsRow.lt h k e).2 (fun q => by injection q with q; have := (World.ownsRow.lt h k e).1; omega)
set_option maxHeartbeats 6400000 in
set_option maxRecDepth 20000 in
theorem several22 (s : ByteArray) (k D : Nat) (K Z : Int) (w : World) (hKZ : ∀ z, kdZ z = K ↔ z = Z) (hK0 : K ≠ 0) (hZ0 : 0 ≤ Z) (hR : Rx w D s k) (hT : OpT w) (hk : k ≤ s.size) (hs : s.size ≤ 1099511627776) :
    Calls Tryd.prog 46 #[.pointer (some ⟨D, 0, none⟩), .int .i64 K, .func (.func 32) #[.pointer (some ⟨D, 0, none⟩)] #[]] w fun e w' => SvAns w w' e D s (sevF s Z (s.size + 1) (runF gapZ s.data.toList k) []) := by
  obtain ⟨R, hRr⟩ : ∃ R, R = sevF s Z (s.size + 1) (runF gapZ s.data.toList k) [] := ⟨_, rfl⟩
  rw [← hRr]
  have HRe : Hid (∀ W j, Rx W D s j → OpT W → j ≤ s.size → Calls Tryd.prog 32 #[.pointer (some ⟨D, 0, none⟩)] W fun e w' => RlAns W w' e D s (oneF s (runF gapZ s.data.toList j))) := fun W j h ht hj => relation22 s j D W h ht hj (by omega)
  have HPs : Hid (∀ W j, Rx W D s j → j ≤ s.size → Calls Tryd.prog 48 #[.pointer (some ⟨D, 0, none⟩), .int .i64 K] W fun e w' => e = .returned (.bool (lkF s (runF gapZ s.data.toList j) == K)) ∧ LkA W w' D s (psA s (runF gapZ s.data.toList j) K)) := fun W j h hj => pass22 s j D K W h hj (by omega)
  have HLk : Hid (∀ a, lkF s a = K ↔ atB s a = Z) := fun a => lk_at hKZ hK0 hZ0
  have hDw := hR.lt
  have HDw : Hid (D < w.heap.size) := hDw
  obtain ⟨i0, hi, hz0, hz1, hz2⟩ := info_parts infoR22
  have HIn : Hid (Tryd.prog.info? 34 = some i0 ∧ i0.zero = some (.agg #[.string ⟨#[]⟩, .int .i64 0, .string ⟨#[]⟩]) ∧ i0.size = 3 ∧ i0.bytes = 40) := ⟨hi, hz0, hz1, hz2⟩
  clear hi hz0 hz1 hz2 hKZ hK0
  have HRr : Hid (R = sevF s Z (s.size + 1) (runF gapZ s.data.toList k) []) := hRr
  have HX0 : Hid (LkA w w D s k) := ⟨hR, gr_b22 (Below.refl _ _)⟩
  have HOT : Hid (∀ W a, LkA w W D s a → OpT W) := fun W a h => hT.lk hR h
  have HZ0 : Hid (0 ≤ Z) := hZ0
  clear hRr hR hT hDw hZ0
  go_enter Tryd.func46, Tryd.ntmps46
  go_wp2
  go_loopg [8] (s.size + 1) (fun g o wr => ∃ (j : Nat) (N : List Rl) (a8 : Option Addr) (c8 : Nat), s.size < runF gapZ s.data.toList j + g ∧ j ≤ s.size ∧ N.length ≤ j ∧ o = .slice a8 N.length c8 ∧ Hid (OwnR w.heap.size wr (.slice a8 N.length c8) N) ∧ Hid (R = sevF s Z g (runF gapZ s.data.toList j) N) ∧ Hid (LkA w wr D s j))
  case atStart => exact ⟨k, [], none, 0, by omega, hk, by simp, rfl, OwnR.nil _ _, HRr.out, HX0.out⟩
  case round =>
    obtain ⟨j, N, a8, c8, hfu, hj, hN, rfl, HO, HK, HX⟩ := hrel
    clear HRr HX0 hk
    have ha1 := runF_ge gapZ s.data.toList j
    have ha2 := runF_le22 gapZ s hj
    obtain ⟨f, rfl⟩ : ∃ f, gk = f + 1 := ⟨gk - 1, by omega⟩
    have HC := HRe.out wr j HX.out.1 (HOT.out _ _ HX.out) hj
    have HSz := fun h => one_ok22 (s := s) ha2 h
    have HNx := fun h => next22_lt (s := s) (Z := Z) ha2 h HZ0.out
    generalize runF gapZ s.data.toList j = a at *
    have HK2 : R = if (oneF s a).e ≠ 0 then .error ((oneF s a).e, (oneF s a).k) else if atB s (oneF s a).k = Z then sevF s Z f (runF gapZ s.data.toList ((oneF s a).k + 1)) (N ++ [rlO (oneF s a)]) else .ok (N ++ [rlO (oneF s a)], (oneF s a).k) := HK.out
    clear HK
    generalize oneF s a = r at *
    obtain ⟨n, o, v, er, q⟩ := r
    have HC1 : Hid (Calls Tryd.prog 32 #[.pointer (some ⟨D, 0, none⟩)] wr fun e w' => RlAns wr w' e D s ⟨n, o, v, er, q⟩) := HC
    have HK3 : Hid (R = if er ≠ 0 then .error (er, q) else if atB s q = Z then sevF s Z f (runF gapZ s.data.toList (q + 1)) (N ++ [(n, o, v)]) else .ok (N ++ [(n, o, v)], q)) := HK2
    have HSq : Hid (er = 0 → n.size ≤ s.size ∧ v.size ≤ s.size ∧ a < q ∧ q ≤ s.size) := HSz
    have HNq : Hid (¬ er ≠ 0 → atB s q = Z → a < runF gapZ s.data.toList (q + 1) ∧ runF gapZ s.data.toList (q + 1) ≤ s.size) := HNx
    clear HC HK2 HSz HNx
    go_wp2_with fail
    refine HC1.out.mono ?_
    rintro e w2 ⟨rn, ro, rv, q2, he, hx2, hq2, hok, hbad⟩
    subst he
    simp only at hok hbad
    have HX2 : Hid (LkA w w2 D s q2) := HX.out.trans22 hx2
    have HO2 : Hid (OwnR w.heap.size w2 (.slice a8 N.length c8) N) := HO.out.lk22 HDw.out hx2
    clear HC1 HX HO hx2
    by_cases he : er = 0
    rotate_left
    · have hb : (er != 0) = true := by simpa using he
      have hqq := hbad he
      subst hqq
      have HE : Hid (R = .error (er, q2)) := by show _ = _; rw [HK3.out, if_pos he]
      have HEr : Hid (er ≠ 0) := he
      have HXf : Hid (LkA w (w2.alloc (.cells #[.string rn, .int .i64 ro, .string rv] 34)) D s q2) := HX2.out.blw22 (Below.alloc (Below.refl _ _) (Nat.le_refl _) _)
      clear HK3 hok hbad he
      go_wp2
      go_returns
      rw [HE.out]
      exact ⟨rfl, HEr.out, hq2, HXf.out⟩
    subst he
    obtain ⟨rfl, rfl, rfl, hgq⟩ := hok rfl
    obtain ⟨hn, hv, haq, hqs⟩ := HSq.out rfl
    have HK4 : Hid (R = if atB s q = Z then sevF s Z f (runF gapZ s.data.toList (q + 1)) (N ++ [(rn, ro, rv)]) else .ok (N ++ [(rn, ro, rv)], q)) := by show _ = _; rw [HK3.out, if_neg (by simp)]
    have HNq2 : Hid (atB s q = Z → a < runF gapZ s.data.toList (q + 1) ∧ runF gapZ s.data.toList (q + 1) ≤ s.size) := HNq.out (by simp)
    have HGq : Hid (runF gapZ s.data.toList q2 = q) := hgq
    clear HK3 HSq HNq hbad hok hgq hn hv
    have HXb : Hid (LkA w (w2.alloc (.cells #[.string rn, .int .i64 ro, .string rv] 34)) D s q2) := HX2.out.blw22 (Below.alloc (Below.refl _ _) (Nat.le_refl _) _)
    have HOb : Hid (OwnR w.heap.size (w2.alloc (.cells #[.string rn, .int .i64 ro, .string rv] 34)) (.slice a8 N.length c8) N) := World.ownsRow.alloc HO2.out _
    have HQb : Hid (Rq (w2.alloc (.cells #[.string rn, .int .i64 ro, .string rv] 34)) w2.heap.size rn ro rv) := Rq.newS _ _ _ _ _ rfl
    clear HX2 HO2
    go_upto_region 5 with fail
    generalize w2.alloc (.cells #[.string rn, .int .i64 ro, .string rv] 34) = wb at *
    have z0 := HQb.out.c0
    have z1 := HQb.out.c1
    have z2 := HQb.out.c2
    generalize w2.heap.size = Db at *
    clear w2
    have HRow : Hid ((wb.alloc (.cells #[.string rn, .int .i64 ro, .string rv] 34)).ownsRow w.heap.size 34 3 (.slice a8 N.length c8) N.length (relC N)) := World.ownsRow.alloc HOb.out _
    have HNw : Hid (∀ j u, [Value.string rn, Value.int .i64 ro, Value.string rv][j]? = some u → (wb.alloc (.cells #[.string rn, .int .i64 ro, .string rv] 34)).cell? ((⟨wb.heap.size, 0, none⟩ : Addr).add j) = some u) := three_new22 wb _ _ _ _
    have HPt : Hid (∀ v8 w8, w8.ownsRow w.heap.size 34 3 v8 (N.length + 1) (relC N ++ [.string rn, .int .i64 ro, .string rv]) → Ap (wb.alloc (.cells #[.string rn, .int .i64 ro, .string rv] 34)) (.slice a8 N.length c8) w8 v8 → (OwnR w.heap.size w8 v8 (N ++ [(rn, ro, rv)]) ∧ ∃ a9 c9, v8 = .slice a9 (N.length + 1) c9) ∧ LkA w w8 D s q2) := fun v8 w8 o8 p8 => ⟨OwnR.put22 (o := .cells #[] 0) (r := (rn, ro, rv)) HOb.out o8, HXb.out.app22 HDw.out (fun g e => (World.ownsRow.lt HOb.out g e).1) p8⟩
    have hszb : w.heap.size ≤ wb.heap.size := HXb.out.2.size
    go_upto_region 6 with (at_builtin; refine wpList_append_apk rfl (.tmp 19) (.tmp 21) 26 rfl w.heap.size 34 i0 (.agg #[.string ⟨#[]⟩, .int .i64 0, .string ⟨#[]⟩]) 3 40 Tryd.underlying26 HIn.out.1 HIn.out.2.1 HIn.out.2.2.1 HIn.out.2.2.2 rfl (by decide) (.slice a8 N.length c8) N.length (relC N) rfl HRow.out ⟨wb.heap.size, 0, none⟩ 1 1 [.string rn, .int .i64 ro, .string rv] rfl rfl HNw.out (by simp [Value.oneCell']) (by unfold maxLen; omega) (by omega) (by simp; omega) ?_; intro v8 w8 own8 ap8; obtain ⟨⟨s8, a9, c9, rfl⟩, b8⟩ := HPt.out v8 w8 own8 ap8; have HO8 : Hid (OwnR w.heap.size w8 (.slice a9 (N.length + 1) c9) (N ++ [(rn, ro, rv)])) := s8; have HX8 : Hid (LkA w w8 D s q2) := b8; clear own8 ap8 s8 b8)
    clear HRow HNw HPt HXb HOb HQb z0 z1 z2 hszb
    have HC2 : Hid (Calls Tryd.prog 48 #[.pointer (some ⟨D, 0, none⟩), .int .i64 K] w8 fun e w' => e = .returned (.bool (lkF s q == K)) ∧ LkA w8 w' D s (psA s q K)) := by
      have := HPs.out w8 q2 HX8.out.1 hq2
      rw [HGq.out] at this
      exact this
    have HPq : Hid (psA s q K = if lkF s q = K then q + 1 else q) := rfl
    have hlk := HLk.out q
    by_cases hz : atB s q = Z
    · have hl : lkF s q = K := hlk.2 hz
      have hb : (lkF s q == K) = true := by simpa using hl
      have hp : psA s q K = q + 1 := by rw [HPq.out, if_pos hl]
      rw [hb, hp] at HC2
      obtain ⟨g1, g2⟩ := HNq2.out hz
      have hlt := at_lt22 HZ0.out hz
      have HKn : Hid (R = sevF s Z f (runF gapZ s.data.toList (q + 1)) (N ++ [(rn, ro, rv)])) := by show _ = _; rw [HK4.out, if_pos hz]
      clear HK4 HPq hlk hl hb hp hz HNq2
      go_wp2_with (go_at_call 48; refine HC2.out.mono ?_; rintro e w9 ⟨rfl, h9⟩; have HX9 : Hid (LkA w w9 D s (q + 1)) := HX8.out.trans22 h9; have HO9 : Hid (OwnR w.heap.size w9 (.slice a9 (N.length + 1) c9) (N ++ [(rn, ro, rv)])) := HO8.out.lk22 HDw.out h9; clear h9)
      go_roundg f
      case measure => omega
      case rel => exact ⟨q + 1, N ++ [(rn, ro, rv)], a9, c9, by omega, hlt, by simp; omega, by simp, by rw [List.length_append]; exact HO9.out, HKn.out, HX9.out⟩
    · have hl : ¬ lkF s q = K := fun h => hz (hlk.1 h)
      have hb : (lkF s q == K) = false := by simpa using hl
      have hp : psA s q K = q := by rw [HPq.out, if_neg hl]
      rw [hb, hp] at HC2
      have HE : Hid (R = .ok (N ++ [(rn, ro, rv)], q)) := by show _ = _; rw [HK4.out, if_neg hz]
      clear HK4 HPq hlk hl hb hp hz HNq2
      go_wp2_with (go_at_call 48; refine HC2.out.mono ?_; rintro e w9 ⟨rfl, h9⟩; have HX9 : Hid (LkA w w9 D s q) := HX8.out.trans22 h9; have HO9 : Hid (OwnR w.heap.size w9 (.slice a9 (N.length + 1) c9) (N ++ [(rn, ro, rv)])) := HO8.out.lk22 HDw.out h9; clear h9)
      go_returns
      rw [HE.out]
      exact ⟨a9, c9, by simp, by simp only [List.length_append, List.length_cons, List.length_nil]; exact HO9.out, HX9.out⟩

end Go.Proofs.YtmfcaoacklbkoaaDoor
