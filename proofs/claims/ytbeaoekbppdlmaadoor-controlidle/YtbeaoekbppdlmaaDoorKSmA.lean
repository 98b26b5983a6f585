/-
  same of the stanzas' laws, walked, where the fields are the same (and the lines, where they are asked).
  KEEP: below len form out each rd mono nil own row set on app start grown at new one more take none some kept cell refl trans size map made look put blw get step next box lt Ap old weak drewN
-/
import Derived.Test.YtbeaoekbppdlmaaDoorKCtF
import Derived.Deep.QuietTactic
import Derived.BigQuiet
import Derived.Deep.CutRange
set_option linter.unusedSimpArgs false
set_option linter.unusedVariables false
namespace Go.Proofs.YtbeaoekbppdlmaaDoor
open Go Go.RowKit

/-- the same stanzas, and on the same lines, where they are asked -/
def SmL (lines : Bool) (l m : List Stz) : Prop := l.length = m.length ∧ ∀ k, k < l.length → (l.getD k (0, [])).2 = (m.getD k (0, [])).2 ∧ (lines = true → (l.getD k (0, [])).1 = (m.getD k (0, [])).1)
theorem SmL.refl (b : Bool) (l : List Stz) : SmL b l l := ⟨rfl, fun k hk => ⟨rfl, fun _ => rfl⟩⟩
theorem below_dn21 (W : World) (k : Nat) : Below W.heap.size W (W.drewN k) := ⟨rfl, rfl, rfl, Nat.le_refl _, fun _ _ => rfl⟩

set_option maxHeartbeats 6400000 in
set_option maxRecDepth 100000 in
theorem same21 (u v : Value) (l m : List Stz) (lines : Bool) (w : World) (hu : RdSt w u l) (hv : RdSt w v m) (hs : SmL lines l m) :
    Calls Tryd.prog 20 #[u, v, .bool lines] w fun e w' => e = .returned (.bool true) ∧ Below w.heap.size w w' := by
  have hlen := hu.len
  have HU : Hid (RdSt w u l) := hu
  have HV : Hid (RdSt w v m) := hv
  have HS : Hid (SmL lines l m) := hs
  obtain ⟨a, c, rfl, hc, hm, -⟩ := hu.form
  obtain ⟨b, d, rfl, hd, hm2, -⟩ := hv.form
  have hlm : l.length = m.length := hs.1
  obtain ⟨n, hn⟩ : ∃ n, n = l.length := ⟨_, rfl⟩
  have hn2 : m.length = n := by omega
  rw [← hn] at hlen hc
  rw [hn2] at hd
  have HN : Hid (n = l.length ∧ m.length = n) := ⟨hn, hn2⟩
  rw [show l.length = n from hn.symm, hn2]
  clear hu hv hs hlm hn hn2
  go_enter Tryd.func20, Tryd.ntmps20
  go_wp2_with fail
  go_loopg [7] n (fun g i wr => ∃ k : Nat, k + g = n ∧ i = .int .i64 k ∧ Hid (Below w.heap.size w wr))
  case atStart => exact ⟨0, by omega, rfl, Below.refl _ _⟩
  case round =>
    obtain ⟨k, hk, rfl, HB⟩ := hrel
    have HG : Hid (k + gk = n) := hk
    by_cases hlt : k < n
    · obtain ⟨a', c', e1, -, -, hcu⟩ := (HU.out.below HB.out).form
      obtain ⟨b', d', e2, -, -, hcv⟩ := (HV.out.below HB.out).form
      have e3 : a' = a ∧ c' = c := by injection e1 with q1 q2 q3; exact ⟨q1.symm, q3.symm⟩
      have e4 : b' = b ∧ d' = d := by injection e2 with q1 q2 q3; exact ⟨q1.symm, q3.symm⟩
      obtain ⟨rfl, rfl⟩ := e3
      obtain ⟨rfl, rfl⟩ := e4
      obtain ⟨ub, uo, uf, rfl, hub, hu0, hu1, huf⟩ := hcu k (by have := HN.out.1; omega)
      obtain ⟨vb, vo, vf, rfl, hvb, hv0, hv1, hvf⟩ := hcv k (by have := HN.out.2; omega)
      have hsm := HS.out.2 k (by have := HN.out.1; omega)
      rw [← hsm.1] at hvf
      have hsl := hsm.2
      clear hsm
      generalize (l.getD k (0, [])).2 = fs at *
      generalize (l.getD k (0, [])).1 = ln at *
      generalize (m.getD k (0, [])).1 = ln2 at *
      have HUf : Hid (RdG wr uf fs) := huf
      have HVf : Hid (RdG wr vf fs) := hvf
      have hfl := huf.len
      obtain ⟨au, cu, rfl, hcu1, hcu2, -⟩ := huf.form
      obtain ⟨av, cv, rfl, hcv1, hcv2, -⟩ := hvf.form
      clear e1 e2 hcu hcv huf hvf hk
      cases lines
      case false =>
        clear hsl
        go_upto_region 6 with fail
        go_quiet (fail)
        have hu1q : (wr.drewN nq).cell? ⟨ub, uo + k * 2 + 1, none⟩ = some (.slice au fs.length cu) := hu1
        have hv1q : (wr.drewN nq).cell? ⟨vb, vo + k * 2 + 1, none⟩ = some (.slice av fs.length cv) := hv1
        have HUq : Hid (RdG (wr.drewN nq) (.slice au fs.length cu) fs) := HUf.out.below (below_dn21 _ _)
        have HVq : Hid (RdG (wr.drewN nq) (.slice av fs.length cv) fs) := HVf.out.below (below_dn21 _ _)
        have HBq : Hid (Below w.heap.size w (wr.drewN nq)) := HB.out.trans ((below_dn21 wr nq).mono HB.out.size)
        have hubq : ub < (wr.drewN nq).heap.size := hub
        have hvbq : vb < (wr.drewN nq).heap.size := hvb
        clear hu0 hv0 hu1 hv1 hub hvb HUf HVf HB
        generalize wr.drewN nq = wq at *
        go_wp2_with fail
        go_loopg [8] fs.length (fun g j wz => ∃ q : Nat, q + g = fs.length ∧ j = .int .i64 q ∧ Hid (Below wq.heap.size wq wz))
        case atStart => exact ⟨0, by omega, rfl, Below.refl _ _⟩
        case round =>
          obtain ⟨q, hq, rfl, HBz⟩ := hrel
          have HGq : Hid (q + gk = fs.length) := hq
          have hu2 := (HBz.out.cell (p := ⟨ub, uo + k * 2 + 1, none⟩) hubq).trans hu1q
          have hv2 := (HBz.out.cell (p := ⟨vb, vo + k * 2 + 1, none⟩) hvbq).trans hv1q
          have HBw : Hid (Below w.heap.size w wr) := HBq.out.trans (HBz.out.mono HBq.out.size)
          by_cases hlq : q < fs.length
          · obtain ⟨a1, c1, e1, -, -, hcu⟩ := (HUq.out.below HBz.out).form
            obtain ⟨b1, d1, e2, -, -, hcv⟩ := (HVq.out.below HBz.out).form
            have e3 : a1 = au ∧ c1 = cu := by injection e1 with q1 q2 q3; exact ⟨q1.symm, q3.symm⟩
            have e4 : b1 = av ∧ d1 = cv := by injection e2 with q1 q2 q3; exact ⟨q1.symm, q3.symm⟩
            obtain ⟨rfl, rfl⟩ := e3
            obtain ⟨rfl, rfl⟩ := e4
            obtain ⟨fb, fo, rfl, hfb, hx0, hx1⟩ := hcu q hlq
            obtain ⟨gb, go, rfl, hgb, hy0, hy1⟩ := hcv q hlq
            generalize fs.getD q ([], []) = f at *
            unfold strV at hx0 hx1 hy0 hy1
            generalize (⟨f.1.toArray⟩ : ByteArray) = NN at *
            generalize (⟨f.2.toArray⟩ : ByteArray) = VV at *
            clear e1 e2 hcu hcv hq hu1q hv1q hfb hgb
            go_upto_region 11 with fail
            go_quiet (fail)
            have HBr : Hid (Below wq.heap.size wq (wr.drewN nq)) := HBz.out.trans ((below_dn21 wr nq).mono HBz.out.size)
            go_wp2
            go_roundg (gk - 1)
            case measure => have := HGq.out; omega
            case rel => exact ⟨q + 1, by have := HGq.out; omega, by go_num, HBr.out⟩
          · clear hq hu1q hv1q
            go_wp2
            go_roundg (n - (k + 1))
            case measure => have := HG.out; omega
            case rel => exact ⟨k + 1, by have := HG.out; omega, by go_num, HBw.out⟩
      case true =>
        obtain rfl : ln2 = ln := (hsl rfl).symm
        clear hsl
        go_upto_region 6 with fail
        go_quiet (fail)
        have hu1q : (wr.drewN nq).cell? ⟨ub, uo + k * 2 + 1, none⟩ = some (.slice au fs.length cu) := hu1
        have hv1q : (wr.drewN nq).cell? ⟨vb, vo + k * 2 + 1, none⟩ = some (.slice av fs.length cv) := hv1
        have HUq : Hid (RdG (wr.drewN nq) (.slice au fs.length cu) fs) := HUf.out.below (below_dn21 _ _)
        have HVq : Hid (RdG (wr.drewN nq) (.slice av fs.length cv) fs) := HVf.out.below (below_dn21 _ _)
        have HBq : Hid (Below w.heap.size w (wr.drewN nq)) := HB.out.trans ((below_dn21 wr nq).mono HB.out.size)
        have hubq : ub < (wr.drewN nq).heap.size := hub
        have hvbq : vb < (wr.drewN nq).heap.size := hvb
        clear hu0 hv0 hu1 hv1 hub hvb HUf HVf HB
        generalize wr.drewN nq = wq at *
        go_wp2_with fail
        go_loopg [8] fs.length (fun g j wz => ∃ q : Nat, q + g = fs.length ∧ j = .int .i64 q ∧ Hid (Below wq.heap.size wq wz))
        case atStart => exact ⟨0, by omega, rfl, Below.refl _ _⟩
        case round =>
          obtain ⟨q, hq, rfl, HBz⟩ := hrel
          have HGq : Hid (q + gk = fs.length) := hq
          have hu2 := (HBz.out.cell (p := ⟨ub, uo + k * 2 + 1, none⟩) hubq).trans hu1q
          have hv2 := (HBz.out.cell (p := ⟨vb, vo + k * 2 + 1, none⟩) hvbq).trans hv1q
          have HBw : Hid (Below w.heap.size w wr) := HBq.out.trans (HBz.out.mono HBq.out.size)
          by_cases hlq : q < fs.length
          · obtain ⟨a1, c1, e1, -, -, hcu⟩ := (HUq.out.below HBz.out).form
            obtain ⟨b1, d1, e2, -, -, hcv⟩ := (HVq.out.below HBz.out).form
            have e3 : a1 = au ∧ c1 = cu := by injection e1 with q1 q2 q3; exact ⟨q1.symm, q3.symm⟩
            have e4 : b1 = av ∧ d1 = cv := by injection e2 with q1 q2 q3; exact ⟨q1.symm, q3.symm⟩
            obtain ⟨rfl, rfl⟩ := e3
            obtain ⟨rfl, rfl⟩ := e4
            obtain ⟨fb, fo, rfl, hfb, hx0, hx1⟩ := hcu q hlq
            obtain ⟨gb, go, rfl, hgb, hy0, hy1⟩ := hcv q hlq
            generalize fs.getD q ([], []) = f at *
            unfold strV at hx0 hx1 hy0 hy1
            generalize (⟨f.1.toArray⟩ : ByteArray) = NN at *
            generalize (⟨f.2.toArray⟩ : ByteArray) = VV at *
            clear e1 e2 hcu hcv hq hu1q hv1q hfb hgb
            go_upto_region 11 with fail
            go_quiet (fail)
            have HBr : Hid (Below wq.heap.size wq (wr.drewN nq)) := HBz.out.trans ((below_dn21 wr nq).mono HBz.out.size)
            go_wp2
            go_roundg (gk - 1)
            case measure => have := HGq.out; omega
            case rel => exact ⟨q + 1, by have := HGq.out; omega, by go_num, HBr.out⟩
          · clear hq hu1q hv1q
            go_wp2
            go_roundg (n - (k + 1))
            case measure => have := HG.out; omega
            case rel => exact ⟨k + 1, by have := HG.out; omega, by go_num, HBw.out⟩
    · clear hk
      go_wp2
      go_ret
      exact ⟨rfl, HB.out⟩

end Go.Proofs.YtbeaoekbppdlmaaDoor
