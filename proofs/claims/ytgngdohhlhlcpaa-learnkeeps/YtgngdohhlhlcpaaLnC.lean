/-
  CopyEntries, walked.
  KEEP: on app start at below new trans refl kept rd mono form rdz row own ap len
-/
import Derived.Test.YtgngdohhlhlcpaaLnM
import Derived.Test.YtgngdohhlhlcpaaCopy
import Derived.Test.YtgngdohhlhlcpaaSames
import Derived.Handy
import Derived.Deep.RegionWith
import Derived.Deep.QuietTactic
import Derived.Deep.RegionHeld
import Derived.Deep.CutRange
import Derived.Sort.AtCall
set_option linter.unusedSimpArgs false
set_option linter.unusedVariables false
namespace Go.Proofs.Ytgngdohhlhlcpaa
open Go Go.RowKit

theorem cell_three_new (w : World) (x y z : Value) (t : TypeId) : ∀ j u, [x, y, z][j]? = some u → (w.alloc (.cells #[x, y, z] t)).cell? ((⟨w.heap.size, 0, none⟩ : Addr).add j) = some u := by
  intro j u hu
  have hadd : (⟨w.heap.size, 0, none⟩ : Addr).add j = ⟨w.heap.size, j, none⟩ := by unfold Addr.add; split <;> simp_all
  rw [hadd, World.cell?_alloc_mark]
  simpa using hu

/-- append onto a row of the call's own, as one step of a region that draws -/
theorem step_append15 {P : Program} {ops : Array Oper} {o : Oper} {a : Act} {w : World} {K : Act → World → Prop} {Q : Exit → Act → World → Prop} {E : Prop}
    (hg : o.guard = none) (s x : Operand) (t : TypeId) (hop : o.op = Op.call { callee := Callee.builtin Builtin.append, args := #[s, x], argTypes := #[t, t] })
    (base : Nat) (e : TypeId) (i : TypeInfo) (z : Value) (size bytes : Nat) (h1 : P.underlying t = some (.slice e)) (h2 : P.info? e = some i) (h3 : i.zero = some z) (h4 : i.size = size) (h5 : i.bytes = bytes) (h6 : z.cells.size = size) (h7 : 0 < size)
    (v : Value) (n : Nat) (xs : List Value) (hs : a.eval s = v) (hown : w.ownsRow base e size v n xs)
    (ad : Addr) (m c : Nat) (news : List Value) (hx : a.eval x = .slice (some ad) m c) (hn : news.length = m * size) (hc : ∀ j u, news[j]? = some u → w.cell? (ad.add j) = some u) (h1c : ∀ u ∈ news, u.oneCell' = true)
    (b1 : n + m ≤ maxLen) (b2 : (n + m) * bytes ≤ 140737488355328) (hbase : base ≤ w.heap.size)
    (hK : ∀ v' w', w'.ownsRow base e size v' (n + m) (xs ++ news) → w.grownBy w' v.ownBlock → K (a.put o.dst v') w') :
    if Region.wanted o (yielded ops a.tmps) = true then Oper.wp P o a w K Q else E := by
  have hw : Region.wanted o (yielded ops a.tmps) = true := by simp [Region.wanted, hg]
  rw [if_pos hw]
  obtain ⟨v', w', hrun, r1, r2, _⟩ := run_append_own (P := P) w base t o.type e i z size bytes h1 h2 h3 h4 h5 h6 h7 v n xs hown ad m c news hn hc h1c b1 b2 hbase
  unfold Oper.wp
  simp [execOp, hop, resolve, invoke, builtin, hs, hx, hrun, Result.andThen]
  exact hK v' w' r1 r2

set_option maxHeartbeats 1600000 in
theorem copyEntries_any (s : Value) (l : List Ent) (w : World) (hr : RdE w s l) :
    Calls Try.prog 12 #[s] w fun e w' => ∃ u, e = .returned u ∧ OwnEs w.heap.size w' u l ∧ Below w.heap.size w w' := by
  have hl := hr.len
  have HR : Hid (RdE w s l) := hr
  obtain ⟨a, c, rfl, hc, hm, _⟩ := hr.form
  obtain ⟨il, hil, hzl0, hzl1, hzl2⟩ := info_parts infoE
  clear hr
  go_enter Try.func12, Try.ntmps12
  go_wp2
  go_loopg [3, 4] l.length (fun g u i wr => ∃ (k : Nat) (L : List EV), k + g = l.length ∧ i = .int .i64 k ∧ L.length = k ∧ evS L = l.take k ∧ Hid (OwnE w.heap.size wr u L) ∧ Below w.heap.size w wr)
  case atStart => exact ⟨0, [], by omega, rfl, rfl, by simp [evS], OwnE.nil _ _, Below.refl _ _⟩
  case round =>
    obtain ⟨k, L, hk, rfl, hLk, hL, HO, bel⟩ := hrel
    have HK : Hid (k + gk = l.length) := hk
    have HLs : Hid (evS L = l.take k) := hL
    have hs := bel.size
    have HLk : Hid (L.length = k) := hLk
    have hLk2 : L.length ≤ k := by omega
    clear hL hLk
    by_cases hlt : k < l.length
    · obtain ⟨a', c', e', _, _, hcell⟩ := HR.out.form
      have e3 : a' = a ∧ c' = c := by injection e' with q1 q2 q3; exact ⟨q1.symm, q3.symm⟩
      obtain ⟨rfl, rfl⟩ := e3
      obtain ⟨b, off, u, rfl, hbl, hd0, he0, hu0, hr0⟩ := hcell k hlt
      have hd := (bel.cell (p := ⟨b, off + k * 3, none⟩) hbl).trans hd0
      have hd1 := (bel.cell (p := ⟨b, off + k * 3 + 1, none⟩) hbl).trans he0
      have hu1 := (bel.cell (p := ⟨b, off + k * 3 + 2, none⟩) hbl).trans hu0
      have HU : Hid (Rd wr u (l.getD k e0).2.2) := hr0.below bel
      have HS : Hid (l.take (k + 1) = l.take k ++ [l.getD k e0]) := take_succ_getD l e0 k hlt
      obtain ⟨_, ua, uc, hu, _⟩ := hr0
      clear hk hcell e' hd0 he0 hu0
      generalize l.getD k e0 = xk at *
      obtain ⟨dd, de, z⟩ := xk
      dsimp only at *
      subst hu
      go_wp2_with fail
      refine (copyInts_any _ z wr HU.out).mono ?_
      rintro e w2 ⟨u2, rfl, own2, bel2⟩
      obtain ⟨a2, c2, hu2⟩ := own_form own2
      subst hu2
      have O2 : Hid (Own w.heap.size w2 (.slice a2 z.length c2) z) := own2.mono hs
      have HO2 : Hid (OwnE w.heap.size w2 _ L) := HO.out.below bel2
      have HAP : Hid (ApartC ((L ++ [(dd, de, Value.slice a2 z.length c2, z)]).map fun x => x.2.2)) := by
        show ApartC _
        rw [List.map_append]
        exact ApartC.snoc (W := wr) HO.out.ap (fun x hx => by obtain ⟨y, hy, rfl⟩ := List.mem_map.1 hx; exact HO.out.own y hy) own2 (Nat.le_refl _)
      have b2 : Below w.heap.size w w2 := bel.trans (bel2.mono hs)
      have s2 := b2.size
      have hd2 := (bel2.cell (p := ⟨b, off + k * 3, none⟩) (by show b < _; omega)).trans hd
      have hd3 := (bel2.cell (p := ⟨b, off + k * 3 + 1, none⟩) (by show b < _; omega)).trans hd1
      clear own2 bel2 hd hd1 hu1
      go_upto_region 6 with fail
      go_region_law (first
        | (refine step_append15 rfl _ _ 22 rfl w.heap.size 47 il (.agg #[.int .i64 0, .int .i64 0, .slice none 0 0]) 3 40 Try.underlying22 hil hzl0 hzl1 hzl2 rfl (by decide) _ L.length (evC L) (by simp [Act.eval, Act.put]) (World.ownsRow.alloc (World.ownsRow.kept HO2.out.row (grown_below (Below.refl _ _).drew) (one_or _)) _) _ 1 1 [.int .i64 dd, .int .i64 de, .slice a2 z.length c2] (by simp [Act.eval, Act.put]) rfl (cell_three_new _ _ _ _ _) (by simp [Value.oneCell']) (by unfold maxLen; omega) (by omega) (by simp; omega) ?_; intro v3 w3 own3 gr3))
      all_goals
        go_wp2_with fail
        go_roundg (gk - 1)
        case measure => have := HK.out; omega
        case rel => exact ⟨k + 1, L ++ [(dd, de, Value.slice a2 z.length c2, z)], by have := HK.out; omega, by go_num, by simp; exact HLk.out, by rw [HS.out, evS_snoc, HLs.out], HO2.out.app ((grown_below (Below.refl _ _).drew).trans (World.grownBy_alloc _ _ none)) own3 gr3 O2.out HAP.out, (b2.drew.alloc s2 _).grown gr3 (by simp; omega) (fun j hj => (World.ownsRow.lt HO2.out.row j hj).1)⟩
    · obtain rfl : k = l.length := by omega
      have HE : Hid (evS L = l) := by have := HLs.out; rw [List.take_length] at this; exact this
      clear hk
      go_wp2
      go_ret
      exact ⟨_, rfl, ⟨L, HO.out, HE.out⟩, bel⟩


end Go.Proofs.Ytgngdohhlhlcpaa
