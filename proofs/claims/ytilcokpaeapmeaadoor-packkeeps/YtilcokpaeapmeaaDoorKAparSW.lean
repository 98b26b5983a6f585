/-
  depotkit.ApartSteps, walked.
  KEEP: set on app at below new trans refl start ap kept rd rds mono row push put step side drew drewN mark weaken less store slice place cell lt prefix setOther
-/
import Derived.Test.YtilcokpaeapmeaaDoorJAparQ
import Derived.Test.YtilcokpaeapmeaaDoorJAppK
import Derived.Test.YtilcokpaeapmeaaDoorKSmall
import Derived.BigQuiet
import Derived.Test.YtilcokpaeapmeaaDoorLexC
set_option linter.unusedSimpArgs false
set_option linter.unusedVariables false
namespace Go.Proofs.YtilcokpaeapmeaaDoor
open Go Go.RowKit Go.Shelf

attribute [local go_sem] Oper.semAt_some

theorem step_append_twoz {P : Program} {ops : Array Oper} {o : Oper} {a : Act} {w : World} {K : Act → World → Prop} {Q : Exit → Act → World → Prop} {E : Prop}
    (hg : o.guard = none) (s x : Operand) (t : TypeId) (hop : o.op = Op.call { callee := Callee.builtin Builtin.append, args := #[s, x], argTypes := #[t, t] })
    (base : Nat) (e : TypeId) (i : TypeInfo) (z : Value) (size bytes : Nat) (h1 : P.underlying t = some (.slice e)) (h2 : P.info? e = some i) (h3 : i.zero = some z) (h4 : i.size = size) (h5 : i.bytes = bytes) (h6 : z.cells.size = size) (h7 : 0 < size)
    (v : Value) (n : Nat) (xs : List Value) (hs : a.eval s = v) (hown : w.ownsRow base e size v n xs)
    (ad : Addr) (m c : Nat) (news : List Value) (hx : a.eval x = .slice (some ad) m c) (hn : news.length = m * size) (hc : ∀ j u, news[j]? = some u → w.cell? (ad.add j) = some u) (h1c : ∀ u ∈ news, u.oneCell' = true)
    (hm : 0 < m) (b1 : n + m ≤ maxLen) (b2 : (n + m) * bytes ≤ 140737488355328) (hbase : base ≤ w.heap.size)
    (hK : ∀ v' w', w'.ownsRow base e size v' (n + m) (xs ++ news) →
      ((∃ g cap, v = .slice (some ⟨g, 0, none⟩) n cap ∧ v' = .slice (some ⟨g, 0, none⟩) (n + m) cap ∧ w.grownBy w' (some g)) ∨ (w'.ownsRow w.heap.size e size v' (n + m) (xs ++ news) ∧ w.grownBy w' none)) → K (a.put o.dst v') w') :
    if Region.wanted o (yielded ops a.tmps) = true then Oper.wp P o a w K Q else E := by
  have hw : Region.wanted o (yielded ops a.tmps) = true := by simp [Region.wanted, hg]
  rw [if_pos hw]
  obtain ⟨v', w', hrun, r1, r2⟩ := run_append_twoz (P := P) w base t o.type e i z size bytes h1 h2 h3 h4 h5 h6 h7 v n xs hown ad m c news hn hc h1c hm b1 b2 hbase
  unfold Oper.wp
  simp [execOp, hop, resolve, invoke, builtin, hs, hx, hrun, Result.andThen]
  exact hK v' w' r1 r2
theorem cell_two_newz (w : World) (o : Obj) (x y : Value) (t : TypeId) : ∀ j u, [x, y][j]? = some u → ((w.alloc o).alloc (.cells #[x, y] t)).cell? ((⟨w.heap.size + 1, 0, none⟩ : Addr).add j) = some u := fun j u hu => by
  rw [Addr.add_lit]
  have hh := World.alloc_heap_new (w.alloc o) (.cells #[x, y] t)
  rw [World.size_alloc] at hh
  show (match ((w.alloc o).alloc (.cells #[x, y] t)).heap[w.heap.size + 1]? with | some (Obj.cells c elem frozen) => c[0 + j]? | x => none) = _
  rw [hh]
  simpa using hu

theorem infoLs3 : (Tryd.prog.info? 22).map (fun i => (i.zero, i.size, i.bytes)) = some (some (.slice none 0 0), 1, 24) := by kernel_rfl
theorem Gqs.drew {Q : Nat → Prop} {B S : Nat} {w wr : World} {rv : Value} {K : Nat} {v : Nat → Value} {n : Nat → Nat} {gr : Value} {kr k : Nat} {u : Nat → Value} {m : Nat → Nat} (h : Gqs Q B S w wr rv K v n gr kr k u m) : Gqs Q B S w wr.drew rv K v n gr kr k u m :=
  ⟨h.ap.drew, h.grow, h.gp, h.gb, h.sz, h.hB, h.vb, h.rb, h.hap, h.hk, h.sw⟩
theorem Gqs.drewN {Q : Nat → Prop} {B S : Nat} {w wr : World} {rv : Value} {K : Nat} {v : Nat → Value} {n : Nat → Nat} {gr : Value} {kr k : Nat} {u : Nat → Value} {m : Nat → Nat} (h : Gqs Q B S w wr rv K v n gr kr k u m) (q : Nat) : Gqs Q B S w (wr.drewN q) rv K v n gr kr k u m := by
  refine h.new ?_
  exact grown_of_below (below_drewN _ _)
theorem Gqs.side {Q : Nat → Prop} {B S Sk N : Nat} {w wr wa w' : World} {rv : Value} {K : Nat} {v : Nat → Value} {n : Nat → Nat} {gr mv : Value} {kr k : Nat} {u : Nat → Value} {m : Nat → Nat} {xs : List Value} (h : Gqs Q B S w wr rv K v n gr kr k u m) (hSk : S ≤ Sk)
    (huk : ∀ j, j < k → ∀ b, (u j).ownBlock = some b → b < Sk) (hga : wr.grownBy wa none) (hm : wa.ownsRow Sk 61 2 mv N xs) (hg : wa.grownBy w' mv.ownBlock) : Gqs Q B S w w' rv K v n gr kr k u m := by
  have ha := h.new hga
  cases e : mv.ownBlock with
  | none => rw [e] at hg; exact ha.new hg
  | some g =>
    have hS : Sk ≤ g := (World.ownsRow.lt hm g e).1
    rw [e] at hg
    refine ha.step hg (fun b e' => by cases e'; exact row_niz hm (by decide) g e) (fun b e' => by cases e'; have := h.hB; omega) (fun b e' hq => by cases e'; have h7 := h.ap.qs _ hq; have h8 := h.sw; omega) (fun j o e' hj => row_cells hm j o (by rw [e]; exact e') hj) (fun j hj => (ha.ap.pm j hj).kept hg (.inr fun e' => ?_) (fun b e' => by cases e'; exact row_niz hm (by decide) g e)) (.inr (block_apart (by decide) ha.ap.row hm e)) (.inr (block_apart (by decide) ha.grow hm e)) (fun j hj => .inr fun e' => ?_)
    · have := h.vb j hj _ e'
      omega
    · have := huk j hj _ e'
      omega

set_option maxRecDepth 100000 in
set_option maxHeartbeats 16000000 in
theorem apart_s (Q : Nat → Prop) (B : Nat) (rv : Value) (K : Nat) (v : Nat → Value) (n : Nat → Nat) (w : World) (hB : B ≤ w.heap.size)
    (hrow : w.ownsRow B 22 1 rv K ((List.range K).map v)) (hown : ∀ j, j < K → ∃ Y, OwnSp B w (v j) Y ∧ Y.length = n j)
    (hap : ∀ i j, i < K → j < K → i ≠ j → (v i).ownBlock = none ∨ (v i).ownBlock ≠ (v j).ownBlock) (hK : K * 24 ≤ 140737488351232) (hn : ∀ j, j < K → n j * 32 ≤ 140737488353280) (hqv : ∀ j, j < K → ∀ b, (v j).ownBlock = some b → ¬ Q b) (hqs : ∀ k, Q k → k < w.heap.size) :
    Calls Tryd.prog 44 #[rv] w fun e w' => e = .returned (.bool true) ∧ Below B w w' ∧ ∀ k, Q k → w'.heap[k]? = w.heap[k]? := by
  obtain ⟨i0, hi, hz0, hz1, hz2⟩ := info_parts infoZ
  obtain ⟨iL, hiL, hL0, hL1, hL2⟩ := info_parts infoLs3
  have A0 : Hid (Aqs Q B w w rv K v n (fun _ => 0)) := ⟨hrow, fun j hj => by obtain ⟨Y, h1, h2⟩ := hown j hj; exact ⟨Y, h1, h2, fun t ht => absurd ht (Nat.not_lt_zero _)⟩, Below.refl _ _, KeepsOthers.refl _, fun _ _ => rfl, hqv, hqs⟩
  obtain ⟨ar, cr, rfl⟩ : ∃ ar cr, rv = .slice ar K cr := row_slice hrow
  have HAP : Hid (∀ i j, i < K → j < K → i ≠ j → (v i).ownBlock = none ∨ (v i).ownBlock ≠ (v j).ownBlock) := hap
  have HN : Hid (∀ j, j < K → n j * 32 ≤ 140737488353280) := hn
  clear hap hn hrow hown
  go_enter Tryd.func44, Tryd.ntmps44
  go_wp2
  go_loopg [3] K (fun g i wr => ∃ k : Nat, k + g = K ∧ i = .int .i64 k ∧ Aqs Q B w wr (.slice ar K cr) K v n (fun j => if j < k then n j else 0))
  case atStart => exact ⟨0, by omega, rfl, A0.out.weaken (fun j _ => by simp)⟩
  case round =>
  obtain ⟨k, hk, rfl, ap⟩ := hrel
  have HK : Hid (k + gk = K) := hk
  by_cases hlt : k < K
  · have AP : Hid (Aqs Q B w wr (.slice ar K cr) K v n (fun j => if j < k then n j else 0)) := ap
    obtain ⟨gr, cap, er, hcap, hcell⟩ := row_ats ap.row hlt
    simp only [Value.slice.injEq, true_and] at er
    obtain ⟨rfl, rfl⟩ := er
    have hnk := HN.out k hlt
    clear ap hk
    obtain ⟨nk, hnk'⟩ : ∃ nk, n k = nk := ⟨_, rfl⟩
    rw [hnk'] at hnk
    have HNK : Hid (n k = nk) := hnk'
    clear hnk' hcell
    go_wp2
    go_loopg [4] nk (fun g i wq => ∃ i' : Nat, i' + g = nk ∧ i = .int .i64 i' ∧ Aqs Q B w wq (.slice (some ⟨gr, 0, none⟩) K cr) K v n (fun j => if j < k then n j else if j = k then i' else 0))
    case atStart => exact ⟨0, by omega, rfl, AP.out.weaken (fun j _ => by simp)⟩
    case round =>
      obtain ⟨i, hi', rfl, ap⟩ := hrel
      have HI : Hid (i + gk = nk) := hi'
      by_cases hil : i < nk
      · obtain ⟨_, _, er, -, hcell⟩ := row_ats ap.row hlt
        cases er
        have hwB : B ≤ wr.heap.size := Nat.le_trans hB ap.bel.size
        have apa := ap.new hwB (World.grownBy_alloc wr (.cells #[.int .i64 (mrk k i)] 3) none)
        obtain ⟨g, cap, y, z, e, hcp, q1, q2, q34, apm⟩ := apa.mark HAP.out hlt (i := i) (by simp) (by rw [HNK.out]; exact hil) ((ownOne wr (mrk k i)).mono hwB)
        obtain ⟨pb, hpb⟩ : ∃ pb, prS k i = pb := ⟨_, rfl⟩
        have hp1 : (((k : Int) + (i : Int)) % 2 == 0) = pb := hpb
        have hp2 : (((k : Int) + (i : Int)).tmod 2 == 0) = pb := by rw [Int.tmod_eq_emod_of_nonneg (by omega)]; exact hpb
        have hw0 : IntKind.i64.wrap ((k : Int) + (i : Int)) = (k : Int) + (i : Int) := by rw [IntKind.wrap_i64]; omega
        rw [hpb] at apm
        obtain ⟨q3, q4⟩ := q34 (.bool pb)
        obtain ⟨_, _, er, -, hcell2⟩ := row_ats apa.row hlt
        cases er
        rw [e, HNK.out] at hcell hcell2
        have APM : Hid (Aqs Q B w (((wr.alloc (.cells #[.int .i64 (mrk k i)] 3)).setCell ⟨g, i * 2, none⟩ (.bool pb)).setCell ⟨g, i * 2 + 1, none⟩ (.slice (some ⟨wr.heap.size, 0, none⟩) 1 1)) (.slice (some ⟨gr, 0, none⟩) K cr) K v n (fun j => if j = k then i + 1 else if j < k then n j else if j = k then i else 0)) := apm
        clear q34 hpb
        rw [HNK.out] at hcp
        have HM : Hid (∀ W, Calls Tryd.prog 30 #[.int .i64 k, .int .i64 i] W fun e w' => e = .returned (.int .i64 (mrk k i)) ∧ w' = W) := fun W => mark_any k i W (by omega) (by omega)
        clear ap apm apa hi' e
        generalize mrk k i = mk at *
        go_wp2
        go_region_with (go_at_call 30; refine (HM.out _).mono ?_; rintro e wv ⟨rfl, rfl⟩)
        all_goals
          go_wp2
          go_roundg (gk - 1)
          case measure => have := HI.out; omega
          case rel => exact ⟨i + 1, by have := HI.out; omega, by go_num, APM.out.drew.weaken (fun j _ => by
            by_cases e1 : j = k
            · subst e1; simp
            · simp [e1])⟩
      · have e : nk = i := by omega
        subst e
        clear hi' hil
        obtain ⟨_, _, er, -, hcell⟩ := row_ats ap.row hlt
        cases er
        obtain ⟨ax, cx, e⟩ := (ap.pm k hlt).slice
        rw [e, HNK.out] at hcell
        have AP2 : Hid (Aqs Q B w wr (.slice (some ⟨gr, 0, none⟩) K cr) K v n (fun j => if j < k then n j else if j = k then nk else 0)) := ap
        clear ap e
        go_wp2
        go_roundg (K - k - 1)
        case measure => have := HK.out; omega
        case rel => exact ⟨k + 1, by have := HK.out; omega, by go_num, AP2.out.weaken (fun j _ => by
            by_cases e1 : j = k
            · subst e1; simp [HNK.out]
            · by_cases e2 : j < k
              · simp [e2, show j < k + 1 by omega]
              · simp [show ¬ j < k + 1 by omega])⟩
  have e : K = k := by omega
  subst e
  clear hk hlt HK A0
  have ap3 := ap.weaken (c' := n) (fun j hj => by simp [hj])
  have sB : B ≤ wr.heap.size := Nat.le_trans hB ap.bel.size
  have G0 : Hid (Gqs Q B wr.heap.size w wr (.slice ar K cr) K v n (.slice none 0 0) 0 0 (fun _ => .slice none 0 0) (fun j => n j + 64)) :=
    ⟨ap3, World.ownsRow_nil _ _ _ _, fun j hj => by omega, fun j hj => by omega, Nat.le_refl _, sB, fun j hj b e => ((ap3.pm j hj).lt b e).2, fun b e => (World.ownsRow.lt ap3.row b e).2, HAP.out, Nat.zero_le _, ap.bel.size⟩
  clear ap ap3
  generalize wr = w3 at *
  go_wp2
  go_loopg [5, 6] K (fun g gsv kv wr => ∃ (k : Nat) (u : Nat → Value) (ag : Option Addr) (cg : Nat), k + g = K ∧ gsv = .slice ag k cg ∧ kv = .int .i64 k ∧ Gqs Q B w3.heap.size w wr (.slice ar K cr) K v n (.slice ag k cg) k k u (fun j => n j + 64))
  case atStart => exact ⟨0, _, none, 0, by omega, rfl, rfl, G0.out⟩
  case round =>
  obtain ⟨k, u, ag, cg, hk, rfl, rfl, gs⟩ := hrel
  have HK : Hid (k + gk = K) := hk
  by_cases hlt : k < K
  · obtain ⟨gr, cap, er, hcap, hcell⟩ := row_ats gs.ap.row hlt
    simp only [Value.slice.injEq, true_and] at er
    obtain ⟨rfl, rfl⟩ := er
    have hnk := HN.out k hlt
    obtain ⟨nk, hnk'⟩ : ∃ nk, n k = nk := ⟨_, rfl⟩
    rw [hnk'] at hnk
    have HNK : Hid (n k = nk) := hnk'
    obtain ⟨Y0, ho0, hl0, hm0⟩ := gs.ap.pm k hlt
    rw [hnk'] at hl0 hm0
    obtain ⟨a0, c0, e0⟩ := ownsp_slice ho0
    rw [hl0] at e0
    have HE0 : Hid (v k = .slice a0 nk c0) := e0
    rw [e0] at hcell ho0
    have HO0 : Hid (OwnSp B wr (.slice a0 nk c0) Y0) := ho0
    have HL0 : Hid (Y0.length = nk) := hl0
    have HM0 : Hid (MksS B wr Y0 k nk) := hm0
    have GS : Hid (Gqs Q B w3.heap.size w wr (.slice (some ⟨gr, 0, none⟩) K cr) K v n (.slice ag k cg) k k u (fun j => n j + 64)) := gs
    have HUK : Hid (∀ j, j < k → ∀ b, (u j).ownBlock = some b → b < wr.heap.size) := fun j hj b e => ((gs.gp j hj).lt b e).2
    have hS3 : w3.heap.size ≤ wr.heap.size := gs.sz
    clear gs hk hnk' e0 ho0 hl0 hm0
    generalize wr = w4 at *
    go_wp2
    clear hcell
    go_loopg [7, 8] 64 (fun g x iv wq => ∃ (i : Nat) (Y : List StE) (ax : Option Addr) (cx : Nat), i + g = 64 ∧ x = .slice ax (nk + i) cx ∧ iv = .int .i64 i ∧ OwnSp B wq (.slice ax (nk + i) cx) Y ∧ Y.length = nk + i ∧ MksS B wq Y k (nk + i) ∧
      ((Value.slice ax (nk + i) cx).ownBlock = (v k).ownBlock ∨ ∃ b, (Value.slice ax (nk + i) cx).ownBlock = some b ∧ w4.heap.size ≤ b) ∧ Gqs Q B w3.heap.size w wq (.slice (some ⟨gr, 0, none⟩) K cr) K v n (.slice ag k cg) k k u (fun j => n j + 64) ∧ w4.heap.size ≤ wq.heap.size)
    case atStart => exact ⟨0, Y0, a0, c0, by omega, rfl, rfl, HO0.out, HL0.out, HM0.out, .inl (by rw [HE0.out]; rfl), GS.out, Nat.le_refl _⟩
    case round =>
      obtain ⟨i, Y, ax, cx, hi', rfl, rfl, ho, hl, hm, hxb, gs, hsz⟩ := hrel
      have HI : Hid (i + gk = 64) := hi'
      by_cases hil : i < 64
      · obtain ⟨_, _, er, -, hcell⟩ := row_ats gs.ap.row hlt
        cases er
        rw [HE0.out] at hcell
        have HM : Hid (∀ W, Calls Tryd.prog 30 #[.int .i64 k, .int .i64 ((nk : Int) + (i : Int))] W fun e w' => e = .returned (.int .i64 (mrk k (nk + i))) ∧ w' = W) := fun W => by
          have := mark_any k (nk + i) W (by omega) (by omega)
          rwa [Int.natCast_add] at this
        have HO : Hid (OwnSp B wr (.slice ax (nk + i) cx) Y) := ho
        have HL : Hid (Y.length = nk + i) := hl
        have HMM : Hid (MksS B wr Y k (nk + i)) := hm
        have HXB : Hid ((Value.slice ax (nk + i) cx).ownBlock = (v k).ownBlock ∨ ∃ b, (Value.slice ax (nk + i) cx).ownBlock = some b ∧ w4.heap.size ≤ b) := hxb
        have GS2 : Hid (Gqs Q B w3.heap.size w wr (.slice (some ⟨gr, 0, none⟩) K cr) K v n (.slice ag k cg) k k u (fun j => n j + 64)) := gs
        have sBr : B ≤ wr.heap.size := Nat.le_trans gs.hB gs.sz
        clear ho hl hm hxb gs hi'
        obtain ⟨mk, hmk⟩ : ∃ mk, mrk k (nk + i) = mk := ⟨_, rfl⟩
        have HMK : Hid (mrk k (nk + i) = mk) := hmk
        rw [hmk] at HM
        clear hmk
        have hEP : (((k : Int) + (nk : Int) + (i : Int)).tmod 2 == 0) = prS k (nk + i) := by unfold prS; rw [Int.natCast_add, Int.tmod_eq_emod_of_nonneg (by omega), Int.add_assoc]
        have HRw : Hid (((wr.alloc (.cells #[.int .i64 mk] 3)).alloc (.cells #[.bool (((k : Int) + (nk : Int) + (i : Int)).tmod 2 == 0), .slice (some ⟨wr.heap.size, 0, none⟩) 1 1] 61)).drew.ownsRow B 61 2 (.slice ax (nk + i) cx) Y.length (spC Y)) := row_kept (World.ownsRow.alloc (World.ownsRow.alloc HO.out (.cells #[.int .i64 mk] 3)) (.cells #[.bool (((k : Int) + (nk : Int) + (i : Int)).tmod 2 == 0), .slice (some ⟨wr.heap.size, 0, none⟩) 1 1] 61)) fun _ _ => rfl
        have HNw : Hid (∀ j u, [Value.bool (((k : Int) + (nk : Int) + (i : Int)).tmod 2 == 0), (.slice (some ⟨wr.heap.size, 0, none⟩) 1 1)][j]? = some u → ((wr.alloc (.cells #[.int .i64 mk] 3)).alloc (.cells #[.bool (((k : Int) + (nk : Int) + (i : Int)).tmod 2 == 0), .slice (some ⟨wr.heap.size, 0, none⟩) 1 1] 61)).drew.cell? ((⟨wr.heap.size + 1, 0, none⟩ : Addr).add j) = some u) := fun j u hu => cell_two_newz wr (.cells #[.int .i64 mk] 3) _ _ _ j u hu
        have HSw : Hid (B ≤ ((wr.alloc (.cells #[.int .i64 mk] 3)).alloc (.cells #[.bool (((k : Int) + (nk : Int) + (i : Int)).tmod 2 == 0), .slice (some ⟨wr.heap.size, 0, none⟩) 1 1] 61)).drew.heap.size) := Nat.le_trans sBr (Below.step (below_box wr (.cells #[.int .i64 mk] 3)) (below_box _ _)).size
        have HGa : Hid (wr.grownBy ((wr.alloc (.cells #[.int .i64 mk] 3)).alloc (.cells #[.bool (((k : Int) + (nk : Int) + (i : Int)).tmod 2 == 0), .slice (some ⟨wr.heap.size, 0, none⟩) 1 1] 61)).drew none) := grown_of_below (Below.step (below_box wr (.cells #[.int .i64 mk] 3)) (below_box _ _).drew)
        have HOn : Hid (Own B ((wr.alloc (.cells #[.int .i64 mk] 3)).alloc (.cells #[.bool (((k : Int) + (nk : Int) + (i : Int)).tmod 2 == 0), .slice (some ⟨wr.heap.size, 0, none⟩) 1 1] 61)).drew (.slice (some ⟨wr.heap.size, 0, none⟩) 1 1) [mk]) := ((ownOne wr mk).mono sBr).below (below_box _ _).drew
        have HAw : Hid (∀ x' w', w'.ownsRow B 61 2 x' (Y.length + 1) (spC Y ++ [.bool (((k : Int) + (nk : Int) + (i : Int)).tmod 2 == 0), (.slice (some ⟨wr.heap.size, 0, none⟩) 1 1)]) →
            ((∃ g cap, Value.slice ax (nk + i) cx = .slice (some ⟨g, 0, none⟩) Y.length cap ∧ x' = .slice (some ⟨g, 0, none⟩) (Y.length + 1) cap ∧ ((wr.alloc (.cells #[.int .i64 mk] 3)).alloc (.cells #[.bool (((k : Int) + (nk : Int) + (i : Int)).tmod 2 == 0), .slice (some ⟨wr.heap.size, 0, none⟩) 1 1] 61)).drew.grownBy w' (some g)) ∨ (w'.ownsRow ((wr.alloc (.cells #[.int .i64 mk] 3)).alloc (.cells #[.bool (((k : Int) + (nk : Int) + (i : Int)).tmod 2 == 0), .slice (some ⟨wr.heap.size, 0, none⟩) 1 1] 61)).drew.heap.size 61 2 x' (Y.length + 1) (spC Y ++ [.bool (((k : Int) + (nk : Int) + (i : Int)).tmod 2 == 0), (.slice (some ⟨wr.heap.size, 0, none⟩) 1 1)]) ∧ ((wr.alloc (.cells #[.int .i64 mk] 3)).alloc (.cells #[.bool (((k : Int) + (nk : Int) + (i : Int)).tmod 2 == 0), .slice (some ⟨wr.heap.size, 0, none⟩) 1 1] 61)).drew.grownBy w' none)) →
            ∃ ax' cx', x' = .slice ax' (nk + (i + 1)) cx' ∧ Hid (OwnSp B w' (.slice ax' (nk + (i + 1)) cx') (Y ++ [(prS k (nk + i), (.slice (some ⟨wr.heap.size, 0, none⟩) 1 1))]) ∧ (Y ++ [(prS k (nk + i), ((.slice (some ⟨wr.heap.size, 0, none⟩) 1 1) : Value))]).length = nk + (i + 1) ∧ MksS B w' (Y ++ [(prS k (nk + i), (.slice (some ⟨wr.heap.size, 0, none⟩) 1 1))]) k (nk + (i + 1)) ∧
              ((Value.slice ax' (nk + (i + 1)) cx').ownBlock = (v k).ownBlock ∨ ∃ b, (Value.slice ax' (nk + (i + 1)) cx').ownBlock = some b ∧ w4.heap.size ≤ b) ∧ Gqs Q B w3.heap.size w w' (.slice (some ⟨gr, 0, none⟩) K cr) K v n (.slice ag k cg) k k u (fun j => n j + 64) ∧ w4.heap.size ≤ w'.heap.size)) := by
          intro x' w' own' h2
          rw [hEP] at own' h2
          have HRw2 := HRw.out
          have HOn2 := HOn.out
          have HGa2 := HGa.out
          rw [hEP] at HRw2 HOn2 HGa2
          obtain ⟨gs', ho', hkp, hxb'⟩ := GS2.out.app (nz := [(prS k (nk + i), (.slice (some ⟨wr.heap.size, 0, none⟩) 1 1))]) hlt hS3 hsz HUK.out HO.out (by rw [HNK.out, HL.out]; omega) HXB.out HGa2 (by simp) own' h2
          obtain ⟨ax', cx', e'⟩ := ownsp_slice ho'
          have hl' : (Y ++ [(prS k (nk + i), ((.slice (some ⟨wr.heap.size, 0, none⟩) 1 1) : Value))]).length = nk + (i + 1) := by rw [List.length_append, HL.out]; rfl
          rw [hl'] at e'
          subst e'
          have hm' : MksS B w' (Y ++ [(prS k (nk + i), (.slice (some ⟨wr.heap.size, 0, none⟩) 1 1))]) k (nk + (i + 1)) := by
            have h9 : MksS B w' Y k (nk + i) := fun t ht => by
              obtain ⟨u, h5, h6⟩ := HMM.out t ht
              exact ⟨u, h5, hkp u _ h6⟩
            refine h9.snoc HL.out ?_
            rw [HMK.out]
            rcases h2 with ⟨g9, c9, e9, _, h3⟩ | ⟨_, h3⟩
            · refine own_keptN HOn2 h3 fun g' e10 => ?_
              cases e10
              exact row_niz HRw2 (by decide) g9 (congrArg Value.ownBlock (show Value.slice ax (nk + i) cx = .slice (some ⟨g9, 0, none⟩) Y.length c9 from e9))
            · exact own_keptN HOn2 h3 no_row
          have hsz' : w4.heap.size ≤ w'.heap.size := by
            have h0 := HGa2.size
            rcases h2 with ⟨_, _, _, _, h3⟩ | ⟨_, h3⟩ <;> exact Nat.le_trans hsz (Nat.le_trans h0 h3.size)
          exact ⟨ax', cx', rfl, ho', hl', hm', hxb', gs', hsz'⟩
        have hw1 : IntKind.i64.wrap ((nk : Int) + (i : Int)) = (nk : Int) + (i : Int) := by rw [IntKind.wrap_i64]; omega
        have hw2 : IntKind.i64.wrap ((k : Int) + (nk : Int)) = (k : Int) + (nk : Int) := by rw [IntKind.wrap_i64]; omega
        have hw3 : IntKind.i64.wrap ((k : Int) + (nk : Int) + (i : Int)) = (k : Int) + (nk : Int) + (i : Int) := by rw [IntKind.wrap_i64]; omega
        have ya : (wr.alloc (.cells #[.int .i64 mk] 3)).cell? ⟨gr, k, none⟩ = some (.slice a0 nk c0) := ((below_box wr _).cell (p := ⟨gr, k, none⟩) (World.block_lt_of_cell? wr _ hcell)).trans hcell
        have yb : ((wr.alloc (.cells #[.int .i64 mk] 3)).alloc (.cells #[.bool (((k : Int) + (nk : Int) + (i : Int)).tmod 2 == 0), .slice (some ⟨wr.heap.size, 0, none⟩) 1 1] 61)).cell? ⟨gr, k, none⟩ = some (.slice a0 nk c0) := ((below_box (wr.alloc (.cells #[.int .i64 mk] 3)) _).cell (p := ⟨gr, k, none⟩) (World.block_lt_of_cell? _ _ ya)).trans ya
        have hl63 : Y.length + 1 ≤ maxLen := by rw [HL.out]; unfold maxLen; omega
        have hl48 : (Y.length + 1) * 32 ≤ 140737488355328 := by rw [HL.out]; omega
        have HIz : Hid (Tryd.prog.info? 61 = some i0 ∧ i0.zero = some (.agg #[.bool false, .slice none 0 0]) ∧ i0.size = 2 ∧ i0.bytes = 32) := ⟨hi, hz0, hz1, hz2⟩
        clear hEP
        go_upto_region 16 with fail
        go_region_law (first
          | (go_simp; go_at_call 30; refine (HM.out _).mono ?_; intro e w9 hh; rw [hh.1, hh.2]; clear hh e w9; dsimp only)
          | (refine step_append_twoz rfl (.tmp 61) (.tmp 84) 22 rfl B 61 i0 (.agg #[.bool false, .slice none 0 0]) 2 32 Tryd.underlying22 HIz.out.1 HIz.out.2.1 HIz.out.2.2.1 HIz.out.2.2.2 rfl (by decide) (.slice ax (nk + i) cx) Y.length (spC Y) (by simp [Act.eval, Act.put]) HRw.out ⟨wr.heap.size + 1, 0, none⟩ 1 1 [.bool (((k : Int) + (nk : Int) + (i : Int)).tmod 2 == 0), (.slice (some ⟨wr.heap.size, 0, none⟩) 1 1)] (by simp [Act.eval, Act.put]) rfl HNw.out (by simp [Value.oneCell']) (by omega) hl63 hl48 HSw.out ?_; intro x' w' own' h2; obtain ⟨ax', cx', ex, HF⟩ := HAw.out x' w' own' h2; subst ex; clear own' h2))
        all_goals
          obtain ⟨ho', hl', hm', hxb', gs', hsz'⟩ := HF.out
          go_wp2
          go_roundg (gk - 1)
          case measure => have := HI.out; omega
          case rel => exact ⟨i + 1, _, ax', cx', by have := HI.out; omega, rfl, by go_num, ho', hl', hm', hxb', gs', hsz'⟩
      · obtain rfl : i = 64 := by omega
        clear hi' hil
        have PX : Hid (Pms B wr (.slice ax (nk + 64) cx) k (n k + 64) (n k + 64)) := ⟨Y, ho, by rw [HNK.out]; exact hl, by rw [HNK.out]; exact hm⟩
        have HXB : Hid ((Value.slice ax (nk + 64) cx).ownBlock = (v k).ownBlock ∨ ∃ b, (Value.slice ax (nk + 64) cx).ownBlock = some b ∧ w3.heap.size ≤ b) := by
          rcases hxb with q | ⟨b, q, hb⟩
          · exact .inl q
          · exact .inr ⟨b, q, Nat.le_trans hS3 hb⟩
        have GS2 : Hid (Gqs Q B w3.heap.size w wr (.slice (some ⟨gr, 0, none⟩) K cr) K v n (.slice ag k cg) k k u (fun j => n j + 64)) := gs
        have sS : w3.heap.size ≤ wr.heap.size := gs.sz
        clear ho hl hm hxb gs
        go_wp2_with (at_builtin; refine wpList_append_own _ rfl _ _ 42 rfl w3.heap.size 22 iL (.slice none 0 0) 1 24 Tryd.underlying42 hiL hL0 hL1 hL2 rfl (by decide) _ k ((List.range k).map u) rfl (World.ownsRow.alloc GS2.out.grow _) ⟨wr.heap.size, 0, none⟩ 1 1 [.slice ax (nk + 64) cx] rfl rfl (cell_one_new _ _ _) (by simp [Value.oneCell']) (by unfold maxLen; omega) (by omega) (by simp; omega) ?_; intro gr' w' own' gr2 hn')
        have gs' := GS2.out.push hlt (World.grownBy_alloc _ _ none) own' gr2 PX.out HXB.out
        obtain ⟨ag', cg', e'⟩ := row_slice own'
        subst e'
        go_roundg (K - k - 1)
        case measure => have := HK.out; omega
        case rel => exact ⟨k + 1, _, ag', cg', by have := HK.out; omega, rfl, by go_num, gs'⟩
  have e : K = k := by omega
  subst e
  clear hk hlt HK G0
  have G5 : Hid (Gqs Q B w3.heap.size w wr (.slice ar K cr) K v n (.slice ag K cg) K K u (fun j => n j + 64)) := gs
  clear gs
  generalize wr = w5 at *
  go_wp2
  go_loopg [9] K (fun g kv wr => ∃ k : Nat, k + g = K ∧ kv = .int .i64 k ∧ Gqs Q B w3.heap.size w wr (.slice ar K cr) K v n (.slice ag K cg) K K u (fun j => n j + 64))
  case atStart => exact ⟨0, by omega, rfl, G5.out⟩
  case round =>
  obtain ⟨k, hk, rfl, gs⟩ := hrel
  have HK : Hid (k + gk = K) := hk
  by_cases hlt : k < K
  · obtain ⟨gr, cap, er, hcap, -⟩ := row_ats gs.ap.row hlt
    simp only [Value.slice.injEq, true_and] at er
    obtain ⟨rfl, rfl⟩ := er
    obtain ⟨gg, cap', er, hcap', -⟩ := row_ats gs.grow hlt
    simp only [Value.slice.injEq, true_and] at er
    obtain ⟨rfl, rfl⟩ := er
    have hnk := HN.out k hlt
    obtain ⟨nk, hnk'⟩ : ∃ nk, n k = nk := ⟨_, rfl⟩
    rw [hnk'] at hnk
    have HNK : Hid (n k = nk) := hnk'
    obtain ⟨av, cv, ev⟩ := (gs.ap.pm k hlt).slice
    obtain ⟨au, cu, eu⟩ := (gs.gp k hlt).slice
    rw [hnk'] at ev eu
    have HEV : Hid (v k = .slice av nk cv) := ev
    have HEU : Hid (u k = .slice au (nk + 64) cu) := eu
    have GS : Hid (Gqs Q B w3.heap.size w wr (.slice (some ⟨gr, 0, none⟩) K cr) K v n (.slice (some ⟨gg, 0, none⟩) K cg) K K u (fun j => n j + 64)) := gs
    clear gs hk hnk' ev eu
    go_wp2
    go_loopg [10] (nk + 64) (fun g iv wq => ∃ i : Nat, i + g = nk + 64 ∧ iv = .int .i64 i ∧ Gqs Q B w3.heap.size w wq (.slice (some ⟨gr, 0, none⟩) K cr) K v n (.slice (some ⟨gg, 0, none⟩) K cg) K K u (fun j => n j + 64))
    case atStart => exact ⟨0, by omega, rfl, GS.out⟩
    case round =>
      obtain ⟨i, hi', rfl, gs⟩ := hrel
      have HI : Hid (i + gk = nk + 64) := hi'
      obtain ⟨_, _, er, -, hcv⟩ := row_ats gs.ap.row hlt
      cases er
      obtain ⟨_, _, er, -, hcu⟩ := row_ats gs.grow hlt
      cases er
      rw [HEV.out] at hcv
      rw [HEU.out] at hcu
      have GS2 : Hid (Gqs Q B w3.heap.size w wr (.slice (some ⟨gr, 0, none⟩) K cr) K v n (.slice (some ⟨gg, 0, none⟩) K cg) K K u (fun j => n j + 64)) := gs
      by_cases hil : i < nk + 64
      · obtain ⟨ug, uc, gu1, cu1, e1, hc1, hb1, hx1, hd1, hy1⟩ := (gs.gp k hlt).cell (i := i) (by rw [HNK.out]; exact hil) (by show i < n k + 64; rw [HNK.out]; exact hil)
        rw [HEU.out, HNK.out] at e1
        cases e1
        obtain ⟨pb, hpb⟩ : ∃ pb, prS k i = pb := ⟨_, rfl⟩
        have hp1 : (((k : Int) + (i : Int)) % 2 == 0) = pb := hpb
        have hp2 : (((k : Int) + (i : Int)).tmod 2 == 0) = pb := by rw [Int.tmod_eq_emod_of_nonneg (by omega)]; exact hpb
        have hw0 : IntKind.i64.wrap ((k : Int) + (i : Int)) = (k : Int) + (i : Int) := by rw [IntKind.wrap_i64]; omega
        rw [hpb] at hb1
        rw [HNK.out] at hc1
        have HM : Hid (∀ W, Calls Tryd.prog 30 #[.int .i64 k, .int .i64 i] W fun e w' => e = .returned (.int .i64 (mrk k i)) ∧ w' = W) := fun W => mark_any k i W (by omega) (by omega)
        by_cases hiv : i < nk
        · obtain ⟨vg, vc, gv1, cv1, e2, hc2, hb2, hx2, hd2, hy2⟩ := (gs.ap.pm k hlt).cell (i := i) (by rw [HNK.out]; exact hiv) (by rw [HNK.out]; exact hiv)
          rw [HEV.out, HNK.out] at e2
          cases e2
          rw [hpb] at hb2
          rw [HNK.out] at hc2
          clear gs hi'
          generalize mrk k i = mk at *
          go_wp2
          refine wp_region_quiet_lit (by kernel_rfl) ?_ ?_
          focus exact lexB_tab (by as_aux_lemma => kernel_rfl) (by as_aux_lemma => kernel_rfl)
          dsimp only [List.append]
          as_aux_lemma =>
            iterate 20 (go_big_quiet_step ((go_at_call 30; exact Calls.quiet_of_same (HM.out _))))
            as_aux_lemma =>
              iterate 20 (go_big_quiet_step ((go_at_call 30; exact Calls.quiet_of_same (HM.out _))))
              as_aux_lemma =>
                iterate 20 (go_big_quiet_step ((go_at_call 30; exact Calls.quiet_of_same (HM.out _))))
                as_aux_lemma =>
                  iterate 20 (go_big_quiet_step ((go_at_call 30; exact Calls.quiet_of_same (HM.out _))))
                  as_aux_lemma =>
                    repeat (go_big_quiet_step ((go_at_call 30; exact Calls.quiet_of_same (HM.out _))))
                    refine wpQuiet_nil ?_
                    intro _ hw'
                    obtain ⟨nq, hw''⟩ := hw'
                    subst hw''
                    go_wp2
                    go_roundg (gk - 1)
                    case measure => have := HI.out; omega
                    case rel => exact ⟨i + 1, by have := HI.out; omega, by go_num, GS2.out.drewN _⟩
        · have hdv : decide (i < nk) = false := decide_eq_false hiv
          have hdv' : decide ((i : Int) < (nk : Int)) = false := decide_eq_false (by omega)
          clear gs hi'
          generalize mrk k i = mk at *
          go_wp2
          refine wp_region_quiet_lit (by kernel_rfl) ?_ ?_
          focus exact lexB_tab (by as_aux_lemma => kernel_rfl) (by as_aux_lemma => kernel_rfl)
          dsimp only [List.append]
          as_aux_lemma =>
            iterate 20 (go_big_quiet_step ((go_at_call 30; exact Calls.quiet_of_same (HM.out _))))
            as_aux_lemma =>
              iterate 20 (go_big_quiet_step ((go_at_call 30; exact Calls.quiet_of_same (HM.out _))))
              as_aux_lemma =>
                iterate 20 (go_big_quiet_step ((go_at_call 30; exact Calls.quiet_of_same (HM.out _))))
                as_aux_lemma =>
                  iterate 20 (go_big_quiet_step ((go_at_call 30; exact Calls.quiet_of_same (HM.out _))))
                  as_aux_lemma =>
                    repeat (go_big_quiet_step ((go_at_call 30; exact Calls.quiet_of_same (HM.out _))))
                    refine wpQuiet_nil ?_
                    intro _ hw'
                    obtain ⟨nq, hw''⟩ := hw'
                    subst hw''
                    go_wp2
                    go_roundg (gk - 1)
                    case measure => have := HI.out; omega
                    case rel => exact ⟨i + 1, by have := HI.out; omega, by go_num, GS2.out.drewN _⟩
      · obtain rfl : i = nk + 64 := by omega
        clear gs hi' hil
        go_wp2
        go_roundg (K - k - 1)
        case measure => have := HK.out; omega
        case rel => exact ⟨k + 1, by have := HK.out; omega, by go_num, GS2.out⟩
  have e : K = k := by omega
  subst e
  clear hk hlt HK G5
  have G7 : Hid (Gqs Q B w3.heap.size w wr (.slice ar K cr) K v n (.slice ag K cg) K 0 u n) := ⟨gs.ap, gs.grow, fun j hj => by omega, fun j hj => by omega, gs.sz, gs.hB, gs.vb, gs.rb, gs.hap, Nat.zero_le _, gs.sw⟩
  clear gs
  generalize wr = w6 at *
  go_wp2
  go_loopg [11] K (fun g kv wr => ∃ (k : Nat) (u : Nat → Value), k + g = K ∧ kv = .int .i64 k ∧ Gqs Q B w3.heap.size w wr (.slice ar K cr) K v n (.slice ag K cg) K k u n)
  case atStart => exact ⟨0, u, by omega, rfl, G7.out⟩
  case round =>
  clear G7
  obtain ⟨k, u, hk, rfl, gs⟩ := hrel
  have HK : Hid (k + gk = K) := hk
  by_cases hlt : k < K
  · obtain ⟨gr, cap, er, hcap, -⟩ := row_ats gs.ap.row hlt
    simp only [Value.slice.injEq, true_and] at er
    obtain ⟨rfl, rfl⟩ := er
    obtain ⟨gg, cap', er, hcap', -⟩ := row_ats gs.grow hlt
    simp only [Value.slice.injEq, true_and] at er
    obtain ⟨rfl, rfl⟩ := er
    have hnk := HN.out k hlt
    obtain ⟨nk, hnk'⟩ : ∃ nk, n k = nk := ⟨_, rfl⟩
    rw [hnk'] at hnk
    have HNK : Hid (n k = nk) := hnk'
    have GS : Hid (Gqs Q B w3.heap.size w wr (.slice (some ⟨gr, 0, none⟩) K cr) K v n (.slice (some ⟨gg, 0, none⟩) K cg) K k u n) := gs
    have HUK : Hid (∀ j, j < k → ∀ b, (u j).ownBlock = some b → b < wr.heap.size) := fun j hj b e => ((gs.gp j hj).lt b e).2
    have hS3 : w3.heap.size ≤ wr.heap.size := gs.sz
    clear gs hk hnk'
    generalize wr = w7 at *
    go_wp2
    go_loopg [12, 13] 64 (fun g mv iv wq => ∃ (i : Nat) (am : Option Addr) (cm : Nat) (Ms : List StE), i + g = 64 ∧ mv = .slice am i cm ∧ iv = .int .i64 i ∧ OwnSp w7.heap.size wq (.slice am i cm) Ms ∧ Ms.length = i ∧ (∀ u ∈ spC Ms, u.oneCell' = true) ∧
      Gqs Q B w3.heap.size w wq (.slice (some ⟨gr, 0, none⟩) K cr) K v n (.slice (some ⟨gg, 0, none⟩) K cg) K k u n ∧ w7.heap.size ≤ wq.heap.size)
    case atStart => exact ⟨0, none, 0, [], by omega, rfl, rfl, World.ownsRow_nil _ _ _ _, rfl, (by intro u hu; cases hu), GS.out, Nat.le_refl _⟩
    case round =>
      obtain ⟨i, am, cm, ms, hi', rfl, rfl, ho, hml, hmc, gs, hsz⟩ := hrel
      have HML : Hid (ms.length = i) := hml
      have HMC : Hid (∀ u ∈ spC ms, u.oneCell' = true) := hmc
      have HI : Hid (i + gk = 64) := hi'
      have HO : Hid (OwnSp w7.heap.size wr (.slice am i cm) ms) := ho
      clear hml hmc
      have GS2 : Hid (Gqs Q B w3.heap.size w wr (.slice (some ⟨gr, 0, none⟩) K cr) K v n (.slice (some ⟨gg, 0, none⟩) K cg) K k u n) := gs
      by_cases hil : i < 64
      · have HM : Hid (∀ W, Calls Tryd.prog 30 #[.int .i64 ((k : Int) + (K : Int)), .int .i64 i] W fun e w' => e = .returned (.int .i64 (mrk (k + K) i)) ∧ w' = W) := fun W => by
          have := mark_any (k + K) i W (by omega) (by omega)
          rwa [Int.natCast_add] at this
        clear ho gs hi'
        obtain ⟨mk, hmk⟩ : ∃ mk, mrk (k + K) i = mk := ⟨_, rfl⟩
        have HMK : Hid (mrk (k + K) i = mk) := hmk
        rw [hmk] at HM
        clear hmk
        go_wp2_with fail
        refine (HM.out _).mono ?_
        rintro e wv ⟨rfl, hwv⟩
        rw [hwv]
        clear hwv wv
        go_wp2_with (at_builtin; refine wpList_append_own _ rfl _ _ 22 rfl w7.heap.size 61 i0 (.agg #[.bool false, .slice none 0 0]) 2 32 Tryd.underlying22 hi hz0 hz1 hz2 rfl (by decide) _ ms.length (spC ms) rfl (World.ownsRow.alloc (World.ownsRow.alloc HO.out (.cells #[.int .i64 mk] 3)) _) ⟨wr.heap.size + 1, 0, none⟩ 1 1 [.bool (((k : Int) + (K : Int) + (i : Int)) % 2 == 0), .slice (some ⟨wr.heap.size, 0, none⟩) 1 1] rfl rfl (cell_two_newz _ _ _ _ _) (by simp [Value.oneCell']) (by rw [HML.out]; unfold maxLen; omega) (by rw [HML.out]; omega) (by simp; omega) ?_; intro x' w' own' gr2 hn')
        have hgA : wr.grownBy ((wr.alloc (.cells #[.int .i64 mk] 3)).alloc (.cells #[.bool (((k : Int) + (K : Int) + (i : Int)) % 2 == 0), .slice (some ⟨wr.heap.size, 0, none⟩) 1 1] 61)) none := grown_of_below (Below.step (below_box _ _) (below_box _ _))
        have gs' := GS2.out.side hS3 HUK.out hgA (World.ownsRow.alloc (World.ownsRow.alloc HO.out _) _) gr2
        have hsz' : w7.heap.size ≤ w'.heap.size := Nat.le_trans (Nat.le_trans hsz hgA.size) gr2.size
        have ho' : OwnSp w7.heap.size w' x' (ms ++ [((((k : Int) + (K : Int) + (i : Int)) % 2 == 0), .slice (some ⟨wr.heap.size, 0, none⟩) 1 1)]) := by
          unfold OwnSp
          rw [List.length_append, spC_append]
          exact own'
        have hl' : (ms ++ [((((k : Int) + (K : Int) + (i : Int)) % 2 == 0), (.slice (some ⟨wr.heap.size, 0, none⟩) 1 1 : Value))]).length = i + 1 := by rw [List.length_append, HML.out]; rfl
        obtain ⟨am', cm', e'⟩ := ownsp_slice ho'
        rw [hl'] at e'
        subst e'
        have hmc' : ∀ u ∈ spC (ms ++ [((((k : Int) + (K : Int) + (i : Int)) % 2 == 0), (.slice (some ⟨wr.heap.size, 0, none⟩) 1 1 : Value))]), u.oneCell' = true := fun u hu => by
          rw [spC_append] at hu
          rcases List.mem_append.1 hu with h5 | h5
          · exact HMC.out u h5
          · simp [spC] at h5
            rcases h5 with rfl | rfl <;> rfl
        go_roundg (gk - 1)
        case measure => have := HI.out; omega
        case rel => exact ⟨i + 1, am', cm', _, by have := HI.out; omega, rfl, by go_num, ho', hl', hmc', gs', hsz'⟩
      · obtain rfl : i = 64 := by omega
        clear hi' hil HI
        obtain ⟨_, _, er, -, hcv⟩ := row_ats gs.ap.row hlt
        cases er
        obtain ⟨Y, hoY, hlY, hmY⟩ := gs.ap.pm k hlt
        obtain ⟨av, cv, ev⟩ := ownsp_slice hoY
        rw [hlY, HNK.out] at ev
        have HEV : Hid (v k = .slice av nk cv) := ev
        rw [ev] at hcv hoY
        have HOY : Hid (OwnSp B wr (.slice av nk cv) Y) := hoY
        have HLY : Hid (Y.length = nk) := by show _ = _; rw [hlY]; exact HNK.out
        have HMY : Hid (MksS B wr Y k (n k)) := hmY
        obtain ⟨gm, cm', em, hcm, -, -⟩ := row_some ho (by rw [HML.out]; decide)
        rw [HML.out] at em
        cases em
        have HNW : Hid (∀ j u, (spC ms)[j]? = some u → wr.cell? ((⟨gm, 0, none⟩ : Addr).add j) = some u) := World.ownsRow.cells ho rfl
        have sBr : B ≤ wr.heap.size := Nat.le_trans gs.hB gs.sz
        have HMS : Hid ((spC ms).length = 64 * 2) := by have h5 := ho.1; rw [HML.out] at h5; exact h5
        clear ho gs hoY hlY hmY ev
        go_wp2_with (at_builtin; refine wpList_append_twoz _ rfl _ _ 22 rfl B 61 i0 (.agg #[.bool false, .slice none 0 0]) 2 32 Tryd.underlying22 hi hz0 hz1 hz2 rfl (by decide) _ Y.length (spC Y) rfl HOY.out ⟨gm, 0, none⟩ 64 cm (spC ms) rfl HMS.out HNW.out HMC.out (by omega) (by rw [HLY.out]; unfold maxLen; omega) (by rw [HLY.out]; omega) sBr ?_; intro x' w' own' h2; have own2 : w'.ownsRow B 61 2 x' (Y.length + ms.length) (spC Y ++ spC ms) := (by rw [HML.out]; exact own'); obtain ⟨gs', ho', hkp, hxb'⟩ := GS2.out.app (nz := ms) (wa := wr) (Sk := w7.heap.size) hlt hS3 hsz HUK.out HOY.out (Nat.le_of_eq (by rw [HNK.out, HLY.out])) (.inl (congrArg Value.ownBlock HEV.out.symm)) ⟨rfl, rfl, rfl, Nat.le_refl _, fun _ _ _ => rfl⟩ (by rw [HML.out]; omega) own2 (by rw [HML.out]; exact h2); obtain ⟨ax', cx', e'⟩ := ownsp_slice ho'; rw [List.length_append, HLY.out, HML.out] at e'; subst e'; obtain ⟨_, _, er, -, hcu⟩ := row_ats gs'.grow hlt; cases er; have hfu := gs'.grow.frozenAt k; have GS3 : Hid (Gqs Q B w3.heap.size w w' (.slice (some ⟨gr, 0, none⟩) K cr) K v n (.slice (some ⟨gg, 0, none⟩) K cg) K k u n) := gs'; clear gs' own' own2 h2)
        have PX : Pms B w' (.slice ax' (nk + 64) cx') k (n k + 64) (n k) := ⟨Y ++ ms, ho', by rw [List.length_append, HLY.out, HML.out, HNK.out], fun t ht => by
          obtain ⟨y, h5, h6⟩ := HMY.out t ht
          exact ⟨y, by rw [List.getElem?_append_left (by rw [HLY.out, ← HNK.out]; exact ht)]; exact h5, hkp y _ h6⟩⟩
        have gs4 := GS3.out.put hlt PX (by
          rcases hxb' with q | ⟨b, q, hb⟩
          · exact .inl q
          · exact .inr ⟨b, q, Nat.le_trans hS3 hb⟩)
        go_roundg (K - k - 1)
        case measure => have := HK.out; omega
        case rel => exact ⟨k + 1, _, by have := HK.out; omega, by go_num, gs4⟩
  have e : K = k := by omega
  subst e
  clear hk hlt HK
  have G9 : Hid (Gqs Q B w3.heap.size w wr (.slice ar K cr) K v n (.slice ag K cg) K K u n) := gs
  clear gs
  generalize wr = w8 at *
  go_wp2
  go_loopg [14] K (fun g kv wr => ∃ k : Nat, k + g = K ∧ kv = .int .i64 k ∧ Gqs Q B w3.heap.size w wr (.slice ar K cr) K v n (.slice ag K cg) K K u n)
  case atStart => exact ⟨0, by omega, rfl, G9.out⟩
  case round =>
  obtain ⟨k, hk, rfl, gs⟩ := hrel
  have HK : Hid (k + gk = K) := hk
  by_cases hlt : k < K
  · obtain ⟨gr, cap, er, hcap, -⟩ := row_ats gs.ap.row hlt
    simp only [Value.slice.injEq, true_and] at er
    obtain ⟨rfl, rfl⟩ := er
    obtain ⟨gg, cap', er, hcap', -⟩ := row_ats gs.grow hlt
    simp only [Value.slice.injEq, true_and] at er
    obtain ⟨rfl, rfl⟩ := er
    have hnk := HN.out k hlt
    obtain ⟨nk, hnk'⟩ : ∃ nk, n k = nk := ⟨_, rfl⟩
    rw [hnk'] at hnk
    have HNK : Hid (n k = nk) := hnk'
    obtain ⟨av, cv, ev⟩ := (gs.ap.pm k hlt).slice
    obtain ⟨au, cu, eu⟩ := (gs.gp k hlt).slice
    rw [hnk'] at ev eu
    have HEV : Hid (v k = .slice av nk cv) := ev
    have HEU : Hid (u k = .slice au (nk + 64) cu) := eu
    have GS : Hid (Gqs Q B w3.heap.size w wr (.slice (some ⟨gr, 0, none⟩) K cr) K v n (.slice (some ⟨gg, 0, none⟩) K cg) K K u n) := gs
    clear gs hk hnk' ev eu
    go_wp2
    go_loopg [15] nk (fun g iv wq => ∃ i : Nat, i + g = nk ∧ iv = .int .i64 i ∧ Gqs Q B w3.heap.size w wq (.slice (some ⟨gr, 0, none⟩) K cr) K v n (.slice (some ⟨gg, 0, none⟩) K cg) K K u n)
    case atStart => exact ⟨0, by omega, rfl, GS.out⟩
    case round =>
      obtain ⟨i, hi', rfl, gs⟩ := hrel
      have HI : Hid (i + gk = nk) := hi'
      obtain ⟨_, _, er, -, hcv⟩ := row_ats gs.ap.row hlt
      cases er
      obtain ⟨_, _, er, -, hcu⟩ := row_ats gs.grow hlt
      cases er
      rw [HEV.out] at hcv
      rw [HEU.out] at hcu
      have GS2 : Hid (Gqs Q B w3.heap.size w wr (.slice (some ⟨gr, 0, none⟩) K cr) K v n (.slice (some ⟨gg, 0, none⟩) K cg) K K u n) := gs
      by_cases hil : i < nk
      · obtain ⟨ug, uc, gu1, cu1, e1, hc1, hb1, hx1, hd1, hy1⟩ := (gs.gp k hlt).cell (i := i) (by rw [HNK.out]; omega) (by rw [HNK.out]; exact hil)
        rw [HEU.out, HNK.out] at e1
        cases e1
        obtain ⟨pb, hpb⟩ : ∃ pb, prS k i = pb := ⟨_, rfl⟩
        have hp1 : (((k : Int) + (i : Int)) % 2 == 0) = pb := hpb
        have hp2 : (((k : Int) + (i : Int)).tmod 2 == 0) = pb := by rw [Int.tmod_eq_emod_of_nonneg (by omega)]; exact hpb
        have hw0 : IntKind.i64.wrap ((k : Int) + (i : Int)) = (k : Int) + (i : Int) := by rw [IntKind.wrap_i64]; omega
        rw [hpb] at hb1
        rw [HNK.out] at hc1
        have HM : Hid (∀ W, Calls Tryd.prog 30 #[.int .i64 k, .int .i64 i] W fun e w' => e = .returned (.int .i64 (mrk k i)) ∧ w' = W) := fun W => mark_any k i W (by omega) (by omega)
        have hil64 : i < nk + 64 := by omega
        have hil65 : (i : Int) < (nk : Int) + 64 := by omega
        obtain ⟨vg, vc, gv1, cv1, e2, hc2, hb2, hx2, hd2, hy2⟩ := (gs.ap.pm k hlt).cell (i := i) (by rw [HNK.out]; exact hil) (by rw [HNK.out]; exact hil)
        rw [HEV.out, HNK.out] at e2
        cases e2
        rw [hpb] at hb2
        rw [HNK.out] at hc2
        clear gs hi'
        generalize mrk k i = mk at *
        go_wp2
        refine wp_region_quiet_lit (by kernel_rfl) ?_ ?_
        focus exact lexB_tab (by as_aux_lemma => kernel_rfl) (by as_aux_lemma => kernel_rfl)
        dsimp only [List.append]
        as_aux_lemma =>
          iterate 20 (go_big_quiet_step ((go_at_call 30; exact Calls.quiet_of_same (HM.out _))))
          as_aux_lemma =>
            iterate 20 (go_big_quiet_step ((go_at_call 30; exact Calls.quiet_of_same (HM.out _))))
            as_aux_lemma =>
              iterate 20 (go_big_quiet_step ((go_at_call 30; exact Calls.quiet_of_same (HM.out _))))
              as_aux_lemma =>
                iterate 20 (go_big_quiet_step ((go_at_call 30; exact Calls.quiet_of_same (HM.out _))))
                as_aux_lemma =>
                  repeat (go_big_quiet_step ((go_at_call 30; exact Calls.quiet_of_same (HM.out _))))
                  refine wpQuiet_nil ?_
                  intro _ hw'
                  obtain ⟨nq, hw''⟩ := hw'
                  subst hw''
                  go_wp2
                  go_roundg (gk - 1)
                  case measure => have := HI.out; omega
                  case rel => exact ⟨i + 1, by have := HI.out; omega, by go_num, GS2.out.drewN _⟩
      · have e : nk = i := by omega
        subst e
        clear gs hi' hil
        go_wp2
        go_roundg (K - k - 1)
        case measure => have := HK.out; omega
        case rel => exact ⟨k + 1, by have := HK.out; omega, by go_num, GS2.out⟩
  have e : K = k := by omega
  subst e
  clear hk hlt HK
  have BE : Hid (Below B w wr ∧ ∀ k, Q k → wr.heap[k]? = w.heap[k]?) := ⟨gs.ap.bel, gs.ap.kp⟩
  clear gs
  go_wp2
  go_ret
  exact ⟨rfl, BE.out⟩

end Go.Proofs.YtilcokpaeapmeaaDoor
