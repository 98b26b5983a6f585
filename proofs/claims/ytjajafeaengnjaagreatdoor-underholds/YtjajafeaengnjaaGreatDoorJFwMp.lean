/-
  joined: FwMp FwBo FwSt FwBz FwTk FwAd FwAa FwNw FwNe FwDn FwDp FwDr FwCp FcP FcN FcK FcD UhP UhE UhR UhS FwEb UhT
-/
import Derived.Test.YtjajafeaengnjaaGreatDoorKFwBe
import Derived.Maps.OwnSet
import Derived.Test.YtjajafeaengnjaaGreatDoorKDrM
import Derived.Test.YtjajafeaengnjaaGreatDoorJRpO
import Derived.Test.YtjajafeaengnjaaGreatDoorJTidy
import Derived.Test.YtjajafeaengnjaaGreatDoorJRpF
import Derived.Test.YtjajafeaengnjaaGreatDoorKCopy
import Derived.Test.YtjajafeaengnjaaGreatDoorKUhB
import Derived.Deep.RegionHeld
import Derived.BigQuiet
set_option linter.unusedSimpArgs false
set_option linter.unusedVariables false
namespace Go.Proofs.YtjajafeaengnjaaGreatDoor
open Go Go.RowKit
/-- a held -/
def hV (t k : Int) : Value := .agg #[.int .i64 t, .int .i32 k]
def hD (t k : Int) : DataW Unit := .agg [.lit (.int .i64 t), .lit (.int .i32 k)]
theorem hV_inj {t k t' k' : Int} (h : hV t k = hV t' k') : t = t' ∧ k = k' := by
  unfold hV at h
  simp at h
  exact h
theorem hD_inj {t k t' k' : Int} (h : hD t k = hD t' k') : t = t' ∧ k = k' := by
  unfold hD at h
  simp at h
  exact h
open Classical in
/-- how a held reads -/
noncomputable def hR (v : Value) : Option (DataW Unit × List MemPlace) := if h : ∃ p : Int × Int, v = hV p.1 p.2 then some (hD h.choose.1 h.choose.2, []) else none
theorem hR_mk (t k : Int) : hR (hV t k) = some (hD t k, []) := by
  have h : ∃ p : Int × Int, hV t k = hV p.1 p.2 := ⟨(t, k), rfl⟩
  unfold hR
  rw [dif_pos h]
  have := hV_inj h.choose_spec
  rw [← this.1, ← this.2]
theorem hR_inv {v : Value} {t k : Int} {ps : List MemPlace} (h : hR v = some (hD t k, ps)) : v = hV t k := by
  unfold hR at h
  split at h
  · rename_i e
    have h1 := hD_inj (congrArg Prod.fst (Option.some.inj h))
    rw [← h1.1, ← h1.2]; exact e.choose_spec
  · cases h
theorem lawS : Maps.Keyed Tryz.prog 9 := Maps.string_keyed Tryz.underlying9
theorem keyS (x : List UInt8) (h : x.length ≤ maxLen) : keyOf Tryz.prog 9 (.string ⟨x.toArray⟩) = some (.string x) := by
  unfold keyOf
  rw [Tryz.underlying9]
  simp [mapKey, Tryz.underlying9, ByteArray.size]
  exact h
/-- the map says T: of a text, how often its clause is there, and its number -/
def Mh (W : World) (g n : Nat) (T : List UInt8 → Option (Nat × Nat)) : Prop :=
  ∃ D, W.ownsMap Tryz.prog 9 hR g n D ∧ ∀ x, Maps.has D (.string x) = (T x).isSome ∧ ∀ p, T x = some p → ∀ z, D.atKey (.string x) z = hD (p.1 : Int) (p.2 : Int)
def upT (T : List UInt8 → Option (Nat × Nat)) (x : List UInt8) (p : Option (Nat × Nat)) : List UInt8 → Option (Nat × Nat) := fun y => if y = x then p else T y
section
variable {W W' : World} {g n : Nat} {T : List UInt8 → Option (Nat × Nat)}
theorem Mh.made (w : World) : Mh (w.alloc (.map #[] 0)) w.heap.size 0 (fun _ => none) := ⟨_, World.ownsMap_made w _ _ _, fun x => ⟨rfl, fun p h => by cases h⟩⟩
theorem Mh.lt (h : Mh W g n T) : g < W.heap.size := by obtain ⟨D, h1, _⟩ := h; exact h1.lt
theorem Mh.kept (h : Mh W g n T) (hk : W'.heap[g]? = W.heap[g]?) : Mh W' g n T := by
  obtain ⟨D, ⟨es, clock, hb, r⟩, h2⟩ := h
  exact ⟨D, ⟨es, clock, hk.trans hb, r⟩, h2⟩
theorem Mh.look (h : Mh W g n T) {x : List UInt8} (hx : x.length ≤ maxLen) : (Instr.lookup 56 (.map (some g)) (.string ⟨x.toArray⟩) true).run Tryz.prog W = .ok (.tuple #[hV (((T x).getD (0, 0)).1 : Int) (((T x).getD (0, 0)).2 : Int), .bool (T x).isSome]) W := by
  obtain ⟨D, h1, h2⟩ := h
  have hz : (zeroValue 75).run Tryz.prog W = .ok (hV 0 0) W := by kernel_rfl
  obtain ⟨v, ps, hrun, hv⟩ := h1.look_ok lawS Tryz.underlying56 hz (hR_mk 0 0) (keyS x hx)
  rw [hrun, (h2 x).1]
  cases e : T x with
  | none =>
    rw [Maps.atKey_of_not_has (by rw [(h2 x).1, e]; rfl)] at hv
    rw [hR_inv hv]; rfl
  | some p =>
    rw [(h2 x).2 p e] at hv
    rw [hR_inv hv]; rfl
theorem Mh.put (h : Mh W g n T) {x : List UInt8} (hx : x.length ≤ maxLen) (hn : n < maxLen) (t k : Nat) : ∃ w', (Instr.mapUpdate 56 (.map (some g)) (.string ⟨x.toArray⟩) (hV (t : Int) (k : Int))).run Tryz.prog W = .ok () w' ∧ Mh w' g (n + 1) (upT T x (some (t, k))) ∧ W.grownBy w' (some g) := by
  obtain ⟨D, h1, h2⟩ := h
  have hm := h1.isMap
  obtain ⟨w', r1, r2, r3⟩ := h1.update lawS Tryz.underlying56 hn (keyS x hx) (hR_mk (t : Int) (k : Int))
  refine ⟨w', r1, ⟨_, r2, fun y => ?_⟩, r3⟩
  unfold upT
  by_cases e : y = x
  · subst e
    rw [if_pos rfl]
    refine ⟨Maps.has_put_same hm (show WideAt.IsKeyLit (.string y) from trivial) _, fun p hp z => ?_⟩
    rw [Maps.atKey_put_same hm (show WideAt.IsKeyLit (.string y) from trivial)]
    have : (t, k) = p := Option.some.inj hp
    rw [← this]
  · rw [if_neg e]
    have ne : (Lit.string y) ≠ .string x := fun q => e (by injection q)
    exact ⟨by rw [Maps.has_put_other ne]; exact (h2 y).1, fun p hp z => by rw [Maps.atKey_put_other ne]; exact (h2 y).2 p hp z⟩
theorem Mh.del (h : Mh W g n T) {x : List UInt8} (hx : x.length ≤ maxLen) (ty : TypeId) : ∃ w', (Builtin.delete_ #[56, 9] ty #[.map (some g), .string ⟨x.toArray⟩]).run Tryz.prog W = .ok (.tuple #[]) w' ∧ Mh w' g n (upT T x none) ∧ W.grownBy w' (some g) := by
  obtain ⟨D, h1, h2⟩ := h
  obtain ⟨w', r1, r2, r3⟩ := h1.drop lawS Tryz.underlying56 (keyS x hx) ty
  refine ⟨w', r1, ⟨_, r2, fun y => ?_⟩, r3.grown⟩
  unfold upT
  by_cases e : y = x
  · subst e
    rw [if_pos rfl]
    exact ⟨Maps.has_del_same, fun p hp z => by cases hp⟩
  · rw [if_neg e]
    have ne : (Lit.string y) ≠ .string x := fun q => e (by injection q)
    exact ⟨by rw [Maps.has_del_other ne]; exact (h2 y).1, fun p hp z => by rw [Maps.atKey_del_other ne]; exact (h2 y).2 p hp z⟩
end
end Go.Proofs.YtjajafeaengnjaaGreatDoor
set_option linter.unusedSimpArgs false
set_option linter.unusedVariables false
namespace Go.Proofs.YtjajafeaengnjaaGreatDoor
open Go Go.RowKit
/-- tidy and sound -/
def Tdy (c : List Int) : Prop := c.Pairwise (fun a b => idx a < idx b) ∧ ∀ l ∈ c, fmd l = true
theorem Tdy.tid (z : List Int) : Tdy (tid z) := ⟨tid_rising z, tid_fmd⟩
theorem Tdy.perm {c d : List Int} (h : Tdy c) (k : Tdy d) (p : c.Perm d) : c = d := rising_unique h.1 k.1 fun x => p.mem_iff
theorem Tdy.nd {c : List Int} (h : Tdy c) : c.Nodup := h.1.imp fun hlt e => by rw [e] at hlt; exact absurd hlt (Int.lt_irrefl _)
theorem Tdy.txt {c d : List Int} (h : Tdy c) (k : Tdy d) (e : tx c = tx d) : c = d := tx_inj h.2 k.2 e
/-- the book: which clauses are there, how often, with which numbers -/
structure Bok (A : List (List Int)) (T : List UInt8 → Option (Nat × Nat)) (num : List Int → Nat) : Prop where
  td : ∀ c ∈ A, Tdy c
  yes : ∀ c ∈ A, T (tx c) = some (A.count c, num c)
  no : ∀ x, (∀ c ∈ A, x ≠ tx c) → T x = none
/-- the closing has them -/
structure Bcl (A : List (List Int)) (cl : Fcl) (num : List Int → Nat) : Prop where
  pos : ∀ c ∈ A, 0 < num c ∧ (lts cl (num c)).Perm c
  all : ∀ k, lts cl k ≠ [] → ∃ c ∈ A, num c = k
  ne : ∀ c ∈ A, c ≠ []
section
variable {A : List (List Int)} {T : List UInt8 → Option (Nat × Nat)} {num : List Int → Nat} {c : List Int} {cl cl1 cl2 : Fcl} {k fr : Nat}
theorem Bok.look (h : Bok A T num) (hc : Tdy c) : T (tx c) = if c ∈ A then some (A.count c, num c) else none := by
  by_cases e : c ∈ A
  · rw [if_pos e]; exact h.yes c e
  · rw [if_neg e]
    exact h.no _ fun d hd q => e (by rw [hc.txt (h.td d hd) q]; exact hd)
theorem Bok.nil : Bok [] (fun _ => none) (fun _ => 0) := ⟨by simp, by simp, fun _ _ => rfl⟩
theorem Bok.more (h : Bok A T num) (hc : c ∈ A) : Bok (c :: A) (upT T (tx c) (some (A.count c + 1, num c))) num := by
  refine ⟨fun d hd => ?_, fun d hd => ?_, fun x hx => ?_⟩
  · rcases List.mem_cons.1 hd with e | e
    · rw [e]; exact h.td c hc
    · exact h.td d e
  · unfold upT
    by_cases e : d = c
    · subst e; rw [if_pos rfl, List.count_cons_self]
    · have hd2 : d ∈ A := (List.mem_cons.1 hd).resolve_left e
      rw [if_neg fun q => e ((h.td d hd2).txt (h.td c hc) q), List.count_cons_of_ne (fun q => e q.symm)]
      exact h.yes d hd2
  · unfold upT
    rw [if_neg (hx c (by simp))]
    exact h.no x fun d hd => hx d (by simp [hd])
theorem Bok.new (h : Bok A T num) (hc : c ∉ A) (ht : Tdy c) : Bok (c :: A) (upT T (tx c) (some (1, k))) (fun d => if d = c then k else num d) := by
  refine ⟨fun d hd => ?_, fun d hd => ?_, fun x hx => ?_⟩
  · rcases List.mem_cons.1 hd with e | e
    · rw [e]; exact ht
    · exact h.td d e
  · unfold upT
    by_cases e : d = c
    · subst e; rw [if_pos rfl, List.count_cons_self, List.count_eq_zero.2 hc]; simp
    · have hd2 : d ∈ A := (List.mem_cons.1 hd).resolve_left e
      rw [if_neg fun q => e ((h.td d hd2).txt ht q), List.count_cons_of_ne (fun q => e q.symm)]
      simp only [if_neg e]
      exact h.yes d hd2
  · unfold upT
    rw [if_neg (hx c (by simp))]
    exact h.no x fun d hd => hx d (by simp [hd])
theorem Bok.less (h : Bok A T num) (hc : c ∈ A) (h2 : 1 < A.count c) : Bok (A.erase c) (upT T (tx c) (some (A.count c - 1, num c))) num := by
  refine ⟨fun d hd => h.td d (List.mem_of_mem_erase hd), fun d hd => ?_, fun x hx => ?_⟩
  · have hd2 := List.mem_of_mem_erase hd
    unfold upT
    by_cases e : d = c
    · subst e; rw [if_pos rfl, List.count_erase_self]
    · rw [if_neg fun q => e ((h.td d hd2).txt (h.td c hc) q), List.count_erase_of_ne e]
      exact h.yes d hd2
  · unfold upT
    have hin : c ∈ A.erase c := by
      rw [← List.count_pos_iff, List.count_erase_self]; omega
    rw [if_neg (hx c hin)]
    refine h.no x fun d hd q => ?_
    by_cases e : d = c
    · exact hx c hin (by rw [← e]; exact q)
    · exact hx d ((List.mem_erase_of_ne e).2 hd) q
theorem Bok.gone (h : Bok A T num) (hc : c ∈ A) (h1 : A.count c = 1) : Bok (A.erase c) (upT T (tx c) none) num := by
  refine ⟨fun d hd => h.td d (List.mem_of_mem_erase hd), fun d hd => ?_, fun x hx => ?_⟩
  · have hd2 := List.mem_of_mem_erase hd
    unfold upT
    have e : d ≠ c := fun e => by
      subst e
      have := List.count_pos_iff.2 hd
      rw [List.count_erase_self] at this; omega
    rw [if_neg fun q => e ((h.td d hd2).txt (h.td c hc) q), List.count_erase_of_ne e]
    exact h.yes d hd2
  · unfold upT
    by_cases e : x = tx c
    · rw [if_pos e]
    · rw [if_neg e]
      refine h.no x fun d hd q => ?_
      have e2 : d ≠ c := fun q2 => e (by rw [← q2]; exact q)
      exact hx d ((List.mem_erase_of_ne e2).2 hd) q
theorem Bcl.inj (h : Bcl A cl num) (hb : Bok A T num) {d : List Int} (hc : c ∈ A) (hd : d ∈ A) (e : num c = num d) : c = d :=
  (hb.td c hc).perm (hb.td d hd) ((h.pos c hc).2.symm.trans (by rw [e]; exact (h.pos d hd).2))
theorem Bcl.pm (h : Bcl A cl num) (hp : Fpm cl cl2) : Bcl A cl2 num :=
  ⟨fun c hc => ⟨(h.pos c hc).1, (hp.2 _).trans (h.pos c hc).2⟩, fun k hk => h.all k fun e => hk (by have := hp.2 k; rw [e] at this; exact this.eq_nil), h.ne⟩
theorem Bcl.same (h : Bcl A cl num) : SameC (cssOf cl) A := by
  refine ⟨fun d hd => ?_, fun c hc => ?_⟩
  · obtain ⟨h0, k, hk, e⟩ := mem_cssOf.1 hd
    obtain ⟨c, hc, ek⟩ := h.all k (by rw [e]; exact h0)
    have := (h.pos c hc).2
    rw [ek, e] at this
    exact ⟨c, hc, fun x => this.mem_iff⟩
  · have p := (h.pos c hc).2
    have h0 : lts cl (num c) ≠ [] := fun e => h.ne c hc (by rw [e] at p; exact p.symm.eq_nil)
    exact ⟨lts cl (num c), mem_cssOf.2 ⟨h0, _, lts_in h0, rfl⟩, fun x => p.symm.mem_iff⟩
theorem Bcl.nil : Bcl [] [([], 0)] (fun _ => 0) := ⟨by simp, fun k hk => absurd (by unfold lts; rcases k with _ | k <;> simp) hk, by simp⟩
theorem Bcl.enter {c' : List Int} (h : Bcl A cl num) (hc : c ∉ A) (h0 : c ≠ []) (hk0 : 0 < k) (hls : ∀ j, lts cl1 j = lts cl j) (hke : lts cl1 k = []) (hkl : k < cl1.length) (hp : Fpm (cl1.set k (c', fr)) cl2) (hpc : c'.Perm c) : Bcl (c :: A) cl2 (fun d => if d = c then k else num d) := by
  have hne : ∀ d ∈ A, d ≠ c := fun d hd e => hc (by rw [← e]; exact hd)
  have hnk : ∀ d ∈ A, num d ≠ k := fun d hd e => h.ne d hd (by
    have p := (h.pos d hd).2
    rw [e, ← hls, hke] at p
    exact p.symm.eq_nil)
  refine ⟨fun d hd => ?_, fun j hj => ?_, fun d hd => ?_⟩
  · by_cases e : d = c
    · subst e
      simp only [if_pos]
      refine ⟨hk0, (hp.2 k).trans ?_⟩
      rw [lts_set_self hkl]; exact hpc
    · have hd2 : d ∈ A := (List.mem_cons.1 hd).resolve_left e
      simp only [if_neg e]
      refine ⟨(h.pos d hd2).1, (hp.2 _).trans ?_⟩
      rw [lts_set_ne (hnk d hd2), hls]; exact (h.pos d hd2).2
  · have hj2 : lts (cl1.set k (c', fr)) j ≠ [] := fun e => hj (by have := hp.2 j; rw [e] at this; exact this.eq_nil)
    by_cases e : j = k
    · exact ⟨c, by simp, by simp [e]⟩
    · rw [lts_set_ne e, hls] at hj2
      obtain ⟨d, hd, ed⟩ := h.all j hj2
      exact ⟨d, by simp [hd], by simp only [if_neg (hne d hd)]; exact ed⟩
  · rcases List.mem_cons.1 hd with e | e
    · rw [e]; exact h0
    · exact h.ne d e
theorem Bcl.leave (h : Bcl A cl num) (hb : Bok A T num) (hc : c ∈ A) (h1 : A.count c = 1) : Bcl (A.erase c) (cl.set (num c) ([], 0)) num := by
  have hne : ∀ d ∈ A.erase c, d ≠ c := fun d hd e => by
    subst e
    have := List.count_pos_iff.2 hd
    rw [List.count_erase_self] at this; omega
  have h0 : lts cl (num c) ≠ [] := fun e => h.ne c hc (by have p := (h.pos c hc).2; rw [e] at p; exact p.symm.eq_nil)
  refine ⟨fun d hd => ?_, fun j hj => ?_, fun d hd => h.ne d (List.mem_of_mem_erase hd)⟩
  · have hd2 := List.mem_of_mem_erase hd
    refine ⟨(h.pos d hd2).1, ?_⟩
    rw [lts_set_ne fun e => hne d hd (h.inj hb hd2 hc e)]
    exact (h.pos d hd2).2
  · by_cases e : j = num c
    · subst e; rw [lts_set_self (lts_in h0)] at hj; exact absurd rfl hj
    · rw [lts_set_ne e] at hj
      obtain ⟨d, hd, ed⟩ := h.all j hj
      exact ⟨d, (List.mem_erase_of_ne fun q => e (by rw [← ed, q])).2 hd, ed⟩
end
end Go.Proofs.YtjajafeaengnjaaGreatDoor
set_option linter.unusedSimpArgs false
set_option linter.unusedVariables false
namespace Go.Proofs.YtjajafeaengnjaaGreatDoor
open Go Go.RowKit
section
variable {B b : Nat} {W W' : World} {s : Sf} {V : List Value} {cl : Fcl} {un : List Nat} {lk : List (Nat × Nat)} {fs : List Nat} {hs : List Bool} {R : List Int} {td n : Nat}
theorem Fwz.keep (h : Fwz B W b s V cl un lk fs hs R td) (hk : ∀ k, s.own V b k → W'.heap[k]? = W.heap[k]?) : Fwz B W' b s V cl un lk fs hs R td := by
  refine ⟨(hk b (.inl rfl)).trans h.box, h.hb, row_kept h.c fun k e => hk k (.inr (.inl e)), row_kept h.u fun k e => hk k (.inr (.inr (.inl e))), row_kept h.l fun k e => hk k (.inr (.inr (.inr (.inl e)))), row_kept h.f fun k e => hk k (.inr (.inr (.inr (.inr (.inl e))))), row_kept h.h fun k e => hk k (.inr (.inr (.inr (.inr (.inr (.inl e)))))), row_kept h.r fun k e => hk k (.inr (.inr (.inr (.inr (.inr (.inr (.inl e))))))), h.uf, h.vl, fun k => row_kept (h.v k) fun q e => hk q (Fwz.ownV k q e.symm), h.va, h.vr⟩
/-- what is owned is a row of cells, and none of them a held -/
theorem Fwz.cells (h : Fwz B W b s V cl un lk fs hs R td) {k : Nat} (hk : s.own V b k) : ∃ c e f, W.heap[k]? = some (.cells c e f) ∧ e ≠ 75 := by
  have ty : ∀ e, e ≠ 75 → Ty W k e → ∃ c e f, W.heap[k]? = some (.cells c e f) ∧ e ≠ 75 := fun e he ⟨c, f, h⟩ => ⟨c, e, f, h, he⟩
  rcases hk with rfl | e | e | e | e | e | e | ⟨v, hv, e⟩
  · exact ⟨_, _, _, h.box, by decide⟩
  · exact ty _ (by decide) (row_ty h.c e)
  · exact ty _ (by decide) (row_ty h.u e)
  · exact ty _ (by decide) (row_ty h.l e)
  · exact ty _ (by decide) (row_ty h.f e)
  · exact ty _ (by decide) (row_ty h.h e)
  · exact ty _ (by decide) (row_ty h.r e)
  · obtain ⟨j, _, ej⟩ := mem_getV hv
    exact ty _ (by decide) (row_ty (h.v j) (by rw [ej]; exact e))
theorem Mh.off {g N : Nat} {T : List UInt8 → Option (Nat × Nat)} (h : Mh W g N T) (hz : Fwz B W b s V cl un lk fs hs R td) : ¬ s.own V b g := fun ho => by
  obtain ⟨c, e, f, h1, _⟩ := hz.cells ho
  obtain ⟨D, ⟨es, clock, hb, _⟩, _⟩ := h
  rw [h1] at hb
  cases hb
end
/-- the state: the clauses A are there -/
def Fst (B : Nat) (W : World) (b g N : Nat) (A : List (List Int)) (D : Bool) : Prop :=
  ∃ T num, Mh W g N T ∧ B ≤ g ∧ Bok A T num ∧
    ((∃ s V un cl n R, Fre B W b s V un cl n R ∧ Uok un cl ∧ Bcl A cl num ∧ s.M = .map (some g) ∧ s.D = D ∧ cl.length ≤ N + 1 ∧ 0 < cl.length) ∨ (Fcz B W b (.map (some g)) D ∧ Cla A []))
end Go.Proofs.YtjajafeaengnjaaGreatDoor
set_option linter.unusedSimpArgs false
set_option linter.unusedVariables false
namespace Go.Proofs.YtjajafeaengnjaaGreatDoor
open Go Go.RowKit
/-- no type of the checker's own rows -/
def fgn (e : TypeId) : Bool := !([90, 21, 100, 4, 3, 65, 75].contains e)
/-- a block of cells of such a type -/
def Hm (W : World) (k : Nat) : Prop := ∀ (c : Array Value) (e : TypeId) (f : Nat × Nat), W.heap[k]? = some (Obj.cells c e f) → fgn e = false
theorem Hm.of {W : World} {k : Nat} {e : TypeId} (h : Ty W k e) (he : fgn e = false) : Hm W k := fun c e' f hh => by
  obtain ⟨c2, f2, h2⟩ := h
  rw [h2] at hh
  injection hh with hh
  injection hh with _ h3
  rw [← h3]; exact he
theorem Hm.map {W : World} {g N : Nat} {T : List UInt8 → Option (Nat × Nat)} (h : Mh W g N T) : Hm W g := fun c e f hh => by
  obtain ⟨D, ⟨es, clock, hb, _⟩, _⟩ := h
  rw [hh] at hb
  cases hb
section
variable {B b : Nat} {W W' : World} {s : Sf} {V : List Value} {cl : Fcl} {un : List Nat} {lk : List (Nat × Nat)} {fs : List Nat} {hs : List Bool} {R : List Int} {td n : Nat}
theorem Fwz.hm (h : Fwz B W b s V cl un lk fs hs R td) {k : Nat} (hk : s.own V b k) : Hm W k := by
  rcases hk with rfl | e | e | e | e | e | e | ⟨v, hv, e⟩
  · exact Hm.of ⟨_, _, h.box⟩ (by decide)
  · exact Hm.of (row_ty h.c e) (by decide)
  · exact Hm.of (row_ty h.u e) (by decide)
  · exact Hm.of (row_ty h.l e) (by decide)
  · exact Hm.of (row_ty h.f e) (by decide)
  · exact Hm.of (row_ty h.h e) (by decide)
  · exact Hm.of (row_ty h.r e) (by decide)
  · obtain ⟨j, _, ej⟩ := mem_getV hv
    exact Hm.of (row_ty (h.v j) (by rw [ej]; exact e)) (by decide)
end
structure Bz (B : Nat) (w w' : World) : Prop where
  bel : Below B w w'
  fg : ∀ (q : Nat) (c : Array Value) (e : TypeId) (f : Nat × Nat), w.heap[q]? = some (Obj.cells c e f) → fgn e = true → w'.heap[q]? = w.heap[q]?
section
variable {B : Nat} {a w w' : World}
theorem Bz.refl (B : Nat) (w : World) : Bz B w w := ⟨Below.refl _ _, fun _ _ _ _ _ _ => rfl⟩
theorem Bz.trans (h : Bz B a w) (k : Bz B w w') : Bz B a w' := ⟨h.bel.trans k.bel, fun q c e f hh he => by
  have h1 := h.fg q c e f hh he
  rw [← h1]
  exact k.fg q c e f (h1.trans hh) he⟩
theorem heap_lt {q : Nat} {o : Obj} (h : w.heap[q]? = some o) : q < w.heap.size := (Array.getElem?_eq_some_iff.1 h).1
theorem Bz.of (h : Below w.heap.size w w') (hB : B ≤ w.heap.size) : Bz B w w' := ⟨h.mono hB, fun q c e f hh _ => h.block q (heap_lt hh)⟩
theorem Bz.size (h : Bz B w w') : w.heap.size ≤ w'.heap.size := h.bel.size
theorem Bz.drew (h : Bz B a w) : Bz B a w.drew := ⟨h.bel.drew, h.fg⟩
theorem Bz.mo {P Q : Nat → Prop} (h : Mo w P w' Q) (hB : B ≤ w.heap.size) (hp : ∀ q, P q → B ≤ q ∧ Hm w q) : Bz B w w' :=
  ⟨⟨h.os, h.tape, h.output, h.size, fun q hq => h.block q (Nat.lt_of_lt_of_le hq hB) fun hq2 => by have := (hp q hq2).1; omega⟩, fun q c e f hh he => h.block q (heap_lt hh) fun hq2 => by
    have := (hp q hq2).2 c e f hh
    rw [he] at this; cases this⟩
theorem Bz.setCell (h : Bz B a w) {p : Addr} (hp : B ≤ p.block) (hm : Hm w p.block) (u : Value) : Bz B a (w.setCell p u) := ⟨h.bel.setCell hp u, fun q c e f hh he => by
  have h1 := h.fg q c e f hh he
  by_cases hq : q = p.block
  · have := hm c e f (by rw [← hq]; exact h1.trans hh)
    rw [he] at this; cases this
  · rw [Below.heap_setCell w p u q hq]; exact h1⟩
theorem Bz.grown (h : Bz B a w) {g : Nat} (hg : w.grownBy w' (some g)) (hB : B ≤ w.heap.size) (hBg : B ≤ g) (hm : Hm w g) : Bz B a w' := ⟨h.bel.grown hg hB (fun q e => by injection e with e; rw [← e]; exact hBg), fun q c e f hh he => by
  have h1 := h.fg q c e f hh he
  rw [← h1]
  refine hg.block q (heap_lt (h1.trans hh)) fun e2 => ?_
  injection e2 with e2
  have := hm c e f (by rw [← e2]; exact h1.trans hh)
  rw [he] at this; cases this⟩
theorem Bz.cell (h : Bz B w w') {q j : Nat} {c : Array Value} {e : TypeId} {f : Nat × Nat} (hh : w.heap[q]? = some (.cells c e f)) (he : fgn e = true) : w'.heap[q]? = some (.cells c e f) := (h.fg q c e f hh he).trans hh
end
end Go.Proofs.YtjajafeaengnjaaGreatDoor
set_option linter.unusedSimpArgs false
set_option linter.unusedVariables false
namespace Go.Proofs.YtjajafeaengnjaaGreatDoor
open Go Go.RowKit
/-- the closing's part of the state -/
def Cst (B : Nat) (W : World) (b g N : Nat) (A : List (List Int)) (num : List Int → Nat) (D : Bool) : Prop :=
  (∃ s V un cl n R, Fre B W b s V un cl n R ∧ Uok un cl ∧ Bcl A cl num ∧ s.M = .map (some g) ∧ s.D = D ∧ cl.length ≤ N + 1 ∧ 0 < cl.length) ∨ (Fcz B W b (.map (some g)) D ∧ Cla A [])
/-- what enter leaves of other things -/
structure Enk (B : Nat) (w W W' : World) (g : Nat) (v : Value) : Prop where
  bel : Bz B W W'
  oth : ∀ q, q < W.heap.size → (w.heap.size ≤ q ∨ q = g) → some q ≠ v.ownBlock → W'.heap[q]? = W.heap[q]?
section
variable {B b g N : Nat} {w W W' : World} {A : List (List Int)} {num : List Int → Nat} {T : List UInt8 → Option (Nat × Nat)} {D : Bool} {c : List Int} {v : Value}
theorem Cst.box (h : Cst B W b g N A num D) : W.cell? ⟨b, 0, none⟩ = some (.map (some g)) ∧ b < W.heap.size ∧ B ≤ b := by
  rcases h with ⟨s, V, un, cl, n, R, ⟨lk, fs, ch, hz, _⟩, _, _, hM, _⟩ | ⟨h, _⟩
  · exact ⟨by have h := hz.cell 0 s.M rfl; rw [hM] at h; exact h, hz.blt, hz.hb⟩
  · exact ⟨box_cell h.1 rfl, h.lt, h.2⟩
theorem Cst.kept {N2 : Nat} (h : Cst B W b g N A num D) (hm : Mh W g N2 T) (hk : ∀ q, q < W.heap.size → q ≠ g → (∀ c f, W.heap[q]? ≠ some (.cells c 75 f)) → W'.heap[q]? = W.heap[q]?) : Cst B W' b g N A num D := by
  rcases h with ⟨s, V, un, cl, n, R, ⟨lk, fs, ch, hz, hr, hf⟩, r⟩ | ⟨h, hc⟩
  · refine .inl ⟨s, V, un, cl, n, R, ⟨lk, fs, ch, hz.keep fun q hq => hk q (hz.lt q hq).2 (fun e => hm.off hz (by rw [← e]; exact hq)) fun c f hh => ?_, hr, hf⟩, r⟩
    obtain ⟨c2, e2, f2, h2, hne⟩ := hz.cells hq
    rw [hh] at h2
    injection h2 with h2
    injection h2 with _ h3
    exact hne h3.symm
  · have hne : b ≠ g := fun e => by
      obtain ⟨D', ⟨es, clock, hb, _⟩, _⟩ := hm
      rw [← e, h.1] at hb; cases hb
    refine .inr ⟨⟨(hk b h.lt hne fun c f hh => ?_).trans h.1, h.2⟩, hc⟩
    rw [h.1] at hh
    injection hh with hh
    injection hh with _ h3
    exact absurd h3 (by decide)
theorem Cst.more (h : Cst B W b g N A num D) (hc : c ∈ A) {N' : Nat} (hN : N ≤ N') : Cst B W b g N' (c :: A) num D := by
  rcases h with ⟨s, V, un, cl, n, R, hf, hu, hb, r1, r2, r3, r4⟩ | ⟨h, hcl⟩
  · refine .inl ⟨s, V, un, cl, n, R, hf, hu, ⟨fun d hd => ?_, fun k hk => ?_, fun d hd => ?_⟩, r1, r2, by omega, r4⟩
    · rcases List.mem_cons.1 hd with e | e
      · rw [e]; exact hb.pos c hc
      · exact hb.pos d e
    · obtain ⟨d, h1, h2⟩ := hb.all k hk
      exact ⟨d, by simp [h1], h2⟩
    · rcases List.mem_cons.1 hd with e | e
      · rw [e]; exact hb.ne c hc
      · exact hb.ne d e
  · exact .inr ⟨h, hcl.mono (fun d hd => ⟨d, by simp [hd], fun _ => Iff.rfl⟩) (by simp)⟩
theorem fEnter_st (hw : Below w.heap.size w W) (hBw : B ≤ w.heap.size) (hc : Cst B w b g N A num D) (hm : Mh w g N T) (ho : Own w.heap.size W v c) (ht : Tdy c) (hn : c ∉ A) (hN : N < 1073741822) :
    Calls Tryz.prog 49 #[.pointer (some ⟨b, 1, none⟩), v] W fun e w' => ∃ k : Nat, e = .returned (.int .i32 (k : Int)) ∧ Cst B w' b g (N + 1) (c :: A) (fun d => if d = c then k else num d) D ∧ Enk B w W w' g v := by
  have hlen : c.length ≤ 2097152 := by
    have := tid_len c
    rw [tid_id ht.1 ht.2] at this; exact this
  rcases hc with ⟨s, V, un, cl, n, R, ⟨lk, fs, ch, hz, hr, hf⟩, hu, hb, hM, hD, hcl, hpos⟩ | ⟨h, hcl⟩
  · have hzW := hz.below hw
    have hoff : ∀ q, s.own V b q → q < w.heap.size := fun q hq => (hz.lt q hq).2
    have hcro : Cro B W b s V v c := ⟨row_mono ho hBw, fun q hq e => by
      have h1 := hoff q hq
      have h2 := (World.ownsRow.lt ho q e.symm).1
      omega⟩
    have hul : un.length ≤ 1073741824 := by
      have h1 : un.length ≤ cl.length := nodup_len _ _ hu.1 fun x hx => ⟨(hu.2 x hx).1, Nat.le_of_lt (hu.2 x hx).2.1⟩
      omega
    refine (fEnter_any W v ⟨lk, fs, ch, hzW, hr, hf⟩ hu hcro (List.all_eq_true.2 ht.2) ht.nd (by omega) hul hpos hlen (Nat.le_trans hBw hw.size)).mono fun e w' hh => ?_
    obtain ⟨k, e1, hor⟩ := hh
    have hEn : ∀ {Q : Nat → Prop}, Mo W (fun q => s.own V b q ∨ vown v q) w' Q → Enk B w W w' g v := fun {Q} hmo => by
      refine ⟨Bz.mo hmo (Nat.le_trans hBw hw.size) fun q ho2 => ?_, fun q hq h1 h2 => hmo.block q hq fun ho2 => ?_⟩
      · rcases ho2 with a | a
        · exact ⟨(hz.lt q a).1, hzW.hm a⟩
        · exact ⟨Nat.le_trans hBw (World.ownsRow.lt ho q a.symm).1, Hm.of (row_ty ho a) (by decide)⟩
      · rcases ho2 with a | a
        · rcases h1 with h1 | h1
          · have := hoff q a; omega
          · rw [h1] at a; exact hm.off hz a
        · exact h2 a
    refine ⟨k, e1, ?_⟩
    rcases hor with hR | ⟨rfl, hC⟩
    · obtain ⟨s', V', un', cl1, cl2, n', R', c', fr, hfre, hpm, hpc, hke, hk0, hkl, hls, hcl1, hu', hnu, hsM, hsD, hmo, hcn⟩ := hR
      refine ⟨.inl ⟨s', V', un', cl2, n', R', hfre, hu', hb.enter hn hcn hk0 hls hke hkl hpm hpc, by rw [hsM, hM], by rw [hsD, hD], ?_, ?_⟩, hEn hmo⟩
      · rw [hpm.1, List.length_set]; omega
      · rw [hpm.1, List.length_set]; omega
    · obtain ⟨h1, h2, h3⟩ := hC
      rw [hM, hD] at h1
      refine ⟨.inr ⟨h1, h2 _ (fun d hd => ?_) ⟨c, by simp, fun _ => Iff.rfl⟩⟩, hEn h3⟩
      obtain ⟨d', hd', hx⟩ := hb.same.1 d hd
      exact ⟨d', by simp [hd'], hx⟩
  · have hW := h.below hw
    refine (fEnter_clash W v hW).mono fun e w' hh => ?_
    have hlt : b < W.heap.size := hW.lt
    refine ⟨0, hh.1, .inr ⟨hW.below hh.2, hcl.mono (fun d hd => ⟨d, by simp [hd], fun _ => Iff.rfl⟩) (by simp)⟩, ⟨Bz.of hh.2 (Nat.le_trans hBw hw.size), fun q hq _ _ => hh.2.block q hq⟩⟩
end
section
variable {B b g N : Nat} {A : List (List Int)} {D : Bool}
/-- what take leaves -/
def TkS (B b g N : Nat) (A : List (List Int)) (D : Bool) (c : List Int) (w w' : World) : Prop := Fst B w' b g (N + 1) (c :: A) D ∧ Bz B w w'
theorem tk_tail {w W5 : World} {T : List UInt8 → Option (Nat × Nat)} {num : List Int → Nat} {c : List Int} {X t k : Nat} (hBg : B ≤ g) (hBX : B ≤ X) (hx : W5.heap[X]? = some (.cells #[.int .i64 (t : Int), .int .i32 (k : Int)] 75 (0, 0))) (hm : Mh W5 g N T) (hcs : Cst B W5 b g (N + 1) (c :: A) num D) (hbk : Bok (c :: A) (upT T (tx c) (some (t + 1, k))) num) (hbl : Bz B w W5) (hl : (tx c).length ≤ maxLen) (hN : N < 1073741822) :
    ∃ w7, (Instr.mapUpdate 56 (.map (some g)) (.string ⟨(tx c).toArray⟩) (.agg #[.int .i64 ((t : Int) + 1), .int .i32 (k : Int)])).run Tryz.prog (W5.setCell ⟨X, 0, none⟩ (.int .i64 ((t : Int) + 1))).drew = .ok () w7 ∧ TkS B b g N A D c w w7 := by
  have hgX : g ≠ X := fun e => by
    obtain ⟨D', ⟨es, clock, hb, _⟩, _⟩ := hm
    rw [e, hx] at hb; cases hb
  have gr := grown_set W5 ⟨X, 0, none⟩ (.int .i64 ((t : Int) + 1))
  have hm6 : Mh (W5.setCell ⟨X, 0, none⟩ (.int .i64 ((t : Int) + 1))) g N T := hm.kept (gr.block g hm.lt (by simp; exact hgX))
  have hcs6 : Cst B (W5.setCell ⟨X, 0, none⟩ (.int .i64 ((t : Int) + 1))) b g (N + 1) (c :: A) num D := hcs.kept hm fun q hq h1 h2 => gr.block q hq fun e => by
    have : q = X := by injection e
    subst this; exact h2 _ _ hx
  have hm6d : Mh (W5.setCell ⟨X, 0, none⟩ (.int .i64 ((t : Int) + 1))).drew g N T := hm6.kept rfl
  obtain ⟨w7, r1, r2, r3⟩ := hm6d.put hl (by unfold maxLen; omega) (t + 1) k
  refine ⟨w7, by unfold hV at r1; push_cast at r1; exact r1, ⟨_, num, r2, hBg, hbk, ?_⟩, ?_⟩
  · exact hcs6.kept hm6 fun q hq h1 _ => r3.block q hq (by simp; exact h1)
  · have h5 : Bz B w (W5.setCell ⟨X, 0, none⟩ (.int .i64 ((t : Int) + 1))) := hbl.setCell (p := ⟨X, 0, none⟩) hBX (Hm.of ⟨_, _, hx⟩ (by decide)) _
    have hs5 : B ≤ W5.heap.size := Nat.le_trans hBg (Nat.le_of_lt hm.lt)
    exact h5.drew.grown r3 (Nat.le_trans hs5 gr.size) hBg (Hm.map hm6d)
set_option maxRecDepth 100000 in
set_option maxHeartbeats 1600000 in
theorem fTake_any (w : World) (vc : Value) (c0 : List Int) (h : Fst B w b g N A D) (hr : Rd w vc c0) (hB : B ≤ w.heap.size) (hN : N < 1073741822) (hA : A.length ≤ 1073741824) :
    Calls Tryz.prog 37 #[.pointer (some ⟨b, 0, none⟩), vc] w fun e w' => e = .returned (.tuple #[]) ∧ TkS B b g N A D (tid c0) w w' := by
  obtain ⟨T, num, hm, hBg, hbk, hcs0⟩ := h
  have hcs : Cst B w b g N A num D := hcs0
  clear hcs0
  have hbx := hcs.box
  have ht : Tdy (tid c0) := Tdy.tid c0
  have htl : (tid c0).length ≤ 2097152 := tid_len c0
  have HTi : Hid (Calls Tryz.prog 35 #[vc] w fun e w' => ∃ v', e = .returned v' ∧ Own w.heap.size w' v' (tid c0) ∧ Below w.heap.size w w') := tidy_any vc c0 w hr
  have HS : Hid (Mh w g N T ∧ B ≤ g ∧ Bok A T num ∧ Cst B w b g N A num D ∧ B ≤ w.heap.size ∧ N < 1073741822) := ⟨hm, hBg, hbk, hcs, hB, hN⟩
  have htx : (tx (tid c0)).length ≤ maxLen := by rw [tx_len]; unfold maxLen; omega
  have hlk := hbk.look ht
  obtain ⟨c, hc⟩ : ∃ c, tid c0 = c := ⟨_, rfl⟩
  rw [hc] at ht htl htx hlk HTi ⊢
  have HT : Hid (Tdy c ∧ c.length ≤ 2097152 ∧ (tx c).length ≤ maxLen ∧ T (tx c) = if c ∈ A then some (A.count c, num c) else none) := ⟨ht, htl, htx, hlk⟩
  obtain ⟨av, cv, rfl, v1, v2, hcell⟩ := hr.form
  clear hm hBg hbk hcs hB hN hr ht htl htx hlk hc hcell v1 v2
  have b0 := hbx.1
  have hbl := hbx.2.1
  clear hbx
  go_enter Tryz.func37, Tryz.ntmps37
  go_upto_region 1 with (go_at_call 35; refine HTi.out.mono ?_; rintro e w1 ⟨v', rfl, ho, hb1⟩; have H1 : Hid (Own w.heap.size w1 v' c ∧ Below w.heap.size w w1) := ⟨ho, hb1⟩; clear ho hb1)
  have HTx : Hid (Calls Tryz.prog 48 #[v'] w1 fun e w' => e = .returned (.string ⟨(tx c).toArray⟩) ∧ Below w1.heap.size w1 w') := fText_any v' c w1 (H1.out.1.rd (by have := HT.out.2.1; omega)) HT.out.1.2 HT.out.2.1
  obtain ⟨a1, c1, e1⟩ := own_form H1.out.1
  subst e1
  go_upto_region 2 with (go_at_call 48; refine HTx.out.mono ?_; rintro e w2 ⟨rfl, hb2⟩; have H2 : Hid (Below w1.heap.size w1 w2) := hb2; clear hb2)
  have hb02 : Below w.heap.size w w2 := Below.step H1.out.2 H2.out
  have b02 : w2.cell? ⟨b, 0, none⟩ = some (.map (some g)) := (hb02.cell (p := ⟨b, 0, none⟩) hbl).trans b0
  have hlt2 : b < w2.heap.size := Nat.lt_of_lt_of_le hbl hb02.size
  have hm2 : Mh w2 g N T := HS.out.1.kept (hb02.block g HS.out.1.lt)
  have hlook := hm2.look HT.out.2.2.1
  have HB2 : Hid (Below w.heap.size w w2 ∧ Mh w2 g N T) := ⟨hb02, hm2⟩
  clear hb02 hm2 b0
  unfold hV at hlook
  obtain ⟨t0, k0, i0, hti⟩ : ∃ t0 k0 i0, (((T (tx c)).getD (0, 0)).1 = t0 ∧ ((T (tx c)).getD (0, 0)).2 = k0 ∧ (T (tx c)).isSome = i0) := ⟨_, _, _, rfl, rfl, rfl⟩
  have HTI : Hid (((T (tx c)).getD (0, 0)).1 = t0 ∧ ((T (tx c)).getD (0, 0)).2 = k0 ∧ (T (tx c)).isSome = i0) := hti
  rw [hti.1, hti.2.1, hti.2.2] at hlook
  clear hti
  go_upto_region 3 with fail
  have hX : (w2.alloc (.cells #[.int .i64 (t0 : Int), .int .i32 (k0 : Int)] 75)).heap[w2.heap.size]? = some (.cells #[.int .i64 (t0 : Int), .int .i32 (k0 : Int)] 75 (0, 0)) := World.alloc_heap_new w2 _
  have hb3 := below_box w2 (.cells #[.int .i64 (t0 : Int), .int .i32 (k0 : Int)] 75)
  have b03 : (w2.alloc (.cells #[.int .i64 (t0 : Int), .int .i32 (k0 : Int)] 75)).cell? ⟨b, 0, none⟩ = some (.map (some g)) := (hb3.cell (p := ⟨b, 0, none⟩) hlt2).trans b02
  have hm3 : Mh (w2.alloc (.cells #[.int .i64 (t0 : Int), .int .i32 (k0 : Int)] 75)) g N T := HB2.out.2.kept (hb3.block g HB2.out.2.lt)
  have H3 : Hid ((w2.alloc (.cells #[.int .i64 (t0 : Int), .int .i32 (k0 : Int)] 75)).heap[w2.heap.size]? = some (.cells #[.int .i64 (t0 : Int), .int .i32 (k0 : Int)] 75 (0, 0)) ∧ Mh (w2.alloc (.cells #[.int .i64 (t0 : Int), .int .i32 (k0 : Int)] 75)) g N T ∧ Below w.heap.size w (w2.alloc (.cells #[.int .i64 (t0 : Int), .int .i32 (k0 : Int)] 75)) ∧ Own w.heap.size (w2.alloc (.cells #[.int .i64 (t0 : Int), .int .i32 (k0 : Int)] 75)) (.slice a1 c.length c1) c ∧ w.heap.size ≤ w2.heap.size ∧ some w2.heap.size ≠ (Value.slice a1 c.length c1).ownBlock) := by
    refine ⟨hX, hm3, Below.step HB2.out.1 hb3, row_kept H1.out.1 fun q hq => ?_, HB2.out.1.size, fun e => ?_⟩
    · have h1 := (World.ownsRow.lt H1.out.1 q hq.symm).2
      rw [hb3.block q (Nat.lt_of_lt_of_le h1 H2.out.size), H2.out.block q h1]
    · have h1 := (World.ownsRow.lt H1.out.1 _ e.symm).2
      have := H2.out.size
      omega
  have hlt3 := Nat.lt_of_lt_of_le hlt2 hb3.size
  have hX3 := (Array.getElem?_eq_some_iff.1 hX).1
  have hbX : b < w2.heap.size := hlt2
  clear hX hb3 hm3 b02 hlook
  generalize w2.alloc (.cells #[.int .i64 (t0 : Int), .int .i32 (k0 : Int)] 75) = w3 at *
  obtain ⟨X, hXe⟩ : ∃ X, w2.heap.size = X := ⟨_, rfl⟩
  rw [hXe] at H3 hX3 hbX ⊢
  clear hXe hlt2
  have hcnt : A.count c ≤ A.length := List.count_le_length
  have hne : b ≠ X := by omega
  by_cases hin : c ∈ A
  · have hTc := HT.out.2.2.2
    rw [if_pos hin] at hTc
    have h1 := HTI.out
    rw [hTc] at h1
    obtain ⟨h1, h2, h3⟩ := h1
    have h1 : A.count c = t0 := h1
    have h2 : num c = k0 := h2
    have h3 : true = i0 := h3
    obtain ⟨w7, hrun, hfin⟩ := tk_tail (B := B) (b := b) (g := g) (N := N) (A := A) (D := D) (w := w) (W5 := w3) (T := T) (num := num) (c := c) (X := X) (t := t0) (k := k0) HS.out.2.1 (Nat.le_trans HS.out.2.2.2.2.1 H3.out.2.2.2.2.1) H3.out.1 H3.out.2.1 ((HS.out.2.2.2.1.kept HS.out.1 fun q hq _ _ => H3.out.2.2.1.block q hq).more hin (by omega)) (by rw [← h1, ← h2]; exact HS.out.2.2.1.more hin) (Bz.of H3.out.2.2.1 HS.out.2.2.2.2.1) HT.out.2.2.1 HS.out.2.2.2.2.2
    have HFin : Hid (TkS B b g N A D c w w7) := hfin
    have x0 : w3.cell? ⟨X, 0, none⟩ = some (.int .i64 (t0 : Int)) := box_cell H3.out.1 rfl
    have x1 : w3.cell? ⟨X, 1, none⟩ = some (.int .i32 (k0 : Int)) := box_cell H3.out.1 rfl
    have xf : w3.frozen? ⟨X, 0, none⟩ = false := by simp [World.frozen?, H3.out.1]
    have hwt : wrap64 ((t0 : Int) + 1) = (t0 : Int) + 1 := by unfold wrap64; omega
    subst h3
    clear h1 h2 hTc hin hfin hcnt
    go_upto_region 6 with fail
    go_region_law (fail)
    all_goals
      go_end0
      exact ⟨rfl, HFin.out⟩
  · have hTc := HT.out.2.2.2
    rw [if_neg hin] at hTc
    have h1 := HTI.out
    rw [hTc] at h1
    obtain ⟨h1, h2, h3⟩ := h1
    have h1 : 0 = t0 := h1
    have h3 : false = i0 := h3
    have HEn : Hid (Calls Tryz.prog 49 #[.pointer (some ⟨b, 1, none⟩), .slice a1 c.length c1] w3 fun e w' => ∃ k : Nat, e = .returned (.int .i32 (k : Int)) ∧ Cst B w' b g (N + 1) (c :: A) (fun d => if d = c then k else num d) D ∧ Enk B w w3 w' g (.slice a1 c.length c1)) := fEnter_st H3.out.2.2.1 HS.out.2.2.2.2.1 HS.out.2.2.2.1 HS.out.1 H3.out.2.2.2.1 HT.out.1 hin HS.out.2.2.2.2.2
    have HBk : Hid (∀ k : Nat, Bok (c :: A) (upT T (tx c) (some (t0 + 1, k))) (fun d => if d = c then k else num d)) := fun k => by rw [← h1]; exact HS.out.2.2.1.new hin HT.out.1
    have HX4 : Hid (∀ W, Enk B w w3 W g (.slice a1 c.length c1) → W.heap[X]? = some (.cells #[.int .i64 (t0 : Int), .int .i32 (k0 : Int)] 75 (0, 0)) ∧ Mh W g N T ∧ Bz B w W) := fun W hW => by
      refine ⟨(hW.oth X hX3 (.inl H3.out.2.2.2.2.1) H3.out.2.2.2.2.2).trans H3.out.1, H3.out.2.1.kept (hW.oth g H3.out.2.1.lt (.inr rfl) fun e => ?_), (Bz.of H3.out.2.2.1 HS.out.2.2.2.2.1).trans hW.bel⟩
      have h2 := (World.ownsRow.lt H3.out.2.2.2.1 g e.symm).1
      have h3 := HS.out.1.lt
      omega
    have ht01 : t0 ≤ 1 := by omega
    subst h3
    clear h1 h2 hTc hin hcnt
    go_upto_region 5 with (go_at_call 49; refine HEn.out.mono ?_; rintro e w4 ⟨k, rfl, hcs4, hen⟩; have hx4 := HX4.out w4 hen; have H4 : Hid (Cst B w4 b g (N + 1) (c :: A) (fun d => if d = c then k else num d) D ∧ w4.heap[X]? = some (.cells #[.int .i64 (t0 : Int), .int .i32 (k0 : Int)] 75 (0, 0)) ∧ Mh w4 g N T ∧ Bz B w w4) := ⟨hcs4, hx4⟩; have b04 := hcs4.box.1; have y0 : w4.cell? ⟨X, 0, none⟩ = some (.int .i64 (t0 : Int)) := box_cell hx4.1 rfl; have y1 : w4.cell? ⟨X, 1, none⟩ = some (.int .i32 (k0 : Int)) := box_cell hx4.1 rfl; have yf0 : w4.frozen? ⟨X, 0, none⟩ = false := (by simp [World.frozen?, hx4.1]); have yf1 : w4.frozen? ⟨X, 1, none⟩ = false := (by simp [World.frozen?, hx4.1]); clear hcs4 hen hx4)
    have gr := grown_set w4 ⟨X, 1, none⟩ (.int .i32 (k : Int))
    have hX5 : (w4.setCell ⟨X, 1, none⟩ (.int .i32 (k : Int))).heap[X]? = some (.cells #[.int .i64 (t0 : Int), .int .i32 (k : Int)] 75 (0, 0)) := set_heap H4.out.2.1 1 _
    have hgX : g ≠ X := fun e => by
      obtain ⟨D', ⟨es, clock, hb, _⟩, _⟩ := H4.out.2.2.1
      rw [e, H4.out.2.1] at hb; cases hb
    have hm5 : Mh (w4.setCell ⟨X, 1, none⟩ (.int .i32 (k : Int))) g N T := H4.out.2.2.1.kept (gr.block g H4.out.2.2.1.lt (by simp; exact hgX))
    have hcs5 : Cst B (w4.setCell ⟨X, 1, none⟩ (.int .i32 (k : Int))) b g (N + 1) (c :: A) (fun d => if d = c then k else num d) D := H4.out.1.kept H4.out.2.2.1 fun q hq h1 h2 => gr.block q hq fun e => by
      have : q = X := by injection e
      subst this; exact h2 _ _ H4.out.2.1
    have hbl5 : Bz B w (w4.setCell ⟨X, 1, none⟩ (.int .i32 (k : Int))) := H4.out.2.2.2.setCell (p := ⟨X, 1, none⟩) (Nat.le_trans HS.out.2.2.2.2.1 H3.out.2.2.2.2.1) (Hm.of ⟨_, _, H4.out.2.1⟩ (by decide)) _
    obtain ⟨w7, hrun, hfin⟩ := tk_tail (B := B) (b := b) (g := g) (N := N) (A := A) (D := D) (w := w) (W5 := w4.setCell ⟨X, 1, none⟩ (.int .i32 (k : Int))) (T := T) (num := fun d => if d = c then k else num d) (c := c) (X := X) (t := t0) (k := k) HS.out.2.1 (Nat.le_trans HS.out.2.2.2.2.1 H3.out.2.2.2.2.1) hX5 hm5 hcs5 (HBk.out k) hbl5 HT.out.2.2.1 HS.out.2.2.2.2.2
    have HFin : Hid (TkS B b g N A D c w w7) := hfin
    have x0 : (w4.setCell ⟨X, 1, none⟩ (.int .i32 (k : Int))).cell? ⟨X, 0, none⟩ = some (.int .i64 (t0 : Int)) := box_cell hX5 rfl
    have x1 : (w4.setCell ⟨X, 1, none⟩ (.int .i32 (k : Int))).cell? ⟨X, 1, none⟩ = some (.int .i32 (k : Int)) := box_cell hX5 rfl
    have xf : (w4.setCell ⟨X, 1, none⟩ (.int .i32 (k : Int))).frozen? ⟨X, 0, none⟩ = false := by simp [World.frozen?, hX5]
    have b05 := hcs5.box.1
    have hwt : wrap64 ((t0 : Int) + 1) = (t0 : Int) + 1 := by unfold wrap64; omega
    clear gr hX5 hgX hm5 hcs5 hbl5 hfin b04 y0 y1 yf0 yf1
    generalize w4.setCell ⟨X, 1, none⟩ (.int .i32 (k : Int)) = w5 at *
    go_upto_region 6 with fail
    go_region_law (fail)
    all_goals
      go_end0
      exact ⟨rfl, HFin.out⟩
end
end Go.Proofs.YtjajafeaengnjaaGreatDoor
set_option linter.unusedSimpArgs false
set_option linter.unusedVariables false
namespace Go.Proofs.YtjajafeaengnjaaGreatDoor
open Go Go.RowKit
theorem sum_num (cl : Fcl) (num : List Int → Nat) : ∀ (A : List (List Int)) (K : List Nat), K.Nodup → (∀ c ∈ A, (lts cl (num c)).length ≤ c.length) → (∀ k ∈ K, lts cl k ≠ [] → ∃ c ∈ A, num c = k) → (K.map fun k => (lts cl k).length).sum ≤ lsum A
  | [], K, _, _, h => by
    have hz : ∀ K : List Nat, (∀ k ∈ K, lts cl k = []) → (K.map fun k => (lts cl k).length).sum = 0 := by
      intro K
      induction K with
      | nil => intro _; rfl
      | cons a r ih => intro hh; rw [List.map_cons, List.sum_cons, ih (fun k hk => hh k (by simp [hk])), hh a (by simp)]; rfl
    rw [hz K fun k hk => Classical.byContradiction fun hne => by obtain ⟨c, hc, _⟩ := h k hk hne; simp at hc]
    exact Nat.zero_le _
  | c :: A, K, hn, hl, h => by
    have hlA : lsum (c :: A) = c.length + lsum A := by simp [lsum]
    rw [hlA]
    have ih := sum_num cl num A (K.erase (num c)) (hn.erase _) (fun d hd => hl d (by simp [hd])) (fun k hk hne => by
      obtain ⟨d, hd, e⟩ := h k (List.mem_of_mem_erase hk) hne
      rcases List.mem_cons.1 hd with q | q
      · subst q; rw [e] at hk; exact absurd hk (fun hq => by have := (hn.mem_erase_iff).1 hq; exact this.1 rfl)
      · exact ⟨d, q, e⟩)
    by_cases hin : num c ∈ K
    · have hp := ((List.perm_cons_erase hin).map fun k => (lts cl k).length).sum_nat
      rw [List.map_cons, List.sum_cons] at hp
      have := hl c (by simp)
      omega
    · rw [List.erase_of_not_mem hin] at ih
      omega
theorem lsum_range (cl : Fcl) : lsum (cssOf cl) = ((List.range cl.length).map fun k => (lts cl k).length).sum := by
  rw [lsum_css]
  congr 1
  refine List.ext_getElem (by simp) fun i h1 h2 => ?_
  have hi : i < cl.length := by simpa using h1
  simp [lts, List.getD_eq_getElem?_getD, List.getElem?_eq_getElem hi]
section
variable {B b g N : Nat} {w W W' : World} {A : List (List Int)} {num : List Int → Nat} {T : List UInt8 → Option (Nat × Nat)} {D : Bool} {c : List Int} {cl : Fcl}
theorem Bcl.sum (h : Bcl A cl num) : lsum (cssOf cl) ≤ lsum A := by
  rw [lsum_range]
  exact sum_num cl num A _ List.nodup_range (fun c hc => Nat.le_of_eq (h.pos c hc).2.length_eq) fun k _ hk => h.all k hk
theorem Cst.done (h : Cst B W b g N A num D) : W.cell? ⟨b, 9, none⟩ = some (.bool D) := by
  rcases h with ⟨s, V, un, cl, n, R, ⟨lk, fs, ch, hz, _⟩, _, _, _, hD, _⟩ | ⟨h, _⟩
  · have h := hz.cell 9 (.bool s.D) rfl
    rw [hD] at h; exact h
  · exact box_cell h.1 rfl
def rfI (D : Bool) (c : List Int) : Int := if c.all fmd then (if D then 3 else 0) else 1
theorem fRefuse_any (vc : Value) (w : World) (h : W = w) (hc : Cst B w b g N A num D) (hr : Rd w vc c) :
    Calls Tryz.prog 50 #[.pointer (some ⟨b, 0, none⟩), vc] w fun e w' => e = .returned (.int .i64 (rfI D c)) ∧ w' = w := by
  have d9 := hc.done
  have HSo : Hid (Calls Tryz.prog 10 #[vc] w fun e w' => e = .returned (.bool (c.all fmd)) ∧ w' = w) := sound_any vc c w hr
  obtain ⟨av, cv, rfl, v1, v2, hcell⟩ := hr.form
  clear hc hr hcell v1 v2 h
  obtain ⟨a0, ha⟩ : ∃ a0, c.all fmd = a0 := ⟨_, rfl⟩
  have HA : Hid (c.all fmd = a0) := ha
  rw [ha] at HSo
  clear ha
  go_enter Tryz.func50, Tryz.ntmps50
  cases a0 <;> cases D
  all_goals
    go_wp2_with (go_at_call 10; refine HSo.out.mono ?_; intro e w9 hh; rw [hh.1, hh.2]; clear hh e w9; dsimp only)
    go_ret
    exact ⟨by unfold rfI; rw [HA.out]; rfl, rfl⟩
/-- what kind leaves of the state -/
theorem fKind_st (w0 : World) (vc : Value) (hB : B = w0.heap.size) (hb : Below w0.heap.size w0 w) (hr : Rd w0 vc c) (hs : c.all fmd = true) (hc : Cst B w b g N A num D) (hm : Mh w g N T) (hN : N < 1073741822) (hsum : lsum A ≤ 1073741824) (hD : Deb w0) :
    Calls Tryz.prog 53 #[.pointer (some ⟨b, 0, none⟩), vc] w fun e w' => e = .returned (.int .i64 (kndI A c)) ∧ Cst B w' b g N A num D ∧ Mh w' g N T ∧ Bz B w w' := by
  rcases hc with ⟨s, V, un, cl, n, R, hfre, hu, hbc, hM, hDd, hcl, hpos⟩ | ⟨h, hcl⟩
  · have hfr0 := hfre
    obtain ⟨lk, fs, ch, hz, hrs, hfs⟩ := hfr0
    refine (fKind_any w0 w vc hB hb hr hs hfre (by omega) (Nat.le_trans hbc.sum hsum) hD).mono fun e w' hh => ?_
    obtain ⟨e1, u, cl', h1, h2, h3⟩ := hh
    refine ⟨by rw [e1, kndI_same hbc.same], .inl ⟨_, V, un, cl', n, R, h1, hu.pm h2, hbc.pm h2, hM, hDd, by rw [h2.1]; exact hcl, by rw [h2.1]; exact hpos⟩, hm.kept (h3.block g hm.lt (hm.off hz)), Bz.mo h3 (by have := hb.size; omega) fun q ho => ⟨(hz.lt q ho).1, hz.hm ho⟩⟩
  · have hk : kndI A c = 1 := by
      unfold kndI
      rw [if_pos]
      exact claB_of (hcl.trans (by simp))
    have HFo : Hid (Calls Tryz.prog 71 #[.pointer (some ⟨b, 1, none⟩), vc] w fun e w' => e = .returned (.bool true) ∧ Below w.heap.size w w') := fFollows_clash w vc h
    have HS : Hid (kndI A c = 1 ∧ Fcz B w b (.map (some g)) D ∧ Cla A [] ∧ Mh w g N T ∧ B ≤ w.heap.size) := ⟨hk, h, hcl, hm, by rw [hB]; exact hb.size⟩
    obtain ⟨av, cv, rfl, v1, v2, hcell⟩ := hr.form
    clear hB hb hr hs hm hN hsum hD h hcl hk v1 v2 hcell
    go_enter Tryz.func53, Tryz.ntmps53
    go_wp2_with (go_at_call 71; refine HFo.out.mono ?_; rintro e w1 ⟨rfl, hb1⟩; have H1 : Hid (Below w.heap.size w w1) := hb1; clear hb1)
    go_ret
    exact ⟨by rw [HS.out.1]; rfl, .inr ⟨HS.out.2.1.below H1.out, HS.out.2.2.1⟩, HS.out.2.2.2.1.kept (H1.out.block g HS.out.2.2.2.1.lt), Bz.of H1.out HS.out.2.2.2.2⟩
end
end Go.Proofs.YtjajafeaengnjaaGreatDoor
set_option linter.unusedSimpArgs false
set_option linter.unusedVariables false
namespace Go.Proofs.YtjajafeaengnjaaGreatDoor
open Go Go.RowKit
section
variable {B b g N : Nat} {w W W' : World} {A : List (List Int)} {num : List Int → Nat} {T : List UInt8 → Option (Nat × Nat)} {D : Bool} {c : List Int}
theorem Fwz.setD {s : Sf} {V : List Value} {cl : Fcl} {un : List Nat} {lk : List (Nat × Nat)} {fs : List Nat} {hs : List Bool} {R : List Int} {td : Nat} (h : Fwz B W b s V cl un lk fs hs R td) (z : Bool) : Fwz B (W.setCell ⟨b, 9, none⟩ (.bool z)) b { s with D := z } V cl un lk fs hs R td := by
  have hg := grown_set W ⟨b, 9, none⟩ (.bool z)
  have ht : ∀ x, some b = some x → Ty W x 65 := fun x e => by injection e with e; subst e; exact h.ty
  exact ⟨set_heap h.box 9 _, h.hb, row_other h.c hg ht (by decide), row_other h.u hg ht (by decide), row_other h.l hg ht (by decide), row_other h.f hg ht (by decide), row_other h.h hg ht (by decide), row_other h.r hg ht (by decide), h.uf, h.vl, fun k => row_other (h.v k) hg ht (by decide), h.va, h.vr⟩
theorem Fst.setD (h : Fst B W b g N A D) (z : Bool) : Fst B (W.setCell ⟨b, 9, none⟩ (.bool z)) b g N A z ∧ W.cell? ⟨b, 9, none⟩ = some (.bool D) ∧ W.frozen? ⟨b, 9, none⟩ = false ∧ B ≤ b ∧ Hm W b := by
  obtain ⟨T, num, hm, hBg, hbk, hc⟩ := h
  have hc9 : Cst B W b g N A num D := hc
  have hg := grown_set W ⟨b, 9, none⟩ (.bool z)
  have hbg : g ≠ b := fun e => by
    obtain ⟨D', ⟨es, clock, hb, _⟩, _⟩ := hm
    rcases hc with ⟨s, V, un, cl, n, R, ⟨lk, fs, ch, hz, _⟩, _⟩ | ⟨h, _⟩
    · rw [e, hz.box] at hb; cases hb
    · rw [e, h.1] at hb; cases hb
  have hfz : W.frozen? ⟨b, 9, none⟩ = false := by
    rcases hc with ⟨s, V, un, cl, n, R, ⟨lk, fs, ch, hz, _⟩, _⟩ | ⟨h, _⟩
    · exact hz.fz 9
    · simp [World.frozen?, h.1]
  have hhm : Hm W b := by
    rcases hc with ⟨s, V, un, cl, n, R, ⟨lk, fs, ch, hz, _⟩, _⟩ | ⟨h, _⟩
    · exact hz.hm (.inl rfl)
    · exact Hm.of ⟨_, _, h.1⟩ (by decide)
  refine ⟨⟨T, num, hm.kept (hg.block g hm.lt (by simp; exact hbg)), hBg, hbk, ?_⟩, hc9.done, hfz, hc9.box.2.2, hhm⟩
  rcases hc with ⟨s, V, un, cl, n, R, ⟨lk, fs, ch, hz, hr, hf⟩, hu, hb, hM, hD, h1, h2⟩ | ⟨h, hcl⟩
  · exact .inl ⟨_, V, un, cl, n, R, ⟨lk, fs, ch, hz.setD z, hr, hf⟩, hu, hb, hM, rfl, h1, h2⟩
  · exact .inr ⟨⟨set_heap h.1 9 _, h.2⟩, hcl⟩
/-- what Add says and leaves -/
noncomputable def addF (A : List (List Int)) (D : Bool) (c : List Int) : Int × Int × List (List Int) × Bool :=
  if rfI D c ≠ 0 then (0, rfI D c, A, D) else if kndI A c = 0 then (0, 0, A, D) else (kndI A c, 0, tid c :: A, decide (c = []))
def AdS (B b g N : Nat) (w : World) (q : Int × Int × List (List Int) × Bool) (e : Ending) (w' : World) : Prop :=
  e = .returned (.tuple #[.int .i64 q.1, .int .i64 q.2.1]) ∧ Fst B w' b g (N + 1) q.2.2.1 q.2.2.2 ∧ Bz B w w'
theorem Mh.mono {N' : Nat} (h : Mh W g N T) (hN : N ≤ N') : Mh W g N' T := by
  obtain ⟨D, h1, h2⟩ := h
  exact ⟨D, h1.mono hN, h2⟩
theorem Fst.mono {N' : Nat} (h : Fst B W b g N A D) (hN : N ≤ N') : Fst B W b g N' A D := by
  obtain ⟨T, num, hm, hBg, hbk, hc⟩ := h
  refine ⟨T, num, hm.mono hN, hBg, hbk, ?_⟩
  rcases hc with ⟨s, V, un, cl, n, R, h1, h2, h3, h4, h5, h6, h7⟩ | h
  · exact .inl ⟨s, V, un, cl, n, R, h1, h2, h3, h4, h5, by omega, h7⟩
  · exact .inr h
set_option maxRecDepth 100000 in
set_option maxHeartbeats 1600000 in
theorem fAdd_any (w0 w : World) (vc : Value) (h : Fst B w b g N A D) (hB : B = w0.heap.size) (hb : Below w0.heap.size w0 w) (hr : Rd w0 vc c) (hN : N < 1073741822) (hA : A.length ≤ 1073741824) (hsum : lsum A ≤ 1073741824) (hD : Deb w0) :
    Calls Tryz.prog 39 #[.pointer (some ⟨b, 0, none⟩), vc] w fun e w' => AdS B b g N w (addF A D c) e w' := by
  have hrw := hr.below hb
  have hBw : B ≤ w.heap.size := by rw [hB]; exact hb.size
  have h0 := h
  obtain ⟨T, num, hm, hBg, hbk, hc⟩ := h0
  have hcs : Cst B w b g N A num D := hc
  have HRf : Hid (Calls Tryz.prog 50 #[.pointer (some ⟨b, 0, none⟩), vc] w fun e w' => e = .returned (.int .i64 (rfI D c)) ∧ w' = w) := fRefuse_any (W := w) vc w rfl hcs hrw
  have hcl8 := hr.len
  obtain ⟨rf, hrf⟩ : ∃ rf, rfI D c = rf := ⟨_, rfl⟩
  rw [hrf] at HRf
  by_cases hz : rf = 0
  · have hs : c.all fmd = true := by
      unfold rfI at hrf
      cases e : c.all fmd
      · rw [e] at hrf; simp at hrf; omega
      · rfl
    have HKi : Hid (Calls Tryz.prog 53 #[.pointer (some ⟨b, 0, none⟩), vc] w fun e w' => e = .returned (.int .i64 (kndI A c)) ∧ Cst B w' b g N A num D ∧ Mh w' g N T ∧ Bz B w w') := fKind_st w0 vc hB hb hr hs hcs hm hN hsum hD
    have HTk : Hid (∀ W, Cst B W b g N A num D → Mh W g N T → Bz B w W → Calls Tryz.prog 37 #[.pointer (some ⟨b, 0, none⟩), vc] W fun e w' => e = .returned (.tuple #[]) ∧ Fst B w' b g (N + 1) (tid c :: A) D ∧ Bz B w w') := fun W h1 h2 h3 => by
      have hWB : Below w0.heap.size w0 W := by rw [hB] at h3; exact hb.trans h3.bel
      refine (fTake_any W vc c ⟨T, num, h2, hBg, hbk, h1⟩ (hr.below hWB) (Nat.le_trans hBw h3.size) hN hA).mono fun e w' hh => ⟨hh.1, hh.2.1, h3.trans hh.2.2⟩
    have HBk : Hid (∀ W, Cst B W b g N A num D → Mh W g N T → Fst B W b g N A D) := fun W h1 h2 => ⟨T, num, h2, hBg, hbk, h1⟩
    have HR0 : Hid (rfI D c = 0) := by rw [hrf]; exact hz
    subst hz
    obtain ⟨av, cv, rfl, v1, v2, hcell⟩ := hr.form
    have hlen0 : ∀ z : Bool, decide (c.length = 0) = z → z = decide (c = []) := fun z e => by rw [← e]; simp
    have HL0 : Hid (((c.length : Int) == 0) = decide (c = [])) := by
      show _ = _
      rw [Bool.eq_iff_iff, beq_iff_eq, decide_eq_true_iff]
      constructor
      · intro e; exact List.eq_nil_of_length_eq_zero (by omega)
      · intro e; rw [e]; rfl
    clear h hB hb hr hrw hBw hm hBg hbk hc hcs hN hA hsum hD hrf hs hcell v1 v2 hlen0
    obtain ⟨kd, hkd⟩ : ∃ kd, kndI A c = kd := ⟨_, rfl⟩
    rw [hkd] at HKi
    by_cases hk : kd = 0
    · have HAd : Hid (addF A D c = (0, 0, A, D)) := by
        show _ = _
        unfold addF
        rw [if_neg (by rw [HR0.out]; simp), if_pos (by rw [hkd]; exact hk)]
      subst hk
      clear hkd
      go_enter Tryz.func39, Tryz.ntmps39
      go_wp2_with (first
        | (go_at_call 50; refine HRf.out.mono ?_; intro e w9 hh; rw [hh.1, hh.2]; clear hh e w9; dsimp only)
        | (go_at_call 53; refine HKi.out.mono ?_; rintro e w1 ⟨rfl, g1, g2, g3⟩; have H1 : Hid (Cst B w1 b g N A num D ∧ Mh w1 g N T ∧ Bz B w w1) := ⟨g1, g2, g3⟩; clear g1 g2 g3))
      go_returns
      rw [HAd.out]
      exact ⟨rfl, (HBk.out _ H1.out.1 H1.out.2.1).mono (by omega), H1.out.2.2⟩
    · have HAd : Hid (addF A D c = (kd, 0, tid c :: A, decide (c = []))) := by
        show _ = _
        unfold addF
        rw [if_neg (by rw [HR0.out]; simp), if_neg (by rw [hkd]; exact hk), hkd]
      clear hkd
      go_enter Tryz.func39, Tryz.ntmps39
      go_wp2_with (first
        | (go_at_call 50; refine HRf.out.mono ?_; intro e w9 hh; rw [hh.1, hh.2]; clear hh e w9; dsimp only)
        | (go_at_call 53; refine HKi.out.mono ?_; rintro e w1 ⟨rfl, g1, g2, g3⟩; have H1 : Hid (Cst B w1 b g N A num D ∧ Mh w1 g N T ∧ Bz B w w1) := ⟨g1, g2, g3⟩; clear g1 g2 g3)
        | (go_at_call 37; refine (HTk.out w1 H1.out.1 H1.out.2.1 H1.out.2.2).mono ?_; rintro e w2 ⟨rfl, g1, g2⟩; have hsd := g1.setD ((c.length : Int) == 0); have d1 := hsd.2.1; have d2 := hsd.2.2.1; have H2 : Hid (Fst B (w2.setCell ⟨b, 9, none⟩ (.bool ((c.length : Int) == 0))) b g (N + 1) (tid c :: A) ((c.length : Int) == 0) ∧ Bz B w (w2.setCell ⟨b, 9, none⟩ (.bool ((c.length : Int) == 0)))) := ⟨hsd.1, g2.setCell (p := ⟨b, 9, none⟩) hsd.2.2.2.1 hsd.2.2.2.2 _⟩; clear g1 g2 hsd))
      go_returns
      rw [HAd.out]
      refine ⟨rfl, ?_, H2.out.2⟩
      show Fst B _ b g (N + 1) (tid c :: A) (decide (c = []))
      rw [← HL0.out]
      exact H2.out.1
  · have HAd : Hid (addF A D c = (0, rf, A, D)) := by
      show _ = _
      unfold addF
      rw [if_pos (by rw [hrf]; exact hz), hrf]
    have HF : Hid (Fst B w b g N A D) := h
    obtain ⟨av, cv, rfl, v1, v2, hcell⟩ := hr.form
    clear h hB hb hr hrw hBw hm hBg hbk hc hcs hN hA hsum hD hrf hcell v1 v2
    go_enter Tryz.func39, Tryz.ntmps39
    go_wp2_with (go_at_call 50; refine HRf.out.mono ?_; intro e w9 hh; rw [hh.1, hh.2]; clear hh e w9; dsimp only)
    go_returns
    rw [HAd.out]
    exact ⟨rfl, HF.out.mono (by omega), Bz.refl _ _⟩
end
end Go.Proofs.YtjajafeaengnjaaGreatDoor
set_option linter.unusedSimpArgs false
set_option linter.unusedVariables false
namespace Go.Proofs.YtjajafeaengnjaaGreatDoor
open Go Go.RowKit
theorem lts_one (k : Nat) : lts [([], 0)] k = [] := by unfold lts; rcases k with _ | k <;> simp
theorem Wa.nil : Wa 0 [([], 0)] [(0, 0), (0, 0)] [] (fun _ => []) :=
  ⟨⟨rfl, fun i h => by omega, fun _ => trivial, fun _ => List.nodup_nil, fun _ _ _ h => by simp at h, fun _ _ h => by simp at h⟩, rfl, fun i a => by rw [lts_one]; simp, fun k l hl => by rw [lts_one] at hl; simp at hl, fun k => by rw [lts_one]; exact List.nodup_nil, lts_one 0, rfl, by omega⟩
theorem Rs.nil : Rs 0 [([], 0)] [(0, 0), (0, 0)] [] (fun _ => []) [] :=
  ⟨Wa.nil, ⟨List.nodup_nil, fun l hl => by simp at hl, fun x hx => by simp at hx⟩, fun k hk => by rw [lts_one] at hk; simp at hk, fun k l e => by rw [lts_one] at e; simp at e, fun x hx => by simp at hx⟩
theorem Fst.new {B b g : Nat} {W : World} {sC sL : Value} (hb : W.heap[b]? = some (.cells #[.map (some g), .bool false, sC, .slice none 0 0, sL, .slice none 0 0, .slice none 0 0, .slice none 0 0, .int .i64 0, .bool false] 65 (0, 0))) (hBb : B ≤ b) (hBg : B ≤ g) (hm : Mh W g 0 (fun _ => none)) (hC : W.ownsRow B 90 2 sC 1 [.slice none 0 0, .int .i64 0]) (hL : W.ownsRow B 100 2 sL 2 [.int .i32 0, .int .i32 0, .int .i32 0, .int .i32 0]) : Fst B W b g 0 [] false := by
  refine ⟨_, fun _ => 0, hm, hBg, Bok.nil, .inl ⟨⟨.map (some g), false, sC, .slice none 0 0, sL, .slice none 0 0, .slice none 0 0, .slice none 0 0⟩, [nilS], [], [([], 0)], 0, [], ⟨[(0, 0), (0, 0)], [], fun _ => [], ?_, Rs.nil, fun k => ?_⟩, ⟨List.nodup_nil, by simp⟩, Bcl.nil, rfl, rfl, by simp, by simp⟩⟩
  · refine ⟨hb, hBb, hC, World.ownsRow_nil _ _ _ _, hL, World.ownsRow_nil _ _ _ _, World.ownsRow_nil _ _ _ _, World.ownsRow_nil _ _ _ _, fun k e => by simp [Value.ownBlock] at e, rfl, fun k => ?_, fun j k q e => ?_, fun k q e => ?_⟩
    · have e : [nilS].getD k nilS = .slice none 0 0 := by rcases k with _ | k <;> rfl
      rw [e, lts_one]; exact World.ownsRow_nil _ _ _ _
    · have e2 : [nilS].getD j nilS = .slice none 0 0 := by rcases j with _ | j <;> rfl
      rw [e2] at e; simp [Value.ownBlock] at e
    · have e2 : [nilS].getD k nilS = .slice none 0 0 := by rcases k with _ | k <;> rfl
      rw [e2] at e; simp [Value.ownBlock] at e
  · rcases k with _ | k <;> simp
end Go.Proofs.YtjajafeaengnjaaGreatDoor
set_option linter.unusedSimpArgs false
set_option linter.unusedVariables false
namespace Go.Proofs.YtjajafeaengnjaaGreatDoor
open Go Go.RowKit
/-- what New says -/
def NwS (w : World) (v : Int) (css : List (List Int)) (e : Ending) (w' : World) : Prop :=
  (frm v css = false ∧ e = .returned (.tuple #[.pointer none, .int .i64 1]) ∧ Below w.heap.size w w') ∨
  (frm v css = true ∧ ∃ b g, e = .returned (.tuple #[.pointer (some ⟨b, 0, none⟩), .int .i64 0]) ∧ Fst w.heap.size w' b g css.length ((css.map tid).reverse) false ∧ Below w.heap.size w w')
set_option maxRecDepth 100000 in
set_option maxHeartbeats 1600000 in
theorem fNew_any (v : Int) (s : Value) (css : List (List Int)) (w : World) (hr : Rds w s css) (hl : css.length ≤ 1073741820) :
    Calls Tryz.prog 24 #[.agg #[.int .i64 v, s]] w fun e w' => NwS w v css e w' := by
  have HX : Hid (Bx w v s css (w.alloc (.cells #[.int .i64 v, s] 24))) := Bx.new hr _
  obtain ⟨h1, a, cap, rfl, hc, hmx, hn, h2⟩ := hr
  have H2 : Hid (css ≠ [] → ∃ b off, a = some ⟨b, off, none⟩ ∧ b < w.heap.size ∧ ∀ j, j < css.length → ∃ u, w.cell? ⟨b, off + j, none⟩ = some u ∧ Rd w u (css.getD j [])) := h2
  have HFm : Hid (Calls Tryz.prog 9 #[.agg #[.int .i64 v, .slice a css.length cap]] (w.alloc (.cells #[.int .i64 v, .slice a css.length cap] 24)) fun e w' => e = .returned (.bool (frm v css)) ∧ Below (w.alloc (.cells #[.int .i64 v, .slice a css.length cap] 24)).heap.size (w.alloc (.cells #[.int .i64 v, .slice a css.length cap] 24)) w') := cnfFormed_any v _ css _ HX.out.rd
  clear h1 h2 hn
  cases hfr : frm v css
  · have HF : Hid (frm v css = false) := hfr
    rw [hfr] at HFm
    clear hfr
    go_enter Tryz.func24, Tryz.ntmps24
    go_wp2_with (go_at_call 9; refine HFm.out.mono ?_; rintro e w1 ⟨rfl, hb1⟩; have H1 : Hid (Below w.heap.size w w1) := Below.step (below_box w _) hb1; clear hb1)
    go_returns
    exact .inl ⟨HF.out, rfl, H1.out⟩
  · have HF : Hid (frm v css = true) := hfr
    rw [hfr] at HFm
    clear hfr
    go_enter Tryz.func24, Tryz.ntmps24
    go_upto_region 3 with (go_at_call 9; refine HFm.out.mono ?_; rintro e w1 ⟨rfl, hb1⟩; have x1 : w1.cell? ⟨w.heap.size, 1, none⟩ = some (.slice a css.length cap) := (hb1.cell (p := ⟨w.heap.size, 1, none⟩) (by rw [World.size_alloc]; show w.heap.size < _; omega)).trans (box_cell (World.alloc_heap_new w _) rfl); have hs1 : w.heap.size < w1.heap.size := (by have := hb1.size; rw [World.size_alloc] at this; omega); have H1 : Hid (Below w.heap.size w w1) := Below.step (below_box w _) hb1; clear hb1)
    have hM := Mh.made w1
    have hbm := below_box w1 (.map #[] 0)
    have x1m : (w1.alloc (.map #[] 0)).cell? ⟨w.heap.size, 1, none⟩ = some (.slice a css.length cap) := (hbm.cell (p := ⟨w.heap.size, 1, none⟩) hs1).trans x1
    have HBe : Hid (Calls Tryz.prog 36 #[] (w1.alloc (.map #[] 0)) fun e w' => ∃ v, e = .returned v ∧ BeS (w1.alloc (.map #[] 0)) v w') := fBegin_any _
    have HM : Hid (Mh (w1.alloc (.map #[] 0)) w1.heap.size 0 (fun _ => none) ∧ Below w.heap.size w (w1.alloc (.map #[] 0)) ∧ w.heap.size ≤ w1.heap.size ∧ w1.heap.size < (w1.alloc (.map #[] 0)).heap.size) := ⟨hM, Below.step H1.out hbm, by omega, by rw [World.size_alloc]; omega⟩
    have mk : (Instr.makeMap 56 none).run Tryz.prog w1 = .ok (.map (some w1.heap.size)) (w1.alloc (.map #[] 0)) := run_makeMap _ _
    clear hM hbm x1
    go_upto_region 4 with (go_at_call 36; refine HBe.out.mono ?_; rintro e w2 ⟨_, rfl, sC, sL, rfl, hC, hL, hb2⟩; have H2' : Hid (w2.ownsRow (w1.alloc (.map #[] 0)).heap.size 90 2 sC 1 [.slice none 0 0, .int .i64 0] ∧ w2.ownsRow (w1.alloc (.map #[] 0)).heap.size 100 2 sL 2 [.int .i32 0, .int .i32 0, .int .i32 0, .int .i32 0] ∧ Below (w1.alloc (.map #[] 0)).heap.size (w1.alloc (.map #[] 0)) w2) := ⟨hC, hL, hb2⟩; clear hC hL hb2)
    have hzz : ∃ X, X = (Obj.cells #[.map (some w1.heap.size), .bool false, sC, .slice none 0 0, sL, .slice none 0 0, .slice none 0 0, .slice none 0 0, .int .i64 0, .bool false] 65) := ⟨_, rfl⟩
    have hbx := World.alloc_heap_new w2 (.cells #[.map (some w1.heap.size), .bool false, sC, .slice none 0 0, sL, .slice none 0 0, .slice none 0 0, .slice none 0 0, .int .i64 0, .bool false] 65)
    have hb3 := below_box w2 (.cells #[.map (some w1.heap.size), .bool false, sC, .slice none 0 0, sL, .slice none 0 0, .slice none 0 0, .slice none 0 0, .int .i64 0, .bool false] 65)
    have hb1m : Below (w1.alloc (.map #[] 0)).heap.size (w1.alloc (.map #[] 0)) (w2.alloc (.cells #[.map (some w1.heap.size), .bool false, sC, .slice none 0 0, sL, .slice none 0 0, .slice none 0 0, .slice none 0 0, .int .i64 0, .bool false] 65)) := Below.step H2'.out.2.2 hb3
    have hsz : w1.heap.size < w2.heap.size := Nat.lt_of_lt_of_le HM.out.2.2.2 H2'.out.2.2.size
    have hst : Fst w.heap.size (w2.alloc (.cells #[.map (some w1.heap.size), .bool false, sC, .slice none 0 0, sL, .slice none 0 0, .slice none 0 0, .slice none 0 0, .int .i64 0, .bool false] 65)) w2.heap.size w1.heap.size 0 [] false := by
      have hle : w.heap.size ≤ (w1.alloc (.map #[] 0)).heap.size := Nat.le_trans HM.out.2.2.1 (Nat.le_of_lt HM.out.2.2.2)
      refine Fst.new hbx (by omega) HM.out.2.2.1 (HM.out.1.kept (hb1m.block _ HM.out.2.2.2)) (row_kept (row_mono H2'.out.1 hle) fun q hq => hb3.block q (World.ownsRow.lt H2'.out.1 q hq.symm).2) (row_kept (row_mono H2'.out.2.1 hle) fun q hq => hb3.block q (World.ownsRow.lt H2'.out.2.1 q hq.symm).2)
    have x3 : (w2.alloc (.cells #[.map (some w1.heap.size), .bool false, sC, .slice none 0 0, sL, .slice none 0 0, .slice none 0 0, .slice none 0 0, .int .i64 0, .bool false] 65)).cell? ⟨w.heap.size, 1, none⟩ = some (.slice a css.length cap) := (hb1m.cell (p := ⟨w.heap.size, 1, none⟩) (Nat.lt_trans hs1 HM.out.2.2.2)).trans x1m
    have H3 : Hid (Fst w.heap.size (w2.alloc (.cells #[.map (some w1.heap.size), .bool false, sC, .slice none 0 0, sL, .slice none 0 0, .slice none 0 0, .slice none 0 0, .int .i64 0, .bool false] 65)) w2.heap.size w1.heap.size 0 [] false ∧ Below w.heap.size w (w2.alloc (.cells #[.map (some w1.heap.size), .bool false, sC, .slice none 0 0, sL, .slice none 0 0, .slice none 0 0, .slice none 0 0, .int .i64 0, .bool false] 65))) := ⟨hst, Below.step HM.out.2.1 hb1m⟩
    clear hzz hbx hb3 hb1m hst x1m mk
    generalize w2.alloc (.cells #[.map (some w1.heap.size), .bool false, sC, .slice none 0 0, sL, .slice none 0 0, .slice none 0 0, .slice none 0 0, .int .i64 0, .bool false] 65) = w3 at *
    obtain ⟨b, hbe⟩ : ∃ b, w2.heap.size = b := ⟨_, rfl⟩
    obtain ⟨g, hge⟩ : ∃ g, w1.heap.size = g := ⟨_, rfl⟩
    rw [hbe, hge] at H3
    rw [hbe, hge]
    clear hbe hge hsz hs1
    go_wp2_with fail
    go_loopg [17] css.length (fun q iv wx => ∃ j : Nat, j + q = css.length ∧ iv = .int .i64 (j : Int) ∧ Fst w.heap.size wx b g j (((css.take j).map tid).reverse) false ∧ Below w.heap.size w wx)
    case atStart => exact ⟨0, by omega, rfl, H3.out.1, H3.out.2⟩
    case round =>
      obtain ⟨j, hj, rfl, hst, hbl⟩ := hrel
      have HJ : Hid (j + gk = css.length) := hj
      by_cases hlt : j < css.length
      · obtain ⟨bb, off, rfl, hbb, hcell⟩ := H2.out (fun e => by rw [e] at hlt; simp at hlt)
        obtain ⟨au, lu, cu, hu, hru⟩ : ∃ au lu cu, w.cell? ⟨bb, off + j, none⟩ = some (.slice au lu cu) ∧ Rd w (.slice au lu cu) (css.getD j []) := by
          obtain ⟨u, hu, hru⟩ := hcell j hlt
          obtain ⟨au, cu, eu, _⟩ := hru.form
          subst eu
          exact ⟨au, _, cu, hu, hru⟩
        have ku := (hbl.cell (p := ⟨bb, off + j, none⟩) hbb).trans hu
        have HTk : Hid (Calls Tryz.prog 37 #[.pointer (some ⟨b, 0, none⟩), .slice au lu cu] wr fun e w' => e = .returned (.tuple #[]) ∧ Fst w.heap.size w' b g (j + 1) (((css.take (j + 1)).map tid).reverse) false ∧ Below w.heap.size w w') := by
          refine (fTake_any wr _ (css.getD j []) hst (hru.below hbl) hbl.size (by omega) (by simp; omega)).mono fun e w' hh => ⟨hh.1, ?_, hbl.trans hh.2.2.bel⟩
          have e2 : ((css.take (j + 1)).map tid).reverse = tid (css.getD j []) :: ((css.take j).map tid).reverse := by
            rw [List.take_succ_eq_append_getElem hlt, List.map_append, List.reverse_append, List.getD_eq_getElem?_getD, List.getElem?_eq_getElem hlt]; rfl
          rw [e2]; exact hh.2.1
        clear hst hbl hcell hu hru hj hbb
        go_wp2_with (go_at_call 37; refine HTk.out.mono ?_; rintro e w6 ⟨rfl, g1, g2⟩; have H6 : Hid (Fst w.heap.size w6 b g (j + 1) (((css.take (j + 1)).map tid).reverse) false ∧ Below w.heap.size w w6) := ⟨g1, g2⟩; clear g1 g2)
        go_roundg (gk - 1)
        case measure => have := HJ.out; omega
        case rel => exact ⟨j + 1, by have := HJ.out; omega, by go_num, H6.out.1, H6.out.2⟩
      · have ej : j = css.length := by omega
        subst ej
        rw [List.take_length] at hst
        have H6 : Hid (Fst w.heap.size wr b g css.length ((css.map tid).reverse) false ∧ Below w.heap.size w wr) := ⟨hst, hbl⟩
        clear hst hbl hj
        go_wp2_with fail
        go_returns
        exact .inr ⟨HF.out, b, g, rfl, H6.out.1, H6.out.2⟩
end Go.Proofs.YtjajafeaengnjaaGreatDoor
set_option linter.unusedSimpArgs false
set_option linter.unusedVariables false
namespace Go.Proofs.YtjajafeaengnjaaGreatDoor
open Go Go.RowKit
/-- needed: in a clash, or by it something is known -/
def NeedA (A : List (List Int)) (c : List Int) : Prop := Cla A [] ∨ ∃ l ∈ c, Der A [] l ∧ ∀ m ∈ c, m ≠ l → Der A [] (-m)
theorem fls_perm {R c d : List Int} (p : c.Perm d) : fls R c = fls R d := by unfold fls; exact (p.filter _).length_eq
theorem Rs.need {n : Nat} {cl : Fcl} {lk : List (Nat × Nat)} {fs : List Nat} {ch : Nat → List Nat} {R c : List Int} {A : List (List Int)} {k : Nat} (h : Rs n cl lk fs ch R) (hs : SameC (cssOf cl) A) (hp : (lts cl k).Perm c) (h0 : c ≠ []) : (fls R c + 1 = c.length ↔ NeedA A c) ∧ (Need R (lts cl k) ↔ NeedA A c) := by
  have hne : lts cl k ≠ [] := fun e => h0 (by rw [e] at hp; exact hp.symm.eq_nil)
  have hin : lts cl k ∈ cssOf cl := mem_cssOf.2 ⟨hne, k, lts_in hne, rfl⟩
  have hR : ∀ x, x ∈ R ↔ Der A [] x := fun x => by
    rw [h.clos.1 x]
    exact ⟨fun q => q.mono hs.1 (by simp), fun q => q.mono hs.2 (by simp)⟩
  have hnc : ¬ Cla A [] := fun q => h.clos.2 (q.mono hs.2 (by simp))
  have e1 : Need R (lts cl k) ↔ NeedA A c := by
    rw [Need.congr (d := c) fun x => hp.mem_iff]
    constructor
    · rintro ⟨l, a, b, e⟩
      exact .inr ⟨l, a, (hR l).1 b, fun m hm hne => (hR _).1 (e m hm hne)⟩
    · rintro (q | ⟨l, a, b, e⟩)
      · exact absurd q hnc
      · exact ⟨l, a, (hR l).2 b, fun m hm hne => (hR _).2 (e m hm hne)⟩
  refine ⟨?_, e1⟩
  rw [← e1, ← fls_need (h.wa.nd k) h.rk.con (h.kd hin) hne, fls_perm hp, hp.length_eq]
section
variable {B b g N : Nat} {w W W' : World} {A : List (List Int)} {num : List Int → Nat} {T : List UInt8 → Option (Nat × Nat)} {D : Bool} {c : List Int} {v : Value}
theorem fNeeds_st (hw : Below w.heap.size w W) (hBw : B ≤ w.heap.size) (hc : Cst B w b g N A num D) (hm : Mh w g N T) (ho : Own w.heap.size W v c) (ht : Tdy c) (hin : c ∈ A) :
    Calls Tryz.prog 51 #[.pointer (some ⟨b, 1, none⟩), v] W fun e w' => ∃ nd : Bool, e = .returned (.bool nd) ∧ (nd = true ↔ NeedA A c) ∧ Below W.heap.size W w' := by
  have hlen : c.length ≤ 2097152 := by
    have := tid_len c
    rw [tid_id ht.1 ht.2] at this; exact this
  rcases hc with ⟨s, V, un, cl, n, R, ⟨lk, fs, ch, hz, hr, hf⟩, hu, hb, hM, hD, hcl, hpos⟩ | ⟨h, hcl⟩
  · have hzW := hz.below hw
    have hcro : Cro B W b s V v c := ⟨row_mono ho hBw, fun q hq e => by
      have h1 := (hz.lt q hq).2
      have h2 := (World.ownsRow.lt ho q e.symm).1
      omega⟩
    have hp := (hb.pos c hin).2
    refine (fNeeds_any W v hzW hcro (fun l hl => hr.wa.lit (num c) l (hp.mem_iff.2 hl)) hr.wa.ev hlen).mono fun e w' hh => ⟨_, hh.1, ?_, hh.2⟩
    rw [decide_eq_true_iff]
    exact (hr.need hb.same hp (hb.ne c hin)).1
  · refine (fNeeds_clash W v (h.below hw)).mono fun e w' hh => ⟨true, hh.1, ⟨fun _ => .inl hcl, fun _ => rfl⟩, hh.2⟩
theorem fLeave_st {N2 : Nat} (hBw : B ≤ W.heap.size) (hc : Cst B W b g N A num D) (hm : Mh W g N2 T) {T0 : List UInt8 → Option (Nat × Nat)} (hbk : Bok A T0 num) (hin : c ∈ A) (h1 : A.count c = 1) (hn : ¬ NeedA A c) (hN : N < 1073741822) :
    Calls Tryz.prog 52 #[.pointer (some ⟨b, 1, none⟩), .int .i32 (num c : Int)] W fun e w' => e = .returned (.tuple #[]) ∧ Cst B w' b g N (A.erase c) num D ∧ Mh w' g N2 T ∧ Bz B W w' := by
  rcases hc with ⟨s, V, un, cl, n, R, ⟨lk, fs, ch, hz, hr, hf⟩, hu, hb, hM, hD, hcl, hpos⟩ | ⟨h, hcl⟩
  · have hp := (hb.pos c hin).2
    have hnd := hr.need hb.same hp (hb.ne c hin)
    have hl2 : 2 ≤ (lts cl (num c)).length := by
      rw [hp.length_eq]
      match c, hb.ne c hin, hnd, hn, hp with
      | [], h0, _, _, _ => exact absurd rfl h0
      | [l], _, hnd, hn, hp =>
        refine absurd (hnd.2.1 ?_) hn
        have el : lts cl (num [l]) = [l] := hp.eq_singleton
        rw [el]
        exact ⟨l, by simp, hr.one _ l el, fun m hm hne => absurd (by simpa using hm) hne⟩
      | l :: m :: r, _, _, _, _ => simp
    have hul : un.length ≤ 1073741824 := by
      have h1 : un.length ≤ cl.length := nodup_len _ _ hu.1 fun x hx => ⟨(hu.2 x hx).1, Nat.le_of_lt (hu.2 x hx).2.1⟩
      omega
    refine (fLeave_any (num c) W ⟨lk, fs, ch, hz, hr, hf⟩ hu hl2 (fun q => hn (hnd.2.1 q)) (by omega) hBw hul).mono fun e w' hh => ?_
    obtain ⟨e1, s', V', hfre, hu', hsM, hsD, hmo⟩ := hh
    refine ⟨e1, .inl ⟨s', V', _, _, n, R, hfre, hu', hb.leave hbk hin h1, by rw [hsM, hM], by rw [hsD, hD], by rw [List.length_set]; exact hcl, by rw [List.length_set]; exact hpos⟩, hm.kept (hmo.block g hm.lt (hm.off hz)), Bz.mo hmo hBw fun q ho => ⟨(hz.lt q ho).1, hz.hm ho⟩⟩
  · exact absurd (.inl hcl) hn
end
end Go.Proofs.YtjajafeaengnjaaGreatDoor
set_option linter.unusedSimpArgs false
set_option linter.unusedVariables false
namespace Go.Proofs.YtjajafeaengnjaaGreatDoor
open Go Go.RowKit
open Classical in
/-- what Drop says and leaves -/
noncomputable def dropF (A : List (List Int)) (D : Bool) (c : List Int) : Int × Int × List (List Int) :=
  if rfI D c ≠ 0 then (0, rfI D c, A) else if tid c ∉ A then (0, 0, A) else if NeedA A (tid c) then (2, 0, A) else (1, 0, A.erase (tid c))
def DrS (B b g N : Nat) (D : Bool) (w : World) (q : Int × Int × List (List Int)) (e : Ending) (w' : World) : Prop :=
  e = .returned (.tuple #[.int .i64 q.1, .int .i64 q.2.1]) ∧ Fst B w' b g (N + 1) q.2.2 D ∧ Bz B w w'
theorem Cst.less {B b g N : Nat} {W : World} {A : List (List Int)} {num : List Int → Nat} {D : Bool} {c : List Int} (h : Cst B W b g N A num D) (h2 : 1 < A.count c) (hn : ¬ NeedA A c) : Cst B W b g N (A.erase c) num D := by
  rcases h with ⟨s, V, un, cl, n, R, hf, hu, hb, r⟩ | ⟨h, hcl⟩
  · refine .inl ⟨s, V, un, cl, n, R, hf, hu, ⟨fun d hd => hb.pos d (List.mem_of_mem_erase hd), fun k hk => ?_, fun d hd => hb.ne d (List.mem_of_mem_erase hd)⟩, r⟩
    obtain ⟨d, hd, e⟩ := hb.all k hk
    refine ⟨d, ?_, e⟩
    by_cases q : d = c
    · rw [q, ← List.count_pos_iff, List.count_erase_self]; omega
    · exact (List.mem_erase_of_ne q).2 hd
  · exact absurd (.inl hcl) hn
section
variable {B b g N : Nat} {A : List (List Int)} {D : Bool}
set_option maxRecDepth 100000 in
set_option maxHeartbeats 1600000 in
theorem fDrop_any (w : World) (vc : Value) (c0 : List Int) (h : Fst B w b g N A D) (hr : Rd w vc c0) (hB : B ≤ w.heap.size) (hN : N < 1073741822) (hA : A.length ≤ 1073741824) (hz0 : rfI D c0 = 0) :
    Calls Tryz.prog 38 #[.pointer (some ⟨b, 0, none⟩), vc] w fun e w' => DrS B b g N D w (dropF A D c0) e w' := by
  have hF := h
  obtain ⟨T, num, hm, hBg, hbk, hcs0⟩ := h
  have hcs : Cst B w b g N A num D := hcs0
  clear hcs0
  have hbx := hcs.box
  have HRf : Hid (Calls Tryz.prog 50 #[.pointer (some ⟨b, 0, none⟩), vc] w fun e w' => e = .returned (.int .i64 0) ∧ w' = w) := (fRefuse_any (W := w) vc w rfl hcs hr).mono fun e w' hh => ⟨by rw [hh.1, hz0], hh.2⟩
  have ht : Tdy (tid c0) := Tdy.tid c0
  have htl : (tid c0).length ≤ 2097152 := tid_len c0
  have HTi : Hid (Calls Tryz.prog 35 #[vc] w fun e w' => ∃ v', e = .returned v' ∧ Own w.heap.size w' v' (tid c0) ∧ Below w.heap.size w w') := tidy_any vc c0 w hr
  have HS : Hid (Mh w g N T ∧ B ≤ g ∧ Bok A T num ∧ Cst B w b g N A num D ∧ B ≤ w.heap.size ∧ N < 1073741822) := ⟨hm, hBg, hbk, hcs, hB, hN⟩
  have htx : (tx (tid c0)).length ≤ maxLen := by rw [tx_len]; unfold maxLen; omega
  have hlk := hbk.look ht
  have hdf : dropF A D c0 = (open Classical in if tid c0 ∉ A then (0, 0, A) else if NeedA A (tid c0) then (2, 0, A) else (1, 0, A.erase (tid c0))) := by unfold dropF; rw [if_neg (by rw [hz0]; simp)]
  rw [hdf]
  obtain ⟨c, hc⟩ : ∃ c, tid c0 = c := ⟨_, rfl⟩
  rw [hc] at ht htl htx hlk HTi ⊢
  have HT : Hid (Tdy c ∧ c.length ≤ 2097152 ∧ (tx c).length ≤ maxLen ∧ T (tx c) = if c ∈ A then some (A.count c, num c) else none) := ⟨ht, htl, htx, hlk⟩
  obtain ⟨av, cv, rfl, v1, v2, hcell⟩ := hr.form
  clear hF hm hBg hbk hcs hB hN hr ht htl htx hlk hc hcell v1 v2 hz0 hdf
  have b0 := hbx.1
  have hbl := hbx.2.1
  clear hbx
  generalize hq : (open Classical in if c ∉ A then ((0 : Int), (0 : Int), A) else if NeedA A c then (2, 0, A) else (1, 0, A.erase c)) = q
  have HQ : Hid ((open Classical in if c ∉ A then ((0 : Int), (0 : Int), A) else if NeedA A c then (2, 0, A) else (1, 0, A.erase c)) = q) := hq
  clear hq
  go_enter Tryz.func38, Tryz.ntmps38
  go_upto_region 5 with (first
    | (go_at_call 50; refine HRf.out.mono ?_; intro e w9 hh; rw [hh.1, hh.2]; clear hh e w9; dsimp only)
    | (go_at_call 35; refine HTi.out.mono ?_; rintro e w1 ⟨v', rfl, ho, hb1⟩; have H1 : Hid (Own w.heap.size w1 v' c ∧ Below w.heap.size w w1) := ⟨ho, hb1⟩; clear ho hb1))
  have HTx : Hid (Calls Tryz.prog 48 #[v'] w1 fun e w' => e = .returned (.string ⟨(tx c).toArray⟩) ∧ Below w1.heap.size w1 w') := fText_any v' c w1 (H1.out.1.rd (by have := HT.out.2.1; omega)) HT.out.1.2 HT.out.2.1
  obtain ⟨a1, c1, e1⟩ := own_form H1.out.1
  subst e1
  go_upto_region 6 with (go_at_call 48; refine HTx.out.mono ?_; rintro e w2 ⟨rfl, hb2⟩; have H2 : Hid (Below w1.heap.size w1 w2) := hb2; clear hb2)
  have hb02 : Below w.heap.size w w2 := Below.step H1.out.2 H2.out
  have b02 : w2.cell? ⟨b, 0, none⟩ = some (.map (some g)) := (hb02.cell (p := ⟨b, 0, none⟩) hbl).trans b0
  have hlt2 : b < w2.heap.size := Nat.lt_of_lt_of_le hbl hb02.size
  have hm2 : Mh w2 g N T := HS.out.1.kept (hb02.block g HS.out.1.lt)
  have hlook := hm2.look HT.out.2.2.1
  have HB2 : Hid (Below w.heap.size w w2 ∧ Mh w2 g N T) := ⟨hb02, hm2⟩
  clear hb02 hm2 b0
  unfold hV at hlook
  obtain ⟨t0, k0, i0, hti⟩ : ∃ t0 k0 i0, (((T (tx c)).getD (0, 0)).1 = t0 ∧ ((T (tx c)).getD (0, 0)).2 = k0 ∧ (T (tx c)).isSome = i0) := ⟨_, _, _, rfl, rfl, rfl⟩
  have HTI : Hid (((T (tx c)).getD (0, 0)).1 = t0 ∧ ((T (tx c)).getD (0, 0)).2 = k0 ∧ (T (tx c)).isSome = i0) := hti
  rw [hti.1, hti.2.1, hti.2.2] at hlook
  clear hti
  go_upto_region 9 with fail
  have hX : (w2.alloc (.cells #[.int .i64 (t0 : Int), .int .i32 (k0 : Int)] 75)).heap[w2.heap.size]? = some (.cells #[.int .i64 (t0 : Int), .int .i32 (k0 : Int)] 75 (0, 0)) := World.alloc_heap_new w2 _
  have hb3 := below_box w2 (.cells #[.int .i64 (t0 : Int), .int .i32 (k0 : Int)] 75)
  have b03 : (w2.alloc (.cells #[.int .i64 (t0 : Int), .int .i32 (k0 : Int)] 75)).cell? ⟨b, 0, none⟩ = some (.map (some g)) := (hb3.cell (p := ⟨b, 0, none⟩) hlt2).trans b02
  have hm3 : Mh (w2.alloc (.cells #[.int .i64 (t0 : Int), .int .i32 (k0 : Int)] 75)) g N T := HB2.out.2.kept (hb3.block g HB2.out.2.lt)
  have H3 : Hid ((w2.alloc (.cells #[.int .i64 (t0 : Int), .int .i32 (k0 : Int)] 75)).heap[w2.heap.size]? = some (.cells #[.int .i64 (t0 : Int), .int .i32 (k0 : Int)] 75 (0, 0)) ∧ Mh (w2.alloc (.cells #[.int .i64 (t0 : Int), .int .i32 (k0 : Int)] 75)) g N T ∧ Below w.heap.size w (w2.alloc (.cells #[.int .i64 (t0 : Int), .int .i32 (k0 : Int)] 75)) ∧ Own w.heap.size (w2.alloc (.cells #[.int .i64 (t0 : Int), .int .i32 (k0 : Int)] 75)) (.slice a1 c.length c1) c ∧ w.heap.size ≤ w2.heap.size ∧ some w2.heap.size ≠ (Value.slice a1 c.length c1).ownBlock) := by
    refine ⟨hX, hm3, Below.step HB2.out.1 hb3, row_kept H1.out.1 fun q hq => ?_, HB2.out.1.size, fun e => ?_⟩
    · have h1 := (World.ownsRow.lt H1.out.1 q hq.symm).2
      rw [hb3.block q (Nat.lt_of_lt_of_le h1 H2.out.size), H2.out.block q h1]
    · have h1 := (World.ownsRow.lt H1.out.1 _ e.symm).2
      have := H2.out.size
      omega
  have hlt3 := Nat.lt_of_lt_of_le hlt2 hb3.size
  have hX3 := (Array.getElem?_eq_some_iff.1 hX).1
  have hbX : b < w2.heap.size := hlt2
  clear hX hb3 hm3 b02 hlook
  generalize w2.alloc (.cells #[.int .i64 (t0 : Int), .int .i32 (k0 : Int)] 75) = w3 at *
  obtain ⟨X, hXe⟩ : ∃ X, w2.heap.size = X := ⟨_, rfl⟩
  rw [hXe] at H3 hX3 hbX ⊢
  clear hXe hlt2
  have hcnt : A.count c ≤ A.length := List.count_le_length
  have hne : b ≠ X := by omega
  by_cases hin : c ∈ A
  · have hTc := HT.out.2.2.2
    rw [if_pos hin] at hTc
    have h1 := HTI.out
    rw [hTc] at h1
    obtain ⟨h1, h2, h3⟩ := h1
    have h1 : A.count c = t0 := h1
    have h2 : num c = k0 := h2
    have h3 : true = i0 := h3
    have HNd : Hid (Calls Tryz.prog 51 #[.pointer (some ⟨b, 1, none⟩), .slice a1 c.length c1] w3 fun e w' => ∃ nd : Bool, e = .returned (.bool nd) ∧ (nd = true ↔ NeedA A c) ∧ Below w3.heap.size w3 w') := fNeeds_st H3.out.2.2.1 HS.out.2.2.2.2.1 HS.out.2.2.2.1 HS.out.1 H3.out.2.2.2.1 HT.out.1 hin
    have x0 : w3.cell? ⟨X, 0, none⟩ = some (.int .i64 (t0 : Int)) := box_cell H3.out.1 rfl
    have x1 : w3.cell? ⟨X, 1, none⟩ = some (.int .i32 (k0 : Int)) := box_cell H3.out.1 rfl
    have H12 : Hid (A.count c = t0 ∧ num c = k0 ∧ c ∈ A) := ⟨h1, h2, hin⟩
    subst h3
    clear h1 h2 hTc hin hcnt
    by_cases hnA : NeedA A c
    · have HQ2 : Hid (q = (2, 0, A)) := by
        show _ = _
        rw [← HQ.out, if_neg (fun e => e H12.out.2.2), if_pos hnA]
      have HNd2 : Hid (Calls Tryz.prog 51 #[.pointer (some ⟨b, 1, none⟩), .slice a1 c.length c1] w3 fun e w' => e = .returned (.bool true) ∧ Below w3.heap.size w3 w') := HNd.out.mono fun e w' hh => by
        obtain ⟨nd, e1, e2, e3⟩ := hh
        rw [e2.2 hnA] at e1
        exact ⟨e1, e3⟩
      clear hnA
      go_wp2_with (go_at_call 51; refine HNd2.out.mono ?_; rintro e w4 ⟨rfl, hb4⟩; have H4 : Hid (Below w3.heap.size w3 w4) := hb4; clear hb4)
      go_returns
      rw [HQ2.out]
      have hb := Below.step H3.out.2.2.1 H4.out
      exact ⟨rfl, Fst.mono ⟨T, num, HS.out.1.kept (hb.block g HS.out.1.lt), HS.out.2.1, HS.out.2.2.1, HS.out.2.2.2.1.kept HS.out.1 fun q hq _ _ => hb.block q hq⟩ (by omega), Bz.of hb HS.out.2.2.2.2.1⟩
    · have HQ2 : Hid (q = (1, 0, A.erase c)) := by
        show _ = _
        rw [← HQ.out, if_neg (fun e => e H12.out.2.2), if_neg hnA]
      have HnA : Hid (¬ NeedA A c) := hnA
      have HNd2 : Hid (Calls Tryz.prog 51 #[.pointer (some ⟨b, 1, none⟩), .slice a1 c.length c1] w3 fun e w' => e = .returned (.bool false) ∧ Below w3.heap.size w3 w') := HNd.out.mono fun e w' hh => by
        obtain ⟨nd, e1, e2, e3⟩ := hh
        cases nd
        · exact ⟨e1, e3⟩
        · exact absurd (e2.1 rfl) hnA
      clear hnA
      have ht1 : 1 ≤ t0 := by have := List.count_pos_iff.2 H12.out.2.2; have := H12.out.1; omega
      have hwt2 : IntKind.i64.wrap ((t0 : Int) - 1) = (t0 : Int) - 1 := by rw [IntKind.wrap_i64]; have := H12.out.1; have := List.count_le_length (a := c) (l := A); omega
      have hwt : wrap64 ((t0 : Int) - 1) = (t0 : Int) - 1 := by unfold wrap64; have := H12.out.1; have := List.count_le_length (a := c) (l := A); omega
      go_upto_region 13 with (go_at_call 51; refine HNd2.out.mono ?_; rintro e w4 ⟨rfl, hb4⟩; have H4 : Hid (Below w3.heap.size w3 w4) := hb4; have y0 : w4.cell? ⟨X, 0, none⟩ = some (.int .i64 (t0 : Int)) := (hb4.cell (p := ⟨X, 0, none⟩) hX3).trans x0; have y1 : w4.cell? ⟨X, 1, none⟩ = some (.int .i32 (k0 : Int)) := (hb4.cell (p := ⟨X, 1, none⟩) hX3).trans x1; have b04 : w4.cell? ⟨b, 0, none⟩ = some (.map (some g)) := (hb4.cell (p := ⟨b, 0, none⟩) hlt3).trans b03; clear hb4)
      have hb := Below.step H3.out.2.2.1 H4.out
      have hm4 : Mh w4 g N T := HS.out.1.kept (hb.block g HS.out.1.lt)
      have hc4 : Cst B w4 b g N A num D := HS.out.2.2.2.1.kept HS.out.1 fun q hq _ _ => hb.block q hq
      have hb4 : Bz B w w4 := Bz.of hb HS.out.2.2.2.2.1
      have hB4 : B ≤ w4.heap.size := Nat.le_trans HS.out.2.2.2.2.1 hb.size
      clear hb x0 x1 b03
      by_cases ht2 : 1 < t0
      · have hm4d : Mh w4.drew g N T := hm4.kept rfl
        obtain ⟨w7, r1, r2, r3⟩ := hm4d.put HT.out.2.2.1 (by unfold maxLen; have := HS.out.2.2.2.2.2; omega) (t0 - 1) k0
        have et : ((t0 - 1 : Nat) : Int) = (t0 : Int) - 1 := by omega
        unfold hV at r1
        rw [et] at r1
        have HFin : Hid (Fst B w7 b g (N + 1) (A.erase c) D ∧ Bz B w w7) := by
          refine ⟨⟨_, num, r2, HS.out.2.1, ?_, ?_⟩, hb4.drew.grown r3 hB4 HS.out.2.1 (Hm.map hm4d)⟩
          · have := HS.out.2.2.1.less H12.out.2.2 (by rw [H12.out.1]; exact ht2)
            rw [H12.out.1, H12.out.2.1] at this; exact this
          · have h5 : Cst B w7 b g N (A.erase c) num D := (hc4.less (by rw [H12.out.1]; exact ht2) HnA.out).kept hm4 fun q hq h1 _ => r3.block q hq (by simp; exact h1)
            rcases h5 with ⟨s, V, un, cl, n, R, h1, h2, h3, h4, h5, h6, h7⟩ | h
            · exact .inl ⟨s, V, un, cl, n, R, h1, h2, h3, h4, h5, by omega, h7⟩
            · exact .inr h
        clear hm4 hc4 hb4 hB4 hm4d r2 r3 et
        go_upto_region 14 with fail
        go_region_law (fail)
        all_goals
          go_wp2
          go_returns
          rw [HQ2.out]
          exact ⟨rfl, HFin.out⟩
      · have e1 : t0 = 1 := by omega
        obtain ⟨w5, r1, r2, r3⟩ := hm4.del HT.out.2.2.1 0
        have hc5 : Cst B w5 b g N A num D := hc4.kept hm4 fun q hq h1 _ => r3.block q hq (by simp; exact h1)
        have hgX : g ≠ X := fun e => by
          obtain ⟨D', ⟨es, clock, hbb, _⟩, _⟩ := H3.out.2.1
          rw [e, H3.out.1] at hbb; cases hbb
        have hX4 := Nat.lt_of_lt_of_le hX3 H4.out.size
        have z1 : w5.cell? ⟨X, 1, none⟩ = some (.int .i32 (k0 : Int)) := by
          have hh : w5.heap[X]? = w4.heap[X]? := r3.block X hX4 (by simp; exact fun e => hgX e.symm)
          rw [← y1]
          unfold World.cell?
          simp only [hh]
        have b05 := hc5.box.1
        have hb5 : Bz B w w5 := hb4.grown r3 hB4 HS.out.2.1 (Hm.map hm4)
        have HLv : Hid (Calls Tryz.prog 52 #[.pointer (some ⟨b, 1, none⟩), .int .i32 (k0 : Int)] w5.drew fun e w' => e = .returned (.tuple #[]) ∧ Fst B w' b g (N + 1) (A.erase c) D ∧ Bz B w w') := by
          have h5 := fLeave_st (W := w5.drew) (B := B) (b := b) (g := g) (N := N) (A := A) (num := num) (D := D) (c := c) (N2 := N) (T := upT T (tx c) none) (Nat.le_trans hB4 r3.size) (hc5.kept r2 fun q hq _ _ => rfl) (r2.kept rfl) HS.out.2.2.1 H12.out.2.2 (by rw [H12.out.1]; exact e1) HnA.out HS.out.2.2.2.2.2
          rw [H12.out.2.1] at h5
          refine h5.mono fun e w' hh => ⟨hh.1, Fst.mono ⟨_, num, hh.2.2.1, HS.out.2.1, HS.out.2.2.1.gone H12.out.2.2 (by rw [H12.out.1]; exact e1), hh.2.1⟩ (by omega), hb5.drew.trans hh.2.2.2⟩
        have HRun : Hid ((Builtin.delete_ #[56, 9] 0 #[.map (some g), .string ⟨(tx c).toArray⟩]).run Tryz.prog w4 = .ok (.tuple #[]) w5) := r1
        clear hm4 hc4 hb4 hB4 r2 r3 hc5 hb5
        go_upto_region 8 with fail
        go_region_law (go_simp; go_at_call 52; refine HLv.out.mono ?_; rintro e w6 ⟨rfl, g1, g2⟩; have H6 : Hid (Fst B w6 b g (N + 1) (A.erase c) D ∧ Bz B w w6) := ⟨g1, g2⟩; clear g1 g2; dsimp only)
        all_goals
          go_wp2
          go_returns
          rw [HQ2.out]
          exact ⟨rfl, H6.out⟩
  · have HQ2 : Hid (q = (0, 0, A)) := by
      show _ = _
      rw [← HQ.out, if_pos hin]
    have hTc := HT.out.2.2.2
    rw [if_neg hin] at hTc
    have h1 := HTI.out
    rw [hTc] at h1
    obtain ⟨h1, h2, h3⟩ := h1
    have h3 : false = i0 := h3
    subst h3
    clear h1 h2 hTc hin hcnt
    go_wp2_with fail
    go_returns
    rw [HQ2.out]
    have hb := H3.out.2.2.1
    exact ⟨rfl, Fst.mono ⟨T, num, HS.out.1.kept (hb.block g HS.out.1.lt), HS.out.2.1, HS.out.2.2.1, HS.out.2.2.2.1.kept HS.out.1 fun q hq _ _ => hb.block q hq⟩ (by omega), Bz.of hb HS.out.2.2.2.2.1⟩
end
end Go.Proofs.YtjajafeaengnjaaGreatDoor
set_option linter.unusedSimpArgs false
set_option linter.unusedVariables false
namespace Go.Proofs.YtjajafeaengnjaaGreatDoor
open Go Go.RowKit
section
variable {B b g N : Nat} {A : List (List Int)} {D : Bool}
set_option maxRecDepth 100000 in
set_option maxHeartbeats 1600000 in
theorem fDrop_all (w : World) (vc : Value) (c : List Int) (h : Fst B w b g N A D) (hr : Rd w vc c) (hB : B ≤ w.heap.size) (hN : N < 1073741822) (hA : A.length ≤ 1073741824) :
    Calls Tryz.prog 38 #[.pointer (some ⟨b, 0, none⟩), vc] w fun e w' => DrS B b g N D w (dropF A D c) e w' := by
  by_cases hz : rfI D c = 0
  · exact fDrop_any w vc c h hr hB hN hA hz
  · have h0 := h
    obtain ⟨T, num, hm, hBg, hbk, hc⟩ := h0
    have hcs : Cst B w b g N A num D := hc
    have HRf : Hid (Calls Tryz.prog 50 #[.pointer (some ⟨b, 0, none⟩), vc] w fun e w' => e = .returned (.int .i64 (rfI D c)) ∧ w' = w) := fRefuse_any (W := w) vc w rfl hcs hr
    have HAd : Hid (dropF A D c = (0, rfI D c, A)) := by
      show _ = _
      unfold dropF
      rw [if_pos hz]
    have HF : Hid (Fst B w b g N A D) := h
    obtain ⟨rf, hrf⟩ : ∃ rf, rfI D c = rf := ⟨_, rfl⟩
    rw [hrf] at hz HRf HAd
    obtain ⟨av, cv, rfl, v1, v2, hcell⟩ := hr.form
    clear h hr hB hN hA hm hBg hbk hc hcs hrf hcell v1 v2
    go_enter Tryz.func38, Tryz.ntmps38
    go_wp2_with (go_at_call 50; refine HRf.out.mono ?_; intro e w9 hh; rw [hh.1, hh.2]; clear hh e w9; dsimp only)
    go_returns
    rw [HAd.out]
    exact ⟨rfl, HF.out.mono (by omega), Bz.refl _ _⟩
end
end Go.Proofs.YtjajafeaengnjaaGreatDoor
set_option linter.unusedSimpArgs false
set_option linter.unusedVariables false
namespace Go.Proofs.YtjajafeaengnjaaGreatDoor
open Go Go.RowKit
theorem ins_le (z : Int) : ∀ l : List Int, (ins z l).length ≤ l.length + 1
  | [] => by simp [ins]
  | y :: r => by
    unfold ins
    have := ins_le z r
    split
    · simp
    · split <;> simp <;> omega
theorem tid_le : ∀ l : List Int, (tid l).length ≤ l.length
  | [] => by simp [tid]
  | z :: r => by
    have h1 := tid_le r
    have h2 := ins_le z (tid r)
    unfold tid
    split <;> simp <;> omega
/-- what end says of a step, what is there then, and whether it is done -/
noncomputable def endF (A : List (List Int)) (s : Stp) : Int × List (List Int) × Bool :=
  if s.1 then (if (dropF A false s.2).2.1 ≠ 0 then 5 else if (dropF A false s.2).1 = 0 then 3 else 0, (dropF A false s.2).2.2, false)
  else (if (addF A false s.2).2.1 ≠ 0 then 5 else if (addF A false s.2).1 = 0 then 2 else if (addF A false s.2).2.2.2 then 1 else 0, (addF A false s.2).2.2.1, (addF A false s.2).2.2.2)
noncomputable def chkF : List (List Int) → List Stp → Nat → Int × Nat
  | _, [], k => (4, k)
  | A, s :: r, k => if (endF A s).1 = 0 then chkF (endF A s).2.1 r (k + 1) else ((endF A s).1, k)
/-- what Check says of a formula: code, place, error -/
noncomputable def chk (v : Int) (css : List (List Int)) (l : List Stp) : Int × Nat × Int :=
  if frm v css then ((chkF ((css.map tid).reverse) l 0).1, (chkF ((css.map tid).reverse) l 0).2, 0) else (0, 0, 1)
theorem endF_ne (A : List (List Int)) (s : Stp) : (endF A s).1 ≠ 4 := by
  unfold endF
  split
  · dsimp only; split
    · decide
    · split <;> decide
  · dsimp only; split
    · decide
    · split
      · decide
      · split <;> decide
theorem lsum_one (a : List Int) (b : List (List Int)) : lsum (a :: b) = a.length + lsum b := by unfold lsum; simp
theorem lsum_erase (c : List Int) : ∀ A : List (List Int), lsum (A.erase c) ≤ lsum A
  | [] => by simp
  | a :: r => by
    have := lsum_erase c r
    rw [List.erase_cons]
    split
    · rw [lsum_one]; omega
    · rw [lsum_one, lsum_one]; omega
theorem lsum_rev (A : List (List Int)) : lsum A.reverse = lsum A := by unfold lsum; rw [List.map_reverse, List.sum_reverse]
theorem lsum_tid : ∀ A : List (List Int), lsum (A.map tid) ≤ lsum A
  | [] => by simp
  | a :: r => by
    have h1 := lsum_tid r
    have h2 := tid_le a
    rw [List.map_cons, lsum_one, lsum_one]; omega
theorem endF_len (A : List (List Int)) (s : Stp) : (endF A s).2.1.length ≤ A.length + 1 ∧ lsum (endF A s).2.1 ≤ lsum A + s.2.length := by
  have h1 := tid_le s.2
  have h2 := lsum_erase (tid s.2) A
  have h3 := List.length_erase_le (a := tid s.2) (l := A)
  unfold endF
  split
  · dsimp only
    unfold dropF
    split
    · dsimp only; omega
    · split
      · dsimp only; omega
      · split <;> dsimp only <;> omega
  · dsimp only
    unfold addF
    split
    · dsimp only; omega
    · split
      · dsimp only; omega
      · dsimp only; rw [lsum_one]; simp; omega
theorem endF_on (A : List (List Int)) (s : Stp) (h : (endF A s).1 = 0) : (endF A s).2.2 = false := by
  unfold endF at h ⊢
  split
  · rfl
  · rename_i hs
    rw [if_neg hs] at h
    dsimp only at h ⊢
    split at h
    · cases h
    · split at h
      · cases h
      · split at h
        · cases h
        · rename_i hh; simpa using hh
theorem chk_more : ∀ (x y : List Stp) (A : List (List Int)) (k : Nat), (chkF A x k).1 ≠ 4 → chkF A (x ++ y) k = chkF A x k
  | [], y, A, k, h => absurd rfl h
  | s :: r, y, A, k, h => by
    unfold chkF at h ⊢
    rw [List.cons_append]
    dsimp only at h ⊢
    split
    · rename_i e
      rw [if_pos e] at h
      exact chk_more r y _ _ h
    · rfl
theorem chk_at (A : List (List Int)) (l : List Stp) (i : Nat) (h : i < l.length) : chkF A (l.drop i) i = if (endF A (l.getD i (false, []))).1 = 0 then chkF (endF A (l.getD i (false, []))).2.1 (l.drop (i + 1)) (i + 1) else ((endF A (l.getD i (false, []))).1, i) := by
  have e : l.drop i = l.getD i (false, []) :: l.drop (i + 1) := by
    rw [List.drop_eq_getElem_cons h]; simp [List.getD_eq_getElem?_getD, h]
  rw [e, chkF]
/-- how many literals steps have -/
def lsZ (l : List Stp) : Nat := (l.map fun s => s.2.length).sum
theorem lsZ_at (l : List Stp) (i : Nat) (h : i < l.length) : lsZ (l.take (i + 1)) = lsZ (l.take i) + (l.getD i (false, [])).2.length := by
  unfold lsZ
  rw [List.take_succ_eq_append_getElem h, List.map_append, List.sum_append]
  simp [List.getD_eq_getElem?_getD, h]
theorem lsZ_take (l : List Stp) (i : Nat) : lsZ (l.take i) ≤ lsZ l := by
  have : lsZ l = lsZ (l.take i) + lsZ (l.drop i) := by
    unfold lsZ; rw [← List.sum_append, ← List.map_append, List.take_append_drop]
  omega
end Go.Proofs.YtjajafeaengnjaaGreatDoor
set_option linter.unusedSimpArgs false
set_option linter.unusedVariables false
namespace Go.Proofs.YtjajafeaengnjaaGreatDoor
open Go Go.RowKit

theorem fmd_var {x : Int} (h : fmd x = true) : varOf x ≤ 1048576 := by
  have := fmd_range h
  unfold varOf
  split <;> omega
theorem frm_max {Al : List (List Int)} (h : ∀ c ∈ Al, c.all fmd = true) : frm 1048576 Al = true := by
  unfold frm
  rw [Bool.and_eq_true]
  refine ⟨by decide, List.all_eq_true.2 fun c hc => ?_⟩
  unfold fitsP
  rw [List.all_eq_true]
  intro x hx
  have h1 := List.all_eq_true.1 (h c hc) x hx
  rw [h1, decide_eq_true (fmd_var h1)]
  rfl
theorem frm_sound {v : Int} {css : List (List Int)} (h : frm v css = true) : ∀ c ∈ css, c.all fmd = true := fun c hc => by
  unfold frm at h
  rw [Bool.and_eq_true] at h
  have h1 := List.all_eq_true.1 h.2 c hc
  unfold fitsP at h1
  rw [List.all_eq_true] at h1 ⊢
  intro x hx
  have h2 := h1 x hx
  rw [Bool.and_eq_true] at h2
  exact h2.1
theorem mem_tid_snd {c : List Int} (h : c.all fmd = true) (x : Int) : x ∈ tid c ↔ x ∈ c := by
  rw [mem_tid]
  exact ⟨fun q => q.1, fun q => ⟨q, List.all_eq_true.1 h x q⟩⟩
theorem out_perm : ∀ (L : List (List Int)) (j : Nat) (h : j < L.length), L.Perm (L[j] :: L.eraseIdx j)
  | [], j, h => absurd h (Nat.not_lt_zero _)
  | x :: r, 0, h => by simp
  | x :: r, j + 1, h => by
    have hr : j < r.length := by simpa using h
    have ih := out_perm r j hr
    rw [List.eraseIdx_cons_succ]
    show (x :: r).Perm (r[j] :: x :: r.eraseIdx j)
    exact (ih.cons x).trans (List.Perm.swap _ _ _)
/-- both have the same clauses -/
structure Rl (A Al : List (List Int)) : Prop where
  pm : A.Perm (Al.map tid)
  snd : ∀ c ∈ Al, c.all fmd = true
theorem Rl.start {css : List (List Int)} (h : ∀ c ∈ css, c.all fmd = true) : Rl ((css.map tid).reverse) css := ⟨List.reverse_perm _, h⟩
theorem Rl.same {A Al : List (List Int)} (h : Rl A Al) : SameC A Al := by
  refine ⟨fun c hc => ?_, fun c hc => ⟨tid c, h.pm.mem_iff.2 (List.mem_map.2 ⟨c, hc, rfl⟩), fun x => (mem_tid_snd (h.snd c hc) x).symm⟩⟩
  obtain ⟨d, hd, e⟩ := List.mem_map.1 (h.pm.mem_iff.1 hc)
  subst e
  exact ⟨d, hd, fun x => mem_tid_snd (h.snd d hd) x⟩
theorem Rl.add {A Al : List (List Int)} {c : List Int} (h : Rl A Al) (hc : c.all fmd = true) : Rl (tid c :: A) (Al ++ [c]) := by
  refine ⟨?_, fun d hd => ?_⟩
  · rw [List.map_append]
    exact (h.pm.cons _).trans (List.perm_append_comm (l₁ := [tid c]) (l₂ := Al.map tid))
  · rcases List.mem_append.1 hd with e | e
    · exact h.snd d e
    · rw [List.mem_singleton.1 e]; exact hc
theorem Rl.gone {A Al : List (List Int)} {t : List Int} {j : Nat} (h : Rl A Al) (hj : j < Al.length) (e : tid Al[j] = t) : Rl (A.erase t) (Al.eraseIdx j) := by
  refine ⟨?_, fun d hd => h.snd d (List.mem_of_mem_eraseIdx hd)⟩
  have h1 : (Al.map tid).Perm (t :: (Al.eraseIdx j).map tid) := by
    have h2 : Al.Perm (Al[j] :: Al.eraseIdx j) := out_perm Al j hj
    have h3 := h2.map tid
    rw [List.map_cons, e] at h3
    exact h3
  have h4 := (h.pm.trans h1).erase t
  rw [List.erase_cons_head] at h4
  exact h4
/-- by the clause something is known -/
def NeedR (Al : List (List Int)) (c : List Int) : Prop := Cla Al [] ∨ ∃ l ∈ c, Der Al [] l ∧ ∀ m ∈ c, m ≠ l → Der Al [] (-m)
theorem Rl.need {A Al : List (List Int)} {c : List Int} (h : Rl A Al) (hc : c.all fmd = true) : NeedA A (tid c) ↔ NeedR Al c := by
  have hs := h.same
  have hd : ∀ x, Der A [] x ↔ Der Al [] x := fun x => ⟨fun q => q.mono hs.1 (by simp), fun q => q.mono hs.2 (by simp)⟩
  have hcl : Cla A [] ↔ Cla Al [] := Cla.same hs fun _ => Iff.rfl
  unfold NeedA NeedR
  rw [hcl]
  constructor
  · rintro (q | ⟨l, q1, q2, q3⟩)
    · exact .inl q
    · exact .inr ⟨l, (mem_tid_snd hc l).1 q1, (hd l).1 q2, fun m hm hne => (hd _).1 (q3 m ((mem_tid_snd hc m).2 hm) hne)⟩
  · rintro (q | ⟨l, q1, q2, q3⟩)
    · exact .inl q
    · exact .inr ⟨l, (mem_tid_snd hc l).2 q1, (hd l).2 q2, fun m hm hne => (hd _).2 (q3 m ((mem_tid_snd hc m).1 hm) hne)⟩
/-- a literal that is known while the others of the clause are false -/
def gud (L c : List Int) (x : Int) : Prop := x ∈ L ∧ ∀ m ∈ c, m ≠ x → -m ∈ L
theorem needR_iff {Al : List (List Int)} {c L : List Int} (hn : ¬ Cla Al []) (hd : ∀ x, Der Al [] x ↔ x ∈ L) : NeedR Al c ↔ ∃ x ∈ c, gud L c x := by
  unfold NeedR gud
  constructor
  · rintro (q | ⟨l, q1, q2, q3⟩)
    · exact absurd q hn
    · exact ⟨l, q1, (hd l).1 q2, fun m hm hne => (hd _).1 (q3 m hm hne)⟩
  · rintro ⟨l, q1, q2, q3⟩
    exact .inr ⟨l, q1, (hd l).2 q2, fun m hm hne => (hd _).2 (q3 m hm hne)⟩
theorem mem_wout11 {t : List Int} {l x : Int} : x ∈ wout t l ↔ x ∈ t ∧ x ≠ l := by unfold wout; simp
theorem vl_one11 {L : List Int} {x : Int} : vl L x = 1 ↔ x ∈ L := by
  unfold vl
  by_cases h : x ∈ L
  · simp [h]
  · simp only [h, if_false, iff_false]
    split <;> decide
theorem vl_neg1 {L : List Int} {x : Int} (hc : Con L) : vl L x = -1 ↔ -x ∈ L := by
  unfold vl
  by_cases h : x ∈ L
  · simp only [h, if_true]
    exact ⟨fun e => absurd e (by decide), fun e => absurd e (hc x h)⟩
  · by_cases h2 : -x ∈ L
    · simp [h, h2]
    · simp [h, h2]
/-- where the last of the clauses stands that is the same, as far as one has looked -/
def lsK (Al : List (List Int)) (t : List Int) : Nat → Int
  | 0 => -1
  | k + 1 => if tid (Al.getD k []) = t then (k : Int) else lsK Al t k
theorem lsK_no {Al : List (List Int)} {t : List Int} : ∀ {k : Nat}, lsK Al t k < 0 → ∀ i, i < k → tid (Al.getD i []) ≠ t
  | 0, _, i, hi => absurd hi (Nat.not_lt_zero _)
  | k + 1, h, i, hi => by
    unfold lsK at h
    by_cases e : tid (Al.getD k []) = t
    · rw [if_pos e] at h; omega
    · rw [if_neg e] at h
      by_cases e2 : i = k
      · subst e2; exact e
      · exact lsK_no h i (by omega)
theorem lsK_yes {Al : List (List Int)} {t : List Int} : ∀ {k : Nat}, ¬ lsK Al t k < 0 → ∃ j : Nat, j < k ∧ lsK Al t k = j ∧ tid (Al.getD j []) = t
  | 0, h => absurd (show (-1 : Int) < 0 by decide) h
  | k + 1, h => by
    unfold lsK at h ⊢
    by_cases e : tid (Al.getD k []) = t
    · rw [if_pos e]; exact ⟨k, by omega, rfl, e⟩
    · rw [if_neg e] at h ⊢
      obtain ⟨j, h1, h2, h3⟩ := lsK_yes h
      exact ⟨j, by omega, h2, h3⟩
theorem lsK_rng (Al : List (List Int)) (t : List Int) : ∀ k : Nat, -1 ≤ lsK Al t k ∧ lsK Al t k < (k : Int)
  | 0 => by unfold lsK; omega
  | k + 1 => by
    have := lsK_rng Al t k
    unfold lsK
    split <;> omega
/-- all but the j-th, as far as one has gone -/
def lfK {T : Type} (L : List T) (j : Nat) (k : Nat) : List T := (L.take k).eraseIdx j
theorem lfK_all {T : Type} (L : List T) (j : Nat) : lfK L j L.length = L.eraseIdx j := by unfold lfK; rw [List.take_length]
theorem lfK_same {T : Type} {L : List T} {j k : Nat} (h : k < L.length) (e : k = j) : lfK L j (k + 1) = lfK L j k := by
  subst e
  unfold lfK
  have e1 : (L.take k ++ [L[k]]).eraseIdx k = L.take k := by
    rw [List.eraseIdx_append_of_length_le (by rw [List.length_take]; omega)]
    have : k - (L.take k).length = 0 := by rw [List.length_take]; omega
    rw [this]; simp
  have e2 : (L.take k).eraseIdx k = L.take k := List.eraseIdx_of_length_le (by rw [List.length_take]; omega)
  rw [List.take_succ_eq_append_getElem h, e1, e2]
theorem lfK_more {T : Type} {L : List T} {j k : Nat} (h : k < L.length) (e : k ≠ j) : lfK L j (k + 1) = lfK L j k ++ [L[k]] := by
  unfold lfK
  rw [List.take_succ_eq_append_getElem h]
  by_cases hj : j < k
  · rw [List.eraseIdx_append_of_lt_length (by rw [List.length_take]; omega)]
  · rw [List.eraseIdx_append_of_length_le (by rw [List.length_take]; omega), List.eraseIdx_of_length_le (l := L.take k) (by rw [List.length_take]; omega)]
    rw [List.eraseIdx_of_length_le (l := [L[k]]) (by rw [List.length_take]; simp; omega)]
theorem lfK_len {T : Type} (L : List T) (j k : Nat) : (lfK L j k).length ≤ k := by
  unfold lfK
  have h1 := List.length_eraseIdx_le (l := L.take k) (i := j)
  have h2 : (L.take k).length ≤ k := by rw [List.length_take]; omega
  omega
/-- the steps of Check, of a sound clause -/
theorem end_bad {A : List (List Int)} {s : Stp} (h : s.2.all fmd = false) : (endF A s).1 = 5 := by
  have h1 : ∀ D, rfI D s.2 = 1 := fun D => by unfold rfI; rw [h]; rfl
  unfold endF addF dropF
  cases s.1 <;> simp [h1]
theorem end_miss {A Al : List (List Int)} {c : List Int} (hr : Rl A Al) (hs : c.all fmd = true) (h : ∀ d ∈ Al, tid d ≠ tid c) : (endF A (true, c)).1 = 3 := by
  have h1 : rfI false c = 0 := by unfold rfI; rw [hs]; rfl
  have h2 : tid c ∉ A := fun hm => by
    obtain ⟨d, hd, e⟩ := List.mem_map.1 (hr.pm.mem_iff.1 hm)
    exact h d hd e
  unfold endF dropF
  simp [h1, h2]
theorem end_kept {A Al : List (List Int)} {c : List Int} (hr : Rl A Al) (hs : c.all fmd = true) (h : ∃ d ∈ Al, tid d = tid c) (hn : NeedR Al c) : (endF A (true, c)).1 = 0 ∧ (endF A (true, c)).2.1 = A := by
  have h1 : rfI false c = 0 := by unfold rfI; rw [hs]; rfl
  have h2 : tid c ∈ A := by
    obtain ⟨d, hd, e⟩ := h
    exact hr.pm.mem_iff.2 (List.mem_map.2 ⟨d, hd, e⟩)
  have h3 : NeedA A (tid c) := (hr.need hs).2 hn
  unfold endF dropF
  simp [h1, h2, h3]
theorem end_gone {A Al : List (List Int)} {c : List Int} (hr : Rl A Al) (hs : c.all fmd = true) (h : ∃ d ∈ Al, tid d = tid c) (hn : ¬ NeedR Al c) : (endF A (true, c)).1 = 0 ∧ (endF A (true, c)).2.1 = A.erase (tid c) := by
  have h1 : rfI false c = 0 := by unfold rfI; rw [hs]; rfl
  have h2 : tid c ∈ A := by
    obtain ⟨d, hd, e⟩ := h
    exact hr.pm.mem_iff.2 (List.mem_map.2 ⟨d, hd, e⟩)
  have h3 : ¬ NeedA A (tid c) := fun q => hn ((hr.need hs).1 q)
  unfold endF dropF
  simp [h1, h2, h3]
theorem end_none {A Al : List (List Int)} {c : List Int} (hr : Rl A Al) (hs : c.all fmd = true) (h : kndI Al c = 0) : (endF A (false, c)).1 = 2 := by
  have h1 : rfI false c = 0 := by unfold rfI; rw [hs]; rfl
  have h2 : kndI A c = 0 := (kndI_same hr.same c).trans h
  unfold endF addF
  simp [h1, h2]
theorem end_done {A Al : List (List Int)} (hr : Rl A Al) (h : kndI Al [] ≠ 0) : (endF A (false, [])).1 = 1 := by
  have h1 : rfI false [] = 0 := by decide
  have h2 : kndI A [] ≠ 0 := fun e => h ((kndI_same hr.same []).symm.trans e)
  unfold endF addF
  simp [h1, h2]
theorem end_add {A Al : List (List Int)} {c : List Int} (hr : Rl A Al) (hs : c.all fmd = true) (h : kndI Al c ≠ 0) (hc : c ≠ []) : (endF A (false, c)).1 = 0 ∧ (endF A (false, c)).2.1 = tid c :: A := by
  have h1 : rfI false c = 0 := by unfold rfI; rw [hs]; rfl
  have h2 : kndI A c ≠ 0 := fun e => h ((kndI_same hr.same c).symm.trans e)
  unfold endF addF
  simp [h1, h2, hc]
end Go.Proofs.YtjajafeaengnjaaGreatDoor
set_option linter.unusedSimpArgs false
set_option linter.unusedVariables false
namespace Go.Proofs.YtjajafeaengnjaaGreatDoor
open Go Go.RowKit

/-- the document's Forward in memory -/
structure Rf11 (B : Nat) (W : World) (b : Nat) (v : Value) (L : List Cls) (D : Bool) : Prop where
  box : Bx2 W b 52 v (.bool D)
  row : OwnR B W v L
  lo : B ≤ b
section
variable {B b : Nat} {W W' : World} {v : Value} {L : List Cls} {D : Bool}
theorem Rf11.below (h : Rf11 B W b v L D) (hb : Below W.heap.size W W') : Rf11 B W' b v L D := ⟨h.box.below hb, h.row.below hb, h.lo⟩
theorem Rf11.rds (h : Rf11 B W b v L D) (h1 : L.length * 24 ≤ 140737488351232) (h2 : ∀ x ∈ L, x.2.length * 8 ≤ 140737488351232) : Rds W v (L.map Prod.snd) :=
  OwnF.rds ⟨L, h.row, rfl⟩ (by simpa using h1) fun z hz => by
    obtain ⟨x, hx, e⟩ := List.mem_map.1 hz
    subst e
    exact h2 x hx
theorem ownr_form {B : Nat} {W : World} {v : Value} {L : List Cls} (h : OwnR B W v L) : ∃ a c, v = .slice a L.length c := row_form h.row
theorem below_up {B : Nat} {w W : World} (h : Below w.heap.size w W) (hB : B ≤ w.heap.size) : Below B w W := h.mono hB
end
set_option maxHeartbeats 800000 in
theorem rFml11_any (b : Nat) (va : Option Addr) (vn vk : Nat) (y : Value) (w : World) (h : Bx2 w b 52 (.slice va vn vk) y) :
    Calls Tryz.prog 29 #[.pointer (some ⟨b, 0, none⟩)] w fun e w' => e = .returned (.agg #[.int .i64 1048576, .slice va vn vk]) ∧ Below w.heap.size w w' := by
  have HB : Hid (Bx2 (w.alloc (.cells #[.int .i64 0, .slice none 0 0] 24)) w.heap.size 24 (.int .i64 0) (.slice none 0 0) ∧ Below w.heap.size w (w.alloc (.cells #[.int .i64 0, .slice none 0 0] 24))) := ⟨Bx2.new _ _ _ _, below_box _ _⟩
  have c0 := (h.below (below_box w (.cells #[.int .i64 0, .slice none 0 0] 24))).c0
  clear h
  go_enter Tryz.func29, Tryz.ntmps29
  go_upto_region 1 with fail
  generalize w.alloc (.cells #[.int .i64 0, .slice none 0 0] 24) = W at *
  have a0 := HB.out.1.c0
  have a1 := HB.out.1.c1
  have f0 := HB.out.1.f0
  have f1 := HB.out.1.f1
  go_wp2
  have hb := (HB.out.1.set0 (.int .i64 1048576)).set1 (.slice va vn vk)
  try simp only [Exit.inBlock, Exit.then]
  refine bodyPost_ret (results_cell_row rfl _ _ w.heap.size 24 #[.int .i64 1048576, .slice va vn vk] (0, 0) _ rfl hb Tryz.underlying24 rfl (by kernel_rfl)) rfl ?_
  exact ⟨rfl, below_set (below_set HB.out.2 (Nat.le_refl _) _ _) (Nat.le_refl _) _ _⟩

def Nw11 (w : World) (n : Int) (css : List (List Int)) (e : Ending) (w' : World) : Prop :=
  (frm n css = false ∧ e = .returned (.tuple #[.pointer none, .int .i64 1]) ∧ Below w.heap.size w w') ∨ (frm n css = true ∧ ∃ b v L, e = .returned (.tuple #[.pointer (some ⟨b, 0, none⟩), .int .i64 0]) ∧ Rf11 w.heap.size w' b v L false ∧ L.map Prod.snd = css ∧ Below w.heap.size w w')
set_option maxHeartbeats 800000 in
theorem rNew11_any (n : Int) (s : Value) (css : List (List Int)) (w : World) (hr : Rds w s css) :
    Calls Tryz.prog 15 #[.agg #[.int .i64 n, s]] w fun e w' => Nw11 w n css e w' := by
  have HX : Hid (Bx w n s css (w.alloc (.cells #[.int .i64 n, s] 24))) := Bx.new hr _
  have c0 := HX.out.c0
  have c1 := HX.out.c1
  clear hr
  cases hf : frm n css
  · have HF : Hid (∀ w', Below w.heap.size w w' → Nw11 w n css (.returned (.tuple #[.pointer none, .int .i64 1])) w') := fun w' h => .inl ⟨hf, rfl, h⟩
    have HFr : Hid (frm n css = false) := hf
    clear hf
    go_enter Tryz.func15, Tryz.ntmps15
    go_wp2_with fail
    refine (rFormed_any n s css _ HX.out.rd).mono ?_
    rw [HFr.out]
    rintro e w1 ⟨rfl, b1⟩
    have HB : Hid (Below w.heap.size w w1) := Below.step HX.out.bel b1
    clear b1
    go_wp2
    go_returns
    exact HF.out _ HB.out
  · have HFr : Hid (frm n css = true) := hf
    clear hf
    go_enter Tryz.func15, Tryz.ntmps15
    go_wp2_with fail
    refine (rFormed_any n s css _ HX.out.rd).mono ?_
    rw [HFr.out]
    rintro e w1 ⟨rfl, b1⟩
    have HX1 : Hid (Bx w n s css w1) := HX.out.on b1
    have d1 := HX1.out.c1
    clear b1 c0 c1
    go_wp2_with fail
    refine (copyClauses_any s css w1 HX1.out.rd).mono ?_
    rintro e w2 ⟨u, rfl, own2, b2⟩
    obtain ⟨ua, uc, hu⟩ := ownf_form own2
    subst hu
    obtain ⟨L, hL, hLs⟩ := own2
    have HN : Hid (Nw11 w n css (.returned (.tuple #[.pointer (some ⟨w2.heap.size, 0, none⟩), .int .i64 0])) (w2.alloc (.cells #[.slice ua css.length uc, .bool false] 52))) := by
      have h3 := Below.step HX1.out.bel b2
      exact .inr ⟨HFr.out, w2.heap.size, _, L, rfl, ⟨Bx2.new _ _ _ _, (hL.mono HX1.out.bel.size).below (below_box _ _), h3.size⟩, hLs, Below.step h3 (below_box _ _)⟩
    clear hL hLs b2
    go_wp2
    go_returns
    exact HN.out

def Ad11 (B : Nat) (w : World) (b : Nat) (v : Value) (L : List Cls) (c : List Int) (e : Ending) (w' : World) : Prop :=
  (kndI (L.map Prod.snd) c = 0 ∧ e = .returned (.tuple #[.int .i64 0, .int .i64 0]) ∧ Rf11 B w' b v L false ∧ Below B w w') ∨ (kndI (L.map Prod.snd) c ≠ 0 ∧ ∃ v' u, e = .returned (.tuple #[.int .i64 (kndI (L.map Prod.snd) c), .int .i64 0]) ∧ Rf11 B w' b v' (L ++ [(u, c)]) (decide (c = [])) ∧ Below B w w')
theorem add11 {B b : Nat} {w w4 w5 : World} {v v5 u : Value} {L : List Cls} {c : List Int} (h : Rf11 B w4 b v L false) (ho : Own B w4 u c) (hap : ApartC (L ++ [(u, c)])) (hb : Below w.heap.size w w4) (hs : B ≤ w.heap.size ∧ b < w.heap.size) (own5 : w5.ownsRow B 25 1 v5 (L.length + 1) (L.map Prod.fst ++ [u])) (gr5 : (w4.alloc (.cells #[u] 25)).grownBy w5 v.ownBlock) : OwnR B w5 v5 (L ++ [(u, c)]) ∧ Bx2 w5 b 52 v (.bool false) ∧ Below B w w5 := by
  have hsz := hb.size
  refine ⟨h.row.app (World.grownBy_alloc _ _ none) own5 gr5 ho hap, ?_, ?_⟩
  · exact (h.box.below (below_box w4 _)).kept gr5 ((h.box.below (below_box w4 (.cells #[u] 25))).not_row (by decide) (World.ownsRow.alloc h.row.row _))
  · exact ((hb.mono hs.1).alloc (by omega) _).grown gr5 (by simp; omega) (fun j hj => (World.ownsRow.lt h.row.row j hj).1)
theorem fin11 {B b : Nat} {w w5 : World} {v v5 u : Value} {L : List Cls} {c : List Int} {K : Int} {D' : Bool} (h : OwnR B w5 v5 (L ++ [(u, c)]) ∧ Bx2 w5 b 52 v (.bool false) ∧ Below B w w5) (hk : kndI (L.map Prod.snd) c = K) (hk0 : K ≠ 0) (hD : decide (c = []) = D') (hlo : B ≤ b) :
    Ad11 B w b v L c (.returned (.tuple #[.int .i64 K, .int .i64 0])) ((w5.setCell ⟨b, 0, none⟩ v5).setCell ⟨b, 1, none⟩ (.bool D')) := by
  refine .inr ⟨by rw [hk]; exact hk0, v5, u, by rw [hk], ⟨?_, ?_, hlo⟩, ?_⟩
  · rw [hD]; exact (h.2.1.set0 v5).set1 _
  · exact (h.1.set h.2.1 (by decide) (by decide) _ _).set (h.2.1.set0 v5) (by decide) (by decide) _ _
  · exact (h.2.2.setCell (p := ⟨b, 0, none⟩) hlo _).setCell (p := ⟨b, 1, none⟩) hlo _
theorem len_zero11 {c : List Int} : ((c.length : Int) == 0) = decide (c = []) := by cases c <;> simp <;> omega
set_option maxRecDepth 100000 in
set_option maxHeartbeats 1600000 in
theorem rAdd11_any (B b : Nat) (v vc : Value) (L : List Cls) (c : List Int) (w : World) (h : Rf11 B w b v L false) (hc : Rd w vc c) (hs : c.all fmd = true) (hsn : ∀ d ∈ L.map Prod.snd, d.all fmd = true) (hw : Few (L.map Prod.snd)) (hB : B ≤ w.heap.size) :
    Calls Tryz.prog 18 #[.pointer (some ⟨b, 0, none⟩), vc] w fun e w' => Ad11 B w b v L c e w' := by
  obtain ⟨il, hil, hzl0, hzl1, hzl2⟩ := info_parts infoR
  have hcl := hc.len
  have hnum : L.length ≤ 1073741824 := by have := hw.num; simpa using this
  have H8 : Hid (∀ x ∈ L, x.2.length * 8 ≤ 140737488351232) := fun x hx => by have := hw.len x.2 (List.mem_map.2 ⟨x, hx, rfl⟩); omega
  have HX : Hid (∀ W, Below w.heap.size w W → Rf11 B W b v L false ∧ Rd W vc c ∧ Rds W v (L.map Prod.snd)) := fun W hW => ⟨h.below hW, hc.below hW, (h.below hW).rds (by omega) H8.out⟩
  have hsp : shp 1048576 (L.map Prod.snd) c = true := by unfold shp; rw [frm_max hsn, hs]; rfl
  have HKd : Hid (∀ W, Below w.heap.size w W → Calls Tryz.prog 30 #[.agg #[.int .i64 1048576, v], vc] W fun e w' => e = .returned (.tuple #[.int .i64 (kndI (L.map Prod.snd) c), .int .i64 0]) ∧ Below W.heap.size W w') := fun W hW => by
    have h5 := rKind8_any 1048576 v vc (L.map Prod.snd) c W (HX.out W hW).2.2 (HX.out W hW).2.1 hw
    rw [kn8_yes hsp, hsp] at h5
    exact h5
  have HSd : Hid (Calls Tryz.prog 16 #[vc] w fun e w' => e = .returned (.bool true) ∧ w' = w) := by
    have h5 := refSound_any vc c w hc
    rw [hs] at h5
    exact h5
  have HBs : Hid (B ≤ w.heap.size ∧ b < w.heap.size) := ⟨hB, h.box.lt⟩
  obtain ⟨K, hK⟩ : ∃ K, kndI (L.map Prod.snd) c = K := ⟨_, rfl⟩
  have HK : Hid (kndI (L.map Prod.snd) c = K) := hK
  rw [hK] at HKd
  obtain ⟨va, vk, rfl⟩ := ownr_form h.row
  obtain ⟨ca, ck, rfl, hck, -, -⟩ := hc.form
  have x1 := h.box.c1
  clear h hc hs hsn hw hB hsp hK
  go_enter Tryz.func18, Tryz.ntmps18
  go_wp2_with fail
  refine HSd.out.mono ?_
  rintro e w0 ⟨rfl, e0⟩
  have e0 := e0.symm
  subst e0
  go_wp2_with fail
  refine (rFml11_any b va L.length vk _ w (HX.out _ (Below.refl _ _)).1.box).mono ?_
  rintro e w1 ⟨rfl, b1⟩
  have HB2 : Hid (Below w.heap.size w (w1.alloc (.cells #[.int .i64 1048576, .slice va L.length vk] 24))) := Below.step b1 (below_box _ _)
  clear b1 x1
  go_wp2_with fail
  generalize w1.alloc (.cells #[.int .i64 1048576, .slice va L.length vk] 24) = w2 at *
  refine (HKd.out w2 HB2.out).mono ?_
  rintro e w3 ⟨rfl, b3⟩
  have HB3 : Hid (Below w.heap.size w w3) := Below.step HB2.out b3
  clear b3 HKd HSd HB2
  by_cases hk0 : K = 0
  · subst hk0
    have HF : Hid (Ad11 B w b (.slice va L.length vk) L c (.returned (.tuple #[.int .i64 0, .int .i64 0])) w3) := .inl ⟨HK.out, rfl, (HX.out _ HB3.out).1, HB3.out.mono HBs.out.1⟩
    go_wp2
    go_returns
    exact HF.out
  · obtain ⟨D', hD'⟩ : ∃ D', decide (c = []) = D' := ⟨_, rfl⟩
    have HD' : Hid (decide (c = []) = D') := hD'
    have hl0 : ((c.length : Int) == 0) = D' := len_zero11.trans hD'
    clear hD'
    have hkb : (K == 0) = false := beq_eq_false_iff_ne.2 hk0
    have HK0 : Hid (K ≠ 0) := hk0
    clear hk0
    go_wp2_with fail
    refine (copyInts_any _ c w3 (HX.out _ HB3.out).2.1).mono ?_
    rintro e w4 ⟨u, rfl, own4, b4⟩
    obtain ⟨ua, uc, hu⟩ := own_form own4
    subst hu
    have HB4 : Hid (Below w.heap.size w w4) := Below.step HB3.out b4
    have HR4 : Hid (Rf11 B w4 b (.slice va L.length vk) L false) := (HX.out _ HB4.out).1
    have HO4 : Hid (Own B w4 (.slice ua c.length uc) c) := own4.mono (Nat.le_trans HBs.out.1 HB3.out.size)
    have HAp : Hid (ApartC (L ++ [(.slice ua c.length uc, c)])) := ApartC.snoc (HX.out _ HB3.out).1.row.ap (HX.out _ HB3.out).1.row.own own4 (Nat.le_refl _)
    have x0 := HR4.out.box.c0
    have x0' := (HR4.out.box.below (below_box w4 (.cells #[.slice ua c.length uc] 25))).c0
    clear own4 b4
    go_wp2_with (at_builtin; refine wpList_append_own _ rfl _ _ 22 rfl B 25 il (.slice none 0 0) 1 24 Tryz.underlying22 hil hzl0 hzl1 hzl2 rfl (by decide) _ L.length (L.map Prod.fst) rfl (World.ownsRow.alloc HR4.out.row.row _) _ 1 1 [.slice ua c.length uc] rfl rfl (cell_one_new _ _ _) (by simp [Value.oneCell']) (by unfold maxLen; omega) (by omega) (by have h5 := HBs.out.1; have h6 := HB4.out.size; simp; omega) ?_; intro v5 w5 own5 gr5 hn5; obtain ⟨a5, c5, hv5⟩ := row_form own5; subst hv5; have HR5 : Hid (OwnR B w5 (.slice a5 (L.length + 1) c5) (L ++ [(.slice ua c.length uc, c)]) ∧ Bx2 w5 b 52 (.slice va L.length vk) (.bool false) ∧ Below B w w5) := add11 HR4.out HO4.out HAp.out HB4.out HBs.out own5 gr5; have y0 := HR5.out.2.1.c0; have y1 := HR5.out.2.1.c1; have g0 := HR5.out.2.1.f0; have g1 := HR5.out.2.1.f1; have HFin : Hid (∀ X, X = (w5.setCell ⟨b, 0, none⟩ (.slice a5 (L.length + 1) c5)).setCell ⟨b, 1, none⟩ (.bool D') → Ad11 B w b (.slice va L.length vk) L c (.returned (.tuple #[.int .i64 K, .int .i64 0])) X) := (fun X eX => by subst eX; exact fin11 HR5.out HK.out HK0.out HD'.out HR4.out.lo); clear own5 gr5 hn5 x0 x0')
    go_returns
    exact HFin.out _ rfl
end Go.Proofs.YtjajafeaengnjaaGreatDoor
set_option linter.unusedSimpArgs false
set_option linter.unusedVariables false
namespace Go.Proofs.YtjajafeaengnjaaGreatDoor
open Go Go.RowKit

/-- what known says -/
def Kn11 (w : World) (Al : List (List Int)) (c : List Int) (e : Ending) (w' : World) : Prop := ∃ q : Bool, e = .returned (.bool q) ∧ (q = true ↔ NeedR Al c) ∧ Below w.heap.size w w'
/-- the others are false, as far as one has looked -/
def allK (L r : List Int) (j : Nat) : Bool := (r.take j).all fun m => decide (vl L m = -1)
theorem allK_more {L r : List Int} {j : Nat} (h : j < r.length) : allK L r (j + 1) = (allK L r j && decide (vl L (r.getD j 0) = -1)) := by
  unfold allK
  rw [List.take_succ_eq_append_getElem h, List.all_append]
  simp [List.getD_eq_getElem?_getD, h]
theorem allK_gud {L c : List Int} {x : Int} (hc : Con L) (hs : c.all fmd = true) (hx : x ∈ L) : allK L (wout (tid c) x) (wout (tid c) x).length = true ↔ gud L c x := by
  unfold allK
  rw [List.take_length, List.all_eq_true]
  constructor
  · intro h
    refine ⟨hx, fun m hm hne => ?_⟩
    have := h m (mem_wout11.2 ⟨(mem_tid_snd hs m).2 hm, hne⟩)
    exact (vl_neg1 hc).1 (of_decide_eq_true this)
  · rintro ⟨_, h⟩ m hm
    obtain ⟨h1, h2⟩ := mem_wout11.1 hm
    exact decide_eq_true ((vl_neg1 hc).2 (h m ((mem_tid_snd hs m).1 h1) h2))
theorem wout_len11 (c : List Int) (x : Int) : (wout (tid c) x).length ≤ 2097152 := Nat.le_trans (List.length_filter_le _ _) (tid_len c)
set_option maxRecDepth 100000 in
set_option maxHeartbeats 3200000 in
theorem rKnown11_any (B b : Nat) (v vc : Value) (L : List Cls) (c : List Int) (w : World) (h : Rf11 B w b v L false) (hc : Rd w vc c) (hs : c.all fmd = true) (hsn : ∀ d ∈ L.map Prod.snd, d.all fmd = true) (hw : Few (L.map Prod.snd)) :
    Calls Tryz.prog 28 #[.pointer (some ⟨b, 0, none⟩), vc] w fun e w' => Kn11 w (L.map Prod.snd) c e w' := by
  have hnum : L.length ≤ 1073741824 := by have := hw.num; simpa using this
  have H8 : Hid (∀ x ∈ L, x.2.length * 8 ≤ 140737488351232) := fun x hx => by have := hw.len x.2 (List.mem_map.2 ⟨x, hx, rfl⟩); omega
  have HX : Hid (∀ W, Below w.heap.size w W → Rf11 B W b v L false ∧ Rd W vc c ∧ Rds W v (L.map Prod.snd)) := fun W hW => ⟨h.below hW, hc.below hW, (h.below hW).rds (by omega) H8.out⟩
  have hcl := hc.len
  have HC : Hid (frm 1048576 (L.map Prod.snd) = true ∧ (L.map Prod.snd).length ≤ 1073741824 ∧ c.all fmd = true) := ⟨frm_max hsn, hw.num, hs⟩
  obtain ⟨va, vk, rfl⟩ := ownr_form h.row
  obtain ⟨ca, ck, rfl, hck, hcm, hcell⟩ := hc.form
  have HCe : Hid (∀ W, Below w.heap.size w W → ∀ k, k < c.length → ∃ g off, ca = some ⟨g, off, none⟩ ∧ W.cell? ⟨g, off + k, none⟩ = some (.int .i64 (c.getD k 0))) := fun W hW k hk => by
    obtain ⟨g, off, e, hce⟩ := hcell k hk
    exact ⟨g, off, e, (hW.cell (p := ⟨g, off + k, none⟩) (World.block_lt_of_cell? w _ hce)).trans hce⟩
  generalize hAl : L.map Prod.snd = Al at *
  clear h hc hs hsn hw hcell hAl
  go_enter Tryz.func28, Tryz.ntmps28
  go_wp2_with fail
  refine (rFml11_any b va L.length vk _ w (HX.out _ (Below.refl _ _)).1.box).mono ?_
  rintro e w1 ⟨rfl, b1⟩
  have HB2 : Hid (Below w.heap.size w (w1.alloc (.cells #[.int .i64 1048576, .slice va L.length vk] 24))) := Below.step b1 (below_box _ _)
  clear b1
  go_wp2_with fail
  generalize w1.alloc (.cells #[.int .i64 1048576, .slice va L.length vk] 24) = w2 at *
  refine (rClosing_any 1048576 _ (.slice none 0 0) Al [] w2 (HX.out _ HB2.out).2.2 (Rd.nil _) HC.out.1 rfl HC.out.2.1).mono ?_
  rintro e w3 ⟨g, clash, rfl, b3, hy, hn⟩
  have HB3 : Hid (Below w.heap.size w w3) := Below.step HB2.out b3
  generalize hT : (topL Al []).toNat = T at *
  cases clash
  · obtain ⟨K, hvz, hcon, hup, hncl, hder⟩ := hn rfl
    have hT2 : T ≤ 1048576 := by have := (top_range Al []).2.1; omega
    have HVz : Hid (∀ W, Below w3.heap.size w3 W → Rd W (.slice (some ⟨g, 0, none⟩) (T + 1) (T + 1)) (vsL T K)) := fun W hW => (hvz.below hW).rd hT2
    have HVl : Hid (∀ W l, Below w3.heap.size w3 W → fmd l = true → Calls Tryz.prog 42 #[.slice (some ⟨g, 0, none⟩) (T + 1) (T + 1), .int .i64 l] W fun e w' => e = .returned (.int .i64 (vl K l)) ∧ w' = W) := fun W l hW hl => rValue_any _ T K l W (HVz.out W hW) hT2 hl hcon (by
      by_cases hz : l.natAbs ≤ T
      · exact .inl hz
      · refine .inr ⟨fun hm => hz (hup l hm).2, fun hm => hz ?_⟩
        have := (hup _ hm).2
        rwa [Int.natAbs_neg] at this)
    have HNd : Hid (NeedR Al c ↔ ∃ x ∈ c, gud K c x) := needR_iff hncl hder
    have HCon : Hid (Con K) := hcon
    clear hy hn hvz hcon hup hncl hder b3 hT
    go_wp2
    go_loopg [8] c.length (fun q i' wr => ∃ k : Nat, k + q = c.length ∧ i' = .int .i64 k ∧ Below w3.heap.size w3 wr ∧ ∀ i, i < k → ¬ gud K c (c.getD i 0))
    case atStart => exact ⟨0, by omega, rfl, Below.refl _ _, fun i hi => absurd hi (Nat.not_lt_zero _)⟩
    case round =>
      obtain ⟨k, hk, rfl, hbw, hno⟩ := hrel
      have HKk : Hid (k + gk = c.length) := hk
      have HBw : Hid (Below w3.heap.size w3 wr) := hbw
      have HNo : Hid (∀ i, i < k → ¬ gud K c (c.getD i 0)) := hno
      clear hk hbw hno
      by_cases hlt : k < c.length
      · obtain ⟨gc, off, hca, hce⟩ := HCe.out wr (Below.step HB3.out HBw.out) k hlt
        subst hca
        have HX9 : Hid (c.getD k 0 ∈ c ∧ fmd (c.getD k 0) = true) := by
          have : c.getD k 0 ∈ c := getD_mem0 hlt
          exact ⟨this, List.all_eq_true.1 HC.out.2.2 _ this⟩
        have HN1 : Hid (¬ gud K c (c.getD k 0) → ∀ i, i < k + 1 → ¬ gud K c (c.getD i 0)) := fun hx i hi => by
          by_cases e : i = k
          · subst e; exact hx
          · exact HNo.out i (by omega)
        have HLT : Hid (k < c.length) := hlt
        clear HNo
        generalize c.getD k 0 = x at *
        go_wp2_with fail
        refine (HVl.out wr x HBw.out HX9.out.2).mono ?_
        rintro e w4 ⟨rfl, e4⟩
        have e4 := e4.symm
        subst e4
        by_cases hv : vl K x = 1
        · have hv2 : (vl K x == 1) = true := by rw [hv]; rfl
          have hxK : x ∈ K := vl_one11.1 hv
          have HxK : Hid (x ∈ K) := hxK
          rw [hv]
          clear hv hv2 hxK
          go_wp2_with fail
          refine (refWithout_any _ c x wr (HX.out _ (Below.step HB3.out HBw.out)).2.1).mono ?_
          rintro e w5 ⟨u, rfl, own5, b5⟩
          obtain ⟨ua, uc, hu⟩ := own_form own5
          subst hu
          have hrl := wout_len11 c x
          have HR5 : Hid (Rd w5 (.slice ua (wout (tid c) x).length uc) (wout (tid c) x)) := own5.rd (by omega)
          have HFm : Hid (∀ m ∈ wout (tid c) x, fmd m = true) := fun m hm => (mem_tid.1 (mem_wout11.1 hm).1).2
          have HGd : Hid (allK K (wout (tid c) x) (wout (tid c) x).length = true ↔ gud K c x) := allK_gud HCon.out HC.out.2.2 HxK.out
          have HB5 : Hid (Below w3.heap.size w3 w5) := Below.step HBw.out b5
          obtain ⟨_, _, hue, huk, _, hcell⟩ := HR5.out.form
          have HCr : Hid (∀ j, j < (wout (tid c) x).length → ∃ g2 o2, ua = some ⟨g2, o2, none⟩ ∧ w5.cell? ⟨g2, o2 + j, none⟩ = some (.int .i64 ((wout (tid c) x).getD j 0))) := fun j hj => by
            injection hue with q1 q2 q3
            rw [q1]
            exact hcell j hj
          have huc : (wout (tid c) x).length ≤ uc := by injection hue with q1 q2 q3; omega
          clear own5 b5 hcell hue huk
          generalize wout (tid c) x = r at *
          go_wp2
          generalize gk = G at *
          go_loopg [10, 11] r.length (fun q al j' wr => ∃ j : Nat, j + q = r.length ∧ j' = .int .i64 j ∧ al = .bool (allK K r j) ∧ wr = w5)
          case atStart => exact ⟨0, by omega, rfl, rfl, rfl⟩
          case round =>
            obtain ⟨j, hj, rfl, rfl, ewr⟩ := hrel
            subst ewr
            have HJ : Hid (j + gk = r.length) := hj
            clear hj
            by_cases hjr : j < r.length
            · obtain ⟨g2, o2, hua, hc2⟩ := HCr.out j hjr
              subst hua
              have HMf : Hid (fmd (r.getD j 0) = true) := HFm.out _ (getD_mem0 hjr)
              have HMo : Hid (allK K r (j + 1) = (allK K r j && decide (vl K (r.getD j 0) = -1))) := allK_more hjr
              have HJT : Hid (j < r.length) := hjr
              generalize r.getD j 0 = m at *
              go_wp2_with fail
              refine (HVl.out wr m HB5.out HMf.out).mono ?_
              rintro e w6 ⟨rfl, e6⟩
              have e6 := e6.symm
              subst e6
              by_cases hm : vl K m = -1
              · have HA : Hid (allK K r (j + 1) = allK K r j) := by show _ = _; rw [HMo.out, decide_eq_true hm, Bool.and_true]
                rw [hm]
                clear hm
                go_wp2
                go_roundg (gk - 1)
                case measure => have := HJ.out; have := HJT.out; omega
                case rel => exact ⟨j + 1, by have := HJ.out; have := HJT.out; omega, by go_num, by rw [HA.out], rfl⟩
              · have hmb : (vl K m == -1) = false := beq_eq_false_iff_ne.2 hm
                have HA : Hid (allK K r (j + 1) = false) := by show _ = _; rw [HMo.out, decide_eq_false hm, Bool.and_false]
                clear hm
                go_wp2
                go_roundg (gk - 1)
                case measure => have := HJ.out; have := HJT.out; omega
                case rel => exact ⟨j + 1, by have := HJ.out; have := HJT.out; omega, by go_num, by rw [HA.out], rfl⟩
            · obtain rfl : j = r.length := by have := HJ.out; omega
              cases hq : allK K r r.length
              · have HNg : Hid (∀ i, i < k + 1 → ¬ gud K c (c.getD i 0)) := HN1.out fun hg => by
                  have := HGd.out.2 hg
                  rw [hq] at this
                  cases this
                clear hq
                go_wp2
                go_roundg (G - 1)
                case measure => have := HKk.out; have := HLT.out; omega
                case rel => exact ⟨k + 1, by have := HKk.out; have := HLT.out; omega, by go_num, HB5.out, HNg.out⟩
              · have HF : Hid (Kn11 w Al c (.returned (.bool true)) wr) := ⟨true, rfl, ⟨fun _ => HNd.out.2 ⟨x, HX9.out.1, HGd.out.1 hq⟩, fun _ => rfl⟩, Below.step HB3.out HB5.out⟩
                clear hq
                go_wp2
                go_ret
                exact HF.out
        · have hvb : (vl K x == 1) = false := beq_eq_false_iff_ne.2 hv
          have HNg : Hid (∀ i, i < k + 1 → ¬ gud K c (c.getD i 0)) := HN1.out fun hg => hv (vl_one11.2 hg.1)
          clear hv
          go_wp2
          go_roundg (gk - 1)
          case measure => have := HKk.out; have := HLT.out; omega
          case rel => exact ⟨k + 1, by have := HKk.out; have := HLT.out; omega, by go_num, HBw.out, HNg.out⟩
      · obtain rfl : k = c.length := by have := HKk.out; omega
        have HF : Hid (Kn11 w Al c (.returned (.bool false)) wr) := by
          refine ⟨false, rfl, ⟨fun e => absurd e (by decide), fun hnd => ?_⟩, Below.step HB3.out HBw.out⟩
          obtain ⟨x, hx, hg⟩ := HNd.out.1 hnd
          obtain ⟨i, hi, e⟩ := List.getElem_of_mem hx
          exact absurd (by rw [List.getD_eq_getElem?_getD, List.getElem?_eq_getElem hi]; simp only [Option.getD_some]; rw [e]; exact hg) (HNo.out i hi)
        clear hlt
        go_wp2
        go_ret
        exact HF.out
  · have HF : Hid (Kn11 w Al c (.returned (.bool true)) w3) := ⟨true, rfl, ⟨fun _ => .inl (hy rfl), fun _ => rfl⟩, HB3.out⟩
    clear hy hn
    go_wp2
    go_ret
    exact HF.out
end Go.Proofs.YtjajafeaengnjaaGreatDoor
set_option linter.unusedSimpArgs false
set_option linter.unusedVariables false
namespace Go.Proofs.YtjajafeaengnjaaGreatDoor
open Go Go.RowKit

def Dr11 (B : Nat) (w : World) (b : Nat) (L : List Cls) (c : List Int) (e : Ending) (w' : World) : Prop :=
  ∃ (q : Int) (v' : Value) (L' : List Cls), e = .returned (.tuple #[.int .i64 q, .int .i64 0]) ∧ Rf11 B w' b v' L' false ∧ Below B w w' ∧
    ((q = 0 ∧ L' = L ∧ ∀ d ∈ L.map Prod.snd, tid d ≠ tid c) ∨ (q = 2 ∧ L' = L ∧ (∃ d ∈ L.map Prod.snd, tid d = tid c) ∧ NeedR (L.map Prod.snd) c) ∨ (q = 1 ∧ ¬ NeedR (L.map Prod.snd) c ∧ ∃ j, ∃ hj : j < L.length, tid (L[j]).2 = tid c ∧ L' = L.eraseIdx j))
theorem snd_getD {L : List Cls} {k : Nat} (h : k < L.length) : (L.map Prod.snd).getD k [] = (L[k]).2 := by
  rw [List.getD_eq_getElem?_getD, List.getElem?_map, List.getElem?_eq_getElem h]; rfl
theorem lsK_hit {Al : List (List Int)} {t : List Int} {k : Nat} (e : tid (Al.getD k []) = t) : lsK Al t (k + 1) = (k : Int) := by
  conv => lhs; unfold lsK
  exact if_pos e
theorem lsK_miss {Al : List (List Int)} {t : List Int} {k : Nat} (e : tid (Al.getD k []) ≠ t) : lsK Al t (k + 1) = lsK Al t k := by
  conv => lhs; unfold lsK
  exact if_neg e
theorem lf11 {w4 wr w5 : World} {L : List Cls} {j k zl : Nat} {hk : k < L.length} {lf v5 : Value} {a1 : Option Addr} {c1 : Nat} (h : wr.ownsRow w4.heap.size 25 1 lf (lfK L j k).length ((lfK L j k).map Prod.fst) ∧ Below w4.heap.size w4 wr) (hl : lfK L j (k + 1) = lfK L j k ++ [L[k]]) (h1 : (L[k]).1 = .slice a1 zl c1)
    (own5 : w5.ownsRow w4.heap.size 25 1 v5 ((lfK L j k).length + 1) ((lfK L j k).map Prod.fst ++ [.slice a1 zl c1])) (gr5 : (wr.alloc (.cells #[.slice a1 zl c1] 25)).grownBy w5 lf.ownBlock) : w5.ownsRow w4.heap.size 25 1 v5 (lfK L j (k + 1)).length ((lfK L j (k + 1)).map Prod.fst) ∧ Below w4.heap.size w4 w5 := by
  refine ⟨?_, ?_⟩
  · rw [hl, List.map_append, List.length_append]
    show w5.ownsRow _ _ 1 v5 ((lfK L j k).length + 1) ((lfK L j k).map Prod.fst ++ [(L[k]).1])
    rw [h1]; exact own5
  · have := h.2.size
    exact (h.2.alloc this _).grown gr5 (by simp; omega) (fun q hq => (World.ownsRow.lt h.1 q hq).1)
theorem left11 {B b j : Nat} {W : World} {v vl' : Value} {L : List Cls} (h : Rf11 B W b v L false) (hr : W.ownsRow B 25 1 vl' (L.eraseIdx j).length ((L.eraseIdx j).map Prod.fst)) : Rf11 B (W.setCell ⟨b, 0, none⟩ vl') b vl' (L.eraseIdx j) false := by
  have h2 : OwnR B W vl' (L.eraseIdx j) := ⟨hr, fun x hx => h.row.own x (List.mem_of_mem_eraseIdx hx), h.row.ap.sublist (List.eraseIdx_sublist _ _)⟩
  exact ⟨h.box.set0 vl', h2.set h.box (by decide) (by decide) _ _, h.lo⟩
set_option maxRecDepth 100000 in
set_option maxHeartbeats 3200000 in
theorem rDrop11_any (B b : Nat) (v vc : Value) (L : List Cls) (c : List Int) (w : World) (h : Rf11 B w b v L false) (hc : Rd w vc c) (hs : c.all fmd = true) (hsn : ∀ d ∈ L.map Prod.snd, d.all fmd = true) (hw : Few (L.map Prod.snd)) (hB : B ≤ w.heap.size) :
    Calls Tryz.prog 17 #[.pointer (some ⟨b, 0, none⟩), vc] w fun e w' => Dr11 B w b L c e w' := by
  obtain ⟨il, hil, hzl0, hzl1, hzl2⟩ := info_parts infoR
  have hnum : L.length ≤ 1073741824 := by have := hw.num; simpa using this
  have H8 : Hid (∀ x ∈ L, x.2.length * 8 ≤ 140737488351232) := fun x hx => by have := hw.len x.2 (List.mem_map.2 ⟨x, hx, rfl⟩); omega
  have HX : Hid (∀ W, Below w.heap.size w W → Rf11 B W b v L false ∧ Rd W vc c) := fun W hW => ⟨h.below hW, hc.below hW⟩
  have HC : Hid (c.all fmd = true ∧ (∀ d ∈ L.map Prod.snd, d.all fmd = true) ∧ Few (L.map Prod.snd) ∧ B ≤ w.heap.size) := ⟨hs, hsn, hw, hB⟩
  have HSd : Hid (Calls Tryz.prog 16 #[vc] w fun e w' => e = .returned (.bool true) ∧ w' = w) := by
    have h5 := refSound_any vc c w hc
    rw [hs] at h5
    exact h5
  obtain ⟨va, vk, rfl⟩ := ownr_form h.row
  have hvk : L.length ≤ vk := by
    by_cases h0 : L.length = 0
    · omega
    · obtain ⟨g, cap, e, h1, -, -⟩ := row_some h.row.row (by omega)
      injection e with _ _ e3
      omega
  have HRow : Hid (∀ W, Below w.heap.size w W → W.cell? ⟨b, 0, none⟩ = some (.slice va L.length vk) ∧ ∀ k (hk : k < L.length), ∃ g a1 c1, va = some ⟨g, 0, none⟩ ∧ (L[k]).1 = .slice a1 (L[k]).2.length c1 ∧ W.cell? ⟨g, k, none⟩ = some (.slice a1 (L[k]).2.length c1) ∧ Rd W (.slice a1 (L[k]).2.length c1) (L[k]).2) := fun W hW => by
    have h5 := (HX.out W hW).1
    refine ⟨h5.box.c0, fun k hk => ?_⟩
    obtain ⟨g, cap, e, h1, -, -⟩ := row_some h5.row.row (by omega)
    injection e with e1 _ e3
    subst e1; subst e3
    have ho := h5.row.own _ (List.getElem_mem hk)
    obtain ⟨a1, c1, e2⟩ := own_form ho
    have hcl := row_cell h5.row.row (j := k) (x := (L[k]).1) (by rw [List.getElem?_map, List.getElem?_eq_getElem hk]; rfl)
    rw [e2] at hcl ho
    exact ⟨g, a1, c1, rfl, e2, hcl, ho.rd (H8.out _ (List.getElem_mem hk))⟩
  obtain ⟨ca, ck, rfl, hck, -, -⟩ := hc.form
  have x1 := h.box.c1
  have HSn : Hid (∀ k (hk : k < L.length), ((L[k]).2.all fmd && c.all fmd && (tid (L[k]).2 == tid c)) = (tid (L[k]).2 == tid c)) := fun k hk => by
    rw [HC.out.1, HC.out.2.1 _ (List.mem_map.2 ⟨L[k], List.getElem_mem hk, rfl⟩)]; rfl
  clear h hc hs hsn hw hB
  go_enter Tryz.func17, Tryz.ntmps17
  go_wp2_with fail
  refine HSd.out.mono ?_
  rintro e w0 ⟨rfl, e0⟩
  have e0 := e0.symm
  subst e0
  go_wp2_with fail
  clear x1 HSd
  go_loopg [6, 7] L.length (fun q at' i' wr => ∃ k : Nat, k + q = L.length ∧ i' = .int .i64 k ∧ at' = .int .i64 (lsK (L.map Prod.snd) (tid c) k) ∧ Below w.heap.size w wr)
  case atStart => exact ⟨0, by omega, rfl, rfl, Below.refl _ _⟩
  case round =>
    obtain ⟨k, hk, rfl, rfl, hbw⟩ := hrel
    have HKk : Hid (k + gk = L.length) := hk
    have HBw : Hid (Below w.heap.size w wr) := hbw
    have x0 := (HRow.out wr hbw).1
    clear hk hbw
    by_cases hlt : k < L.length
    · obtain ⟨g, a1, c1, hva, hl1, hce, hrd⟩ := (HRow.out wr HBw.out).2 k hlt
      subst hva
      have hsn := HSn.out k hlt
      have hgd := snd_getD hlt
      generalize (L[k]).2 = z at *
      have HSm : Hid (Calls Tryz.prog 19 #[.slice a1 z.length c1, .slice ca c.length ck] wr fun e w' => e = .returned (.bool (tid z == tid c)) ∧ Below wr.heap.size wr w') := by
        have h5 := refSame_any _ _ _ _ wr hrd (HX.out wr HBw.out).2
        rw [hsn] at h5
        exact h5
      have HLT : Hid (k < L.length) := hlt
      have hrg := lsK_rng (L.map Prod.snd) (tid c) k
      have HGd : Hid ((L.map Prod.snd).getD k [] = z) := hgd
      clear hl1 hrd hsn hgd
      by_cases hq : tid z = tid c
      · have HLs2 : Hid (lsK (L.map Prod.snd) (tid c) (k + 1) = (k : Int)) := lsK_hit (by rw [HGd.out]; exact hq)
        rw [hq, show (tid c == tid c) = true by simp] at HSm
        clear hq
        generalize lsK (L.map Prod.snd) (tid c) k = at0 at *
        go_wp2_with fail
        refine HSm.out.mono ?_
        rintro e w1 ⟨rfl, b1⟩
        have HB1 : Hid (Below w.heap.size w w1) := Below.step HBw.out b1
        clear b1
        go_wp2
        go_roundg (gk - 1)
        case measure => have := HKk.out; have := HLT.out; omega
        case rel => exact ⟨k + 1, by have := HKk.out; have := HLT.out; omega, by go_num, by rw [HLs2.out], HB1.out⟩
      · have HLs2 : Hid (lsK (L.map Prod.snd) (tid c) (k + 1) = lsK (L.map Prod.snd) (tid c) k) := lsK_miss (by rw [HGd.out]; exact hq)
        rw [show (tid z == tid c) = false from beq_eq_false_iff_ne.2 hq] at HSm
        clear hq
        generalize lsK (L.map Prod.snd) (tid c) k = at0 at *
        go_wp2_with fail
        refine HSm.out.mono ?_
        rintro e w1 ⟨rfl, b1⟩
        have HB1 : Hid (Below w.heap.size w w1) := Below.step HBw.out b1
        clear b1
        go_wp2
        go_roundg (gk - 1)
        case measure => have := HKk.out; have := HLT.out; omega
        case rel => exact ⟨k + 1, by have := HKk.out; have := HLT.out; omega, by go_num, by rw [HLs2.out], HB1.out⟩
    · obtain rfl : k = L.length := by have := HKk.out; omega
      clear hlt HKk
      have hrg := lsK_rng (L.map Prod.snd) (tid c) L.length
      by_cases hat : lsK (L.map Prod.snd) (tid c) L.length < 0
      · have HF : Hid (Dr11 B w b L c (.returned (.tuple #[.int .i64 0, .int .i64 0])) wr) := ⟨0, _, L, rfl, (HX.out _ HBw.out).1, HBw.out.mono HC.out.2.2.2, .inl ⟨rfl, rfl, fun d hd => by
          obtain ⟨x, hx, e⟩ := List.mem_map.1 hd
          obtain ⟨i, hi, e2⟩ := List.getElem_of_mem hx
          have h5 := lsK_no hat i hi
          rw [snd_getD hi, e2, e] at h5
          exact h5⟩⟩
        generalize lsK (L.map Prod.snd) (tid c) L.length = at0 at *
        go_wp2
        go_returns
        exact HF.out
      · obtain ⟨j, hj, hje, hjt⟩ := lsK_yes hat
        rw [snd_getD hj] at hjt
        rw [hje]
        have HJt : Hid (tid (L[j]).2 = tid c) := hjt
        have HEx : Hid (∃ d ∈ L.map Prod.snd, tid d = tid c) := ⟨(L[j]).2, List.mem_map.2 ⟨L[j], List.getElem_mem hj, rfl⟩, hjt⟩
        clear hat hje hjt hrg
        go_wp2_with fail
        refine (rKnown11_any B b _ _ L c wr (HX.out _ HBw.out).1 (HX.out _ HBw.out).2 HC.out.1 HC.out.2.1 HC.out.2.2.1).mono ?_
        rintro e w4 ⟨q, rfl, hq, b4⟩
        have HB4 : Hid (Below w.heap.size w w4) := Below.step HBw.out b4
        clear b4 x0
        cases q
        · have HNn : Hid (¬ NeedR (L.map Prod.snd) c) := fun hn => by have := hq.2 hn; cases this
          clear hq
          have HSz : Hid (w.heap.size ≤ w4.heap.size) := HB4.out.size
          have HJ : Hid (j < L.length) := hj
          go_wp2
          generalize gk = G at *
          go_loopg [8, 9] L.length (fun q lf i' wr => ∃ (k : Nat) (la : Option Addr) (lk : Nat), k + q = L.length ∧ i' = .int .i64 k ∧ lf = .slice la (lfK L j k).length lk ∧ Hid (wr.ownsRow w4.heap.size 25 1 (.slice la (lfK L j k).length lk) (lfK L j k).length ((lfK L j k).map Prod.fst) ∧ Below w4.heap.size w4 wr))
          case atStart => exact ⟨0, none, 0, by omega, rfl, by unfold lfK; simp, by unfold lfK; simpa using World.ownsRow_nil _ _ _ _, Below.refl _ _⟩
          case round =>
            obtain ⟨k, la, lk, hk, rfl, rfl, HO⟩ := hrel
            have HKk : Hid (k + gk = L.length) := hk
            have HBr : Hid (Below w.heap.size w wr) := Below.step HB4.out HO.out.2
            have x0 := (HRow.out wr HBr.out).1
            have hll := lfK_len L j k
            clear hk
            by_cases hlt : k < L.length
            · obtain ⟨g, a1, c1, hva, hl1, hce, hrd⟩ := (HRow.out wr HBr.out).2 k hlt
              subst hva
              have HLT : Hid (k < L.length) := hlt
              by_cases hkj : k = j
              · have HLf : Hid (lfK L j (k + 1) = lfK L j k) := lfK_same hlt hkj
                have hb2 : ((k : Int) == (j : Int)) = true := by rw [hkj]; simp
                clear hl1 hrd hkj
                go_wp2
                go_roundg (gk - 1)
                case measure => have := HKk.out; have := HLT.out; omega
                case rel => exact ⟨k + 1, la, lk, by have := HKk.out; have := HLT.out; omega, by go_num, by rw [HLf.out], by show _ ∧ _; rw [HLf.out]; exact HO.out⟩
              · have HLf : Hid (lfK L j (k + 1) = lfK L j k ++ [L[k]]) := lfK_more hlt hkj
                have hb2 : ((k : Int) == (j : Int)) = false := beq_eq_false_iff_ne.2 (by omega)
                have HLl : Hid ((lfK L j (k + 1)).length = (lfK L j k).length + 1) := by show _ = _; rw [HLf.out]; simp
                have HL1 : Hid ((L[k]).1 = .slice a1 (L[k]).2.length c1) := hl1
                clear hl1 hrd hkj
                generalize (L[k]).2.length = zl at *
                have hszr : w4.heap.size ≤ wr.heap.size := HO.out.2.size
                go_wp2_with (at_builtin; refine wpList_append_own _ rfl _ _ 22 rfl w4.heap.size 25 il (.slice none 0 0) 1 24 Tryz.underlying22 hil hzl0 hzl1 hzl2 rfl (by decide) _ (lfK L j k).length ((lfK L j k).map Prod.fst) rfl (World.ownsRow.alloc HO.out.1 _) _ 1 1 [.slice a1 zl c1] rfl rfl (cell_one_new _ _ _) (by simp [Value.oneCell']) (by unfold maxLen; omega) (by omega) (by simp; omega) ?_; intro v5 w5 own5 gr5 hn5; obtain ⟨a5, c5, hv5⟩ := row_form own5; subst hv5; have HO5 : Hid (w5.ownsRow w4.heap.size 25 1 (.slice a5 ((lfK L j k).length + 1) c5) (lfK L j (k + 1)).length ((lfK L j (k + 1)).map Prod.fst) ∧ Below w4.heap.size w4 w5) := lf11 HO.out HLf.out HL1.out own5 gr5; clear own5 gr5 hn5)
                go_roundg (gk - 1)
                case measure => have := HKk.out; have := HLT.out; omega
                case rel => exact ⟨k + 1, a5, c5, by have := HKk.out; have := HLT.out; omega, by go_num, by rw [HLl.out], by show _ ∧ _; have h5 := HO5.out; rw [← HLl.out] at h5; exact h5⟩
            · obtain rfl : k = L.length := by have := HKk.out; omega
              have x2 := (HX.out wr HBr.out).1.box.f0
              have HF : Hid (∀ X, X = wr.setCell ⟨b, 0, none⟩ (.slice la (lfK L j L.length).length lk) → Dr11 B w b L c (.returned (.tuple #[.int .i64 1, .int .i64 0])) X) := fun X eX => by
                subst eX
                have h5 := (HX.out wr HBr.out).1
                have h6 := row_mono HO.out.1 (Nat.le_trans HC.out.2.2.2 HSz.out)
                rw [lfK_all] at h6
                refine ⟨1, _, L.eraseIdx j, rfl, by rw [lfK_all]; exact left11 h5 h6, (HBr.out.mono HC.out.2.2.2).setCell (p := ⟨b, 0, none⟩) h5.lo _, .inr (.inr ⟨rfl, HNn.out, j, HJ.out, HJt.out, rfl⟩)⟩
              clear hlt
              go_wp2
              go_returns
              exact HF.out _ rfl
        · have HF : Hid (Dr11 B w b L c (.returned (.tuple #[.int .i64 2, .int .i64 0])) w4) := ⟨2, _, L, rfl, (HX.out _ HB4.out).1, HB4.out.mono HC.out.2.2.2, .inr (.inl ⟨rfl, rfl, HEx.out, hq.1 rfl⟩)⟩
          clear hq
          go_wp2
          go_returns
          exact HF.out
end Go.Proofs.YtjajafeaengnjaaGreatDoor
set_option linter.unusedSimpArgs false
set_option linter.unusedVariables false
namespace Go.Proofs.YtjajafeaengnjaaGreatDoor
open Go Go.RowKit

/-- whether a step is taken, what is there then, and whether it is done -/
noncomputable def tkF (A : List (List Int)) (D : Bool) (s : Stp) : Bool × List (List Int) × Bool :=
  if s.1 then (decide ((dropF A D s.2).2.1 = 0) && decide ((dropF A D s.2).1 ≠ 0), (dropF A D s.2).2.2, D)
  else (decide ((addF A D s.2).2.1 = 0) && decide ((addF A D s.2).1 = 1), (addF A D s.2).2.2.1, (addF A D s.2).2.2.2)
/-- whether all steps are -/
noncomputable def folA : List (List Int) → Bool → List Stp → Bool
  | _, _, [] => true
  | A, D, s :: r => (tkF A D s).1 && folA (tkF A D s).2.1 (tkF A D s).2.2 r
theorem folA_at (A : List (List Int)) (D : Bool) (l : List Stp) (i : Nat) (h : i < l.length) : folA A D (l.drop i) = ((tkF A D (l.getD i (false, []))).1 && folA (tkF A D (l.getD i (false, []))).2.1 (tkF A D (l.getD i (false, []))).2.2 (l.drop (i + 1))) := by
  have e : l.drop i = l.getD i (false, []) :: l.drop (i + 1) := by
    rw [List.drop_eq_getElem_cons h]; simp [List.getD_eq_getElem?_getD, h]
  rw [e, folA]
theorem tkF_len (A : List (List Int)) (D : Bool) (s : Stp) : (tkF A D s).2.1.length ≤ A.length + 1 ∧ lsum (tkF A D s).2.1 ≤ lsum A + s.2.length := by
  have h1 := tid_le s.2
  have h2 := lsum_erase (tid s.2) A
  have h3 := List.length_erase_le (a := tid s.2) (l := A)
  unfold tkF
  split
  · dsimp only
    unfold dropF
    split
    · dsimp only; omega
    · split
      · dsimp only; omega
      · split <;> dsimp only <;> omega
  · dsimp only
    unfold addF
    split
    · dsimp only; omega
    · split
      · dsimp only; omega
      · dsimp only; rw [lsum_one]; simp; omega
/-- both lists are sound, and the same as sets -/
def smT (a b : List Int) : Bool := a.all fmd && b.all fmd && (tid a == tid b)
/-- the last step -/
def lstS (l : List Stp) : Stp := l.getD (l.length - 1) (false, [])
/-- whether the last step adds the clause -/
def endB (l : List Stp) (c : List Int) : Bool := decide (l ≠ []) && !(lstS l).1 && smT (lstS l).2 c
/-- what Holds says -/
noncomputable def hldH (v : Int) (css : List (List Int)) (fl : List Int) (l : List Stp) : Bool := frm v css && fl.all fmd && endB l (opp fl) && folA ((css.map tid).reverse) false l
/-- steps of a sound clause -/
theorem tk_no {A : List (List Int)} {D : Bool} {s : Stp} (h : rfI D s.2 ≠ 0) : (tkF A D s).1 = false := by
  unfold tkF dropF addF
  split <;> simp [h]
theorem rf_no {D : Bool} {c : List Int} (h : rfI D c = 0) : c.all fmd = true ∧ D = false := by
  unfold rfI at h
  split at h
  · rename_i e
    split at h
    · cases h
    · rename_i e2; exact ⟨e, by simpa using e2⟩
  · cases h
theorem tk_miss {A Al : List (List Int)} {c : List Int} (hr : Rl A Al) (hs : c.all fmd = true) (h : ∀ d ∈ Al, tid d ≠ tid c) : (tkF A false (true, c)).1 = false := by
  have h1 : rfI false c = 0 := by unfold rfI; rw [hs]; rfl
  have h2 : tid c ∉ A := fun hm => by
    obtain ⟨d, hd, e⟩ := List.mem_map.1 (hr.pm.mem_iff.1 hm)
    exact h d hd e
  unfold tkF dropF
  simp [h1, h2]
theorem tk_kept {A Al : List (List Int)} {c : List Int} (hr : Rl A Al) (hs : c.all fmd = true) (h : ∃ d ∈ Al, tid d = tid c) (hn : NeedR Al c) : tkF A false (true, c) = (true, A, false) := by
  have h1 : rfI false c = 0 := by unfold rfI; rw [hs]; rfl
  have h2 : tid c ∈ A := by
    obtain ⟨d, hd, e⟩ := h
    exact hr.pm.mem_iff.2 (List.mem_map.2 ⟨d, hd, e⟩)
  have h3 : NeedA A (tid c) := (hr.need hs).2 hn
  unfold tkF dropF
  simp [h1, h2, h3]
theorem tk_gone {A Al : List (List Int)} {c : List Int} (hr : Rl A Al) (hs : c.all fmd = true) (h : ∃ d ∈ Al, tid d = tid c) (hn : ¬ NeedR Al c) : tkF A false (true, c) = (true, A.erase (tid c), false) := by
  have h1 : rfI false c = 0 := by unfold rfI; rw [hs]; rfl
  have h2 : tid c ∈ A := by
    obtain ⟨d, hd, e⟩ := h
    exact hr.pm.mem_iff.2 (List.mem_map.2 ⟨d, hd, e⟩)
  have h3 : ¬ NeedA A (tid c) := fun q => hn ((hr.need hs).1 q)
  unfold tkF dropF
  simp [h1, h2, h3]
theorem tk_none {A Al : List (List Int)} {c : List Int} (hr : Rl A Al) (hs : c.all fmd = true) (h : kndI Al c ≠ 1) : (tkF A false (false, c)).1 = false := by
  have h1 : rfI false c = 0 := by unfold rfI; rw [hs]; rfl
  have h2 : kndI A c ≠ 1 := fun e => h ((kndI_same hr.same c).symm.trans e)
  unfold tkF addF
  by_cases h0 : kndI A c = 0 <;> simp [h1, h2, h0]
theorem tk_add {A Al : List (List Int)} {c : List Int} (hr : Rl A Al) (hs : c.all fmd = true) (h : kndI Al c = 1) : tkF A false (false, c) = (true, tid c :: A, decide (c = [])) := by
  have h1 : rfI false c = 0 := by unfold rfI; rw [hs]; rfl
  have h2 : kndI A c = 1 := (kndI_same hr.same c).trans h
  unfold tkF addF
  simp [h1, h2]
end Go.Proofs.YtjajafeaengnjaaGreatDoor
set_option linter.unusedSimpArgs false
set_option linter.unusedVariables false
namespace Go.Proofs.YtjajafeaengnjaaGreatDoor
open Go Go.RowKit
theorem endB_nil (c : List Int) : endB [] c = false := rfl
theorem endB_some {l : List Stp} (c : List Int) (h : 0 < l.length) : endB l c = (!(l.getD (l.length - 1) (false, [])).1 && smT (l.getD (l.length - 1) (false, [])).2 c) := by
  have : l ≠ [] := fun e => by rw [e] at h; cases h
  unfold endB lstS
  rw [decide_eq_true this, Bool.true_and]
set_option maxRecDepth 100000 in
set_option maxHeartbeats 1600000 in
theorem endsWith_any (vl vc : Value) (l : List Stp) (c : List Int) (w : World) (hl : RdZ w vl l) (hc : Rd w vc c) :
    Calls Tryz.prog 11 #[vl, vc] w fun e w' => e = .returned (.bool (endB l c)) ∧ Below w.heap.size w w' := by
  have h8 := hl.len
  obtain ⟨al, cl, rfl, hcl, hml, hcell⟩ := hl.form
  obtain ⟨ca, ck, rfl, -⟩ := hc.form
  by_cases h0 : l.length = 0
  · have HE : Hid (endB l c = false) := by
      show _ = _
      rw [List.eq_nil_of_length_eq_zero h0]; rfl
    clear hl hc hcell
    rw [h0]
    go_enter Tryz.func11, Tryz.ntmps11
    go_wp2_with fail
    go_ret
    exact ⟨by rw [HE.out]; rfl, Below.refl _ _⟩
  · obtain ⟨b, off, u, rfl, hb, hd, hu, hru⟩ := hcell (l.length - 1) (by omega)
    have he := endB_some (l := l) c (by omega)
    generalize l.getD (l.length - 1) (false, []) = st at *
    obtain ⟨d, z⟩ := st
    dsimp only at *
    obtain ⟨au, cu, rfl, _⟩ := hru.form
    have hn1 : ((l.length : Int) == 0) = false := beq_eq_false_iff_ne.2 (by omega)
    have hsb : ((l.length : Int) - 1) = ((l.length - 1 : Nat) : Int) := by omega
    have hbx := below_box w (.cells #[.bool d, .slice au z.length cu] 32)
    have hnew := World.alloc_heap_new w (.cells #[.bool d, .slice au z.length cu] 32)
    have s0 : (w.alloc (.cells #[.bool d, .slice au z.length cu] 32)).cell? ⟨w.heap.size, 0, none⟩ = some (.bool d) := box_cell hnew rfl
    have s1 : (w.alloc (.cells #[.bool d, .slice au z.length cu] 32)).cell? ⟨w.heap.size, 1, none⟩ = some (.slice au z.length cu) := box_cell hnew rfl
    have HS : Hid (Calls Tryz.prog 23 #[.slice au z.length cu, .slice ca c.length ck] (w.alloc (.cells #[.bool d, .slice au z.length cu] 32)) fun e w' => e = .returned (.bool (smT z c)) ∧ Below w.heap.size w w') := (same_any _ _ z c _ (hru.below hbx) (hc.below hbx)).mono fun e w' hh => ⟨hh.1, Below.step hbx hh.2⟩
    have HB : Hid (Below w.heap.size w (w.alloc (.cells #[.bool d, .slice au z.length cu] 32))) := hbx
    have HE : Hid (endB l c = (!d && smT z c)) := he
    clear hl hc hcell hbx hnew hru he
    obtain ⟨M, hM⟩ : ∃ M : Nat, l.length - 1 = M := ⟨_, rfl⟩
    have hL : l.length = M + 1 := by omega
    rw [hM] at hd hu
    rw [hL]
    rw [hL] at hcl h8
    clear hn1 hsb h0 hM hL
    generalize smT z c = q at *
    cases d with
    | true =>
      go_enter Tryz.func11, Tryz.ntmps11
      go_wp2_with fail
      go_ret
      exact ⟨by rw [HE.out]; rfl, HB.out⟩
    | false =>
      go_enter Tryz.func11, Tryz.ntmps11
      go_wp2_with (go_at_call 23; refine HS.out.mono ?_; rintro e w6 ⟨rfl, g2⟩; have H6 : Hid (Below w.heap.size w w6) := g2; clear g2)
      go_ret
      exact ⟨by rw [HE.out]; simp, H6.out⟩
end Go.Proofs.YtjajafeaengnjaaGreatDoor
set_option linter.unusedSimpArgs false
set_option linter.unusedVariables false
namespace Go.Proofs.YtjajafeaengnjaaGreatDoor
open Go Go.RowKit
theorem rf_bad {D : Bool} {c : List Int} (h : rfI D c ≠ 0) (hs : c.all fmd = true) : D = true ∧ rfI D c = 3 := by
  unfold rfI at h ⊢
  rw [if_pos hs] at h ⊢
  cases D
  · exact absurd rfl h
  · exact ⟨rfl, rfl⟩
theorem rf_one {D : Bool} {c : List Int} (hs : c.all fmd = false) : rfI D c = 1 := by
  unfold rfI; rw [hs]; rfl
set_option maxHeartbeats 800000 in
theorem rAdd11_no (b : Nat) (v vc : Value) (D : Bool) (c : List Int) (w : World) (h : Bx2 w b 52 v (.bool D)) (hc : Rd w vc c) (hr : rfI D c ≠ 0) :
    Calls Tryz.prog 18 #[.pointer (some ⟨b, 0, none⟩), vc] w fun e w' => e = .returned (.tuple #[.int .i64 0, .int .i64 (rfI D c)]) ∧ w' = w := by
  have HSd : Hid (Calls Tryz.prog 16 #[vc] w fun e w' => e = .returned (.bool (c.all fmd)) ∧ w' = w) := refSound_any vc c w hc
  obtain ⟨ca, ck, rfl, hck, -, -⟩ := hc.form
  have x1 := h.c1
  clear h hc
  cases hs : c.all fmd
  · rw [hs] at HSd
    rw [rf_one hs]
    clear hs hr
    go_enter Tryz.func18, Tryz.ntmps18
    go_wp2_with (go_at_call 16; refine HSd.out.mono ?_; rintro e w5 ⟨rfl, rfl⟩)
    go_returns
    exact ⟨rfl, rfl⟩
  · have h3 := (rf_bad hr hs).2
    obtain ⟨rfl, -⟩ := rf_bad hr hs
    rw [hs] at HSd
    rw [h3]
    clear hs hr h3
    go_enter Tryz.func18, Tryz.ntmps18
    go_wp2_with (go_at_call 16; refine HSd.out.mono ?_; rintro e w5 ⟨rfl, rfl⟩)
    go_returns
    exact ⟨rfl, rfl⟩
set_option maxHeartbeats 800000 in
theorem rDrop11_no (b : Nat) (v vc : Value) (D : Bool) (c : List Int) (w : World) (h : Bx2 w b 52 v (.bool D)) (hc : Rd w vc c) (hr : rfI D c ≠ 0) :
    Calls Tryz.prog 17 #[.pointer (some ⟨b, 0, none⟩), vc] w fun e w' => e = .returned (.tuple #[.int .i64 0, .int .i64 (rfI D c)]) ∧ w' = w := by
  have HSd : Hid (Calls Tryz.prog 16 #[vc] w fun e w' => e = .returned (.bool (c.all fmd)) ∧ w' = w) := refSound_any vc c w hc
  obtain ⟨ca, ck, rfl, hck, -, -⟩ := hc.form
  have x1 := h.c1
  clear h hc
  cases hs : c.all fmd
  · rw [hs] at HSd
    rw [rf_one hs]
    clear hs hr
    go_enter Tryz.func17, Tryz.ntmps17
    go_wp2_with (go_at_call 16; refine HSd.out.mono ?_; rintro e w5 ⟨rfl, rfl⟩)
    go_returns
    exact ⟨rfl, rfl⟩
  · have h3 := (rf_bad hr hs).2
    obtain ⟨rfl, -⟩ := rf_bad hr hs
    rw [hs] at HSd
    rw [h3]
    clear hs hr h3
    go_enter Tryz.func17, Tryz.ntmps17
    go_wp2_with (go_at_call 16; refine HSd.out.mono ?_; rintro e w5 ⟨rfl, rfl⟩)
    go_returns
    exact ⟨rfl, rfl⟩

/-- the state of the document's loop -/
def Ch18 (W2 : World) (b : Nat) (css : List (List Int)) (l : List Stp) (k : Nat) (wr : World) : Prop :=
  ∃ A v L D, Rf11 W2.heap.size wr b v L D ∧ Rl A (L.map Prod.snd) ∧ folA A D (l.drop k) = folA ((css.map tid).reverse) false l ∧ L.length ≤ css.length + k ∧ lsum (L.map Prod.snd) ≤ lsum css + lsZ (l.take k) ∧ Below W2.heap.size W2 wr
theorem lsum_app11 (a b : List (List Int)) : lsum (a ++ b) = lsum a + lsum b := by unfold lsum; rw [List.map_append, List.sum_append]
theorem lsum_out11 (a : List (List Int)) (j : Nat) : lsum (a.eraseIdx j) ≤ lsum a := by
  induction a generalizing j with
  | nil => simp
  | cons x r ih =>
    cases j with
    | zero => rw [List.eraseIdx_zero, List.tail_cons, lsum_one]; omega
    | succ j => rw [List.eraseIdx_cons_succ, lsum_one, lsum_one]; have := ih j; omega
theorem map_out11 (L : List Cls) (j : Nat) : (L.eraseIdx j).map Prod.snd = (L.map Prod.snd).eraseIdx j := by
  induction L generalizing j with
  | nil => rfl
  | cons x r ih =>
    cases j with
    | zero => rfl
    | succ j => simp only [List.eraseIdx_cons_succ, List.map_cons, ih]
/-- a step of the document's loop: it goes on; it is refused; it is none that counts -/
def Go18 (W2 : World) (b : Nat) (css : List (List Int)) (l : List Stp) (k : Nat) (d : Bool) (e : Ending) (w' : World) : Prop :=
  ∃ n : Int, e = .returned (.tuple #[.int .i64 n, .int .i64 0]) ∧ (d = true → (n == 0) = false) ∧ (d = false → n = 1) ∧ Ch18 W2 b css l (k + 1) w'
def Rf18 (W2 : World) (q : Int) (e : Ending) (w' : World) : Prop := e = .returned (.tuple #[.int .i64 0, .int .i64 q]) ∧ Below W2.heap.size W2 w'
def No18 (W2 : World) (d : Bool) (e : Ending) (w' : World) : Prop :=
  ∃ n : Int, e = .returned (.tuple #[.int .i64 n, .int .i64 0]) ∧ (d = true → n = 0) ∧ (d = false → (n != 1) = true) ∧ Below W2.heap.size W2 w'
/-- the three ways of a call -/
def Way18 (W2 : World) (b : Nat) (css : List (List Int)) (l : List Stp) (k : Nat) (wr : World) (d : Bool) (f : FuncId) (vc : Value) : Prop :=
  (Calls Tryz.prog f #[.pointer (some ⟨b, 0, none⟩), vc] wr fun e w' => Go18 W2 b css l k d e w') ∨ (folA ((css.map tid).reverse) false l = false ∧ ((∃ q : Int, (q != 0) = true ∧ Calls Tryz.prog f #[.pointer (some ⟨b, 0, none⟩), vc] wr fun e w' => Rf18 W2 q e w') ∨ Calls Tryz.prog f #[.pointer (some ⟨b, 0, none⟩), vc] wr fun e w' => No18 W2 d e w'))
set_option maxRecDepth 100000 in
theorem step18 (W2 : World) (b : Nat) (css : List (List Int)) (l : List Stp) (k : Nat) (wr : World) (d : Bool) (c : List Int) (vc : Value) (hc : Ch18 W2 b css l k wr) (hk : k < l.length) (hd : l.getD k (false, []) = (d, c)) (hr : Rd W2 vc c) (hn : css.length + l.length ≤ 536870912) (hs : lsum css + lsZ l ≤ 1073741824) :
    (d = true → Way18 W2 b css l k wr true 17 vc) ∧ (d = false → Way18 W2 b css l k wr false 18 vc) := by
  obtain ⟨A, v, L, D, hst, hrl, hck, hA, hsm, hbl⟩ := hc
  have hch := folA_at A D l k hk
  have hls := lsZ_at l k hk
  have hl1 := lsZ_take l (k + 1)
  rw [hd] at hch hls
  dsimp only at hls
  have hru := hr.below hbl
  have hBw : W2.heap.size ≤ wr.heap.size := hbl.size
  have hfw : Few (L.map Prod.snd) := Few.of (by rw [List.length_map]; omega) (by omega)
  by_cases h0 : rfI D c = 0
  · obtain ⟨hsd, rfl⟩ := rf_no h0
    have hNx : ∀ A' v' L' D' w', tkF A false (d, c) = (true, A', D') → Rf11 W2.heap.size w' b v' L' D' → Rl A' (L'.map Prod.snd) → L'.length ≤ L.length + 1 → lsum (L'.map Prod.snd) ≤ lsum (L.map Prod.snd) + c.length → Below W2.heap.size W2 w' → Ch18 W2 b css l (k + 1) w' := fun A' v' L' D' w' h1 h3 h4 h5 h6 h7 => ⟨A', v', L', D', h3, h4, by rw [h1] at hch; rw [← hck, hch]; rfl, by omega, by omega, h7⟩
    have hEn : (tkF A false (d, c)).1 = false → folA ((css.map tid).reverse) false l = false := fun h => by rw [← hck, hch, h]; rfl
    refine ⟨fun e => ?_, fun e => ?_⟩
    · subst e
      have hcall := rDrop11_any W2.heap.size b v vc L c wr hst hru hsd hrl.snd hfw hBw
      by_cases hno : ∀ d ∈ L.map Prod.snd, tid d ≠ tid c
      · refine .inr ⟨hEn (tk_miss hrl hsd hno), .inr (hcall.mono fun e w' hh => ?_)⟩
        obtain ⟨q, v', L', h1, _, h3, h4⟩ := hh
        rcases h4 with ⟨h5, _⟩ | ⟨_, _, ⟨d, h5, h6⟩, _⟩ | ⟨_, _, j, hj, h6, _⟩
        · exact ⟨q, h1, fun _ => h5, (fun h => by cases h), hbl.trans h3⟩
        · exact absurd h6 (hno d h5)
        · exact absurd h6 (hno _ (List.mem_map.2 ⟨L[j], List.getElem_mem hj, rfl⟩))
      · have hex : ∃ d ∈ L.map Prod.snd, tid d = tid c := Classical.byContradiction fun hx => hno fun d hd e => hx ⟨d, hd, e⟩
        refine .inl (hcall.mono fun e w' hh => ?_)
        obtain ⟨q, v', L', h1, h2, h3, h4⟩ := hh
        rcases h4 with ⟨_, _, h6⟩ | ⟨h5, h6, h7, h8⟩ | ⟨h5, h7, j, hj, h6, h8⟩
        · exact absurd h6 hno
        · subst h5; subst h6
          exact ⟨2, h1, fun _ => rfl, (fun h => by cases h), hNx _ v' _ _ w' (tk_kept hrl hsd h7 h8) h2 hrl (by omega) (by omega) (hbl.trans h3)⟩
        · subst h5; subst h8
          refine ⟨1, h1, fun _ => rfl, (fun h => by cases h), hNx _ v' _ _ w' (tk_gone hrl hsd hex h7) h2 ?_ ?_ ?_ (hbl.trans h3)⟩
          · rw [map_out11]
            exact hrl.gone (by simpa using hj) (by simpa using h6)
          · have := List.length_eraseIdx_le (l := L) (i := j); omega
          · rw [map_out11]; have := lsum_out11 (L.map Prod.snd) j; omega
    · subst e
      have hcall := rAdd11_any W2.heap.size b v vc L c wr hst hru hsd hrl.snd hfw hBw
      by_cases h5 : kndI (L.map Prod.snd) c = 1
      · refine .inl (hcall.mono fun e w' hh => ?_)
        rcases hh with ⟨h4, _⟩ | ⟨h4, v', u, h1, h2, h3⟩
        · rw [h5] at h4; cases h4
        · refine ⟨_, h1, (fun h => by cases h), fun _ => h5, hNx _ v' _ _ w' (tk_add hrl hsd h5) h2 ?_ (by simp) ?_ (hbl.trans h3)⟩
          · rw [List.map_append]; exact hrl.add hsd
          · rw [List.map_append, lsum_app11]; simp [lsum]
      · refine .inr ⟨hEn (tk_none hrl hsd h5), .inr (hcall.mono fun e w' hh => ?_)⟩
        rcases hh with ⟨h4, h1, _, h3⟩ | ⟨h4, v', u, h1, h2, h3⟩
        · exact ⟨0, h1, (fun h => by cases h), fun _ => rfl, hbl.trans h3⟩
        · exact ⟨_, h1, (fun h => by cases h), fun _ => bne_iff_ne.2 h5, hbl.trans h3⟩
  · have hEn : folA ((css.map tid).reverse) false l = false := by rw [← hck, hch, tk_no (s := (d, c)) h0]; rfl
    refine ⟨fun e => .inr ⟨hEn, .inl ⟨_, bne_iff_ne.2 h0, ?_⟩⟩, fun e => .inr ⟨hEn, .inl ⟨_, bne_iff_ne.2 h0, ?_⟩⟩⟩
    · exact (rDrop11_no b v vc D c wr hst.box hru h0).mono fun e w' hh => ⟨hh.1, by rw [hh.2]; exact hbl⟩
    · exact (rAdd11_no b v vc D c wr hst.box hru h0).mono fun e w' hh => ⟨hh.1, by rw [hh.2]; exact hbl⟩
end Go.Proofs.YtjajafeaengnjaaGreatDoor
set_option linter.unusedSimpArgs false
set_option linter.unusedVariables false
namespace Go.Proofs.YtjajafeaengnjaaGreatDoor
open Go Go.RowKit
set_option maxRecDepth 100000 in
set_option maxHeartbeats 3200000 in
theorem rHolds18_any (v : Int) (s vf vl : Value) (css : List (List Int)) (fl : List Int) (l : List Stp) (w : World) (hr : Rds w s css) (hf : Rd w vf fl) (hl : RdZ w vl l) (hn : css.length + l.length ≤ 536870912) (hs : lsum css + lsZ l ≤ 1073741824) (hfl : fl.length ≤ 1048576) :
    Calls Tryz.prog 8 #[.agg #[.int .i64 v, s], vf, vl] w fun e w' => e = .returned (.bool (hldH v css fl l)) ∧ Below w.heap.size w w' := by
  have hb1 := below_box w (.cells #[.int .i64 v, s] 24)
  have hX1 := Bx2.new w 24 (.int .i64 v) s
  have hl2 := hl.below hb1
  have hf2 := hf.below hb1
  have HNw := rNew11_any v s css _ (hr.below hb1)
  have h8 := hl.len
  have hf8 := hf.len
  have HZ : Hid (RdZ (w.alloc (.cells #[.int .i64 v, s] 24)) vl l) := hl2
  obtain ⟨al, cl, rfl, hcl, hml, hcell⟩ := hl2.form
  obtain ⟨af, cf, rfl, hcf, hmf, -⟩ := hf2.form
  have HC : Hid (∀ k, k < l.length → ∃ b off u, al = some ⟨b, off, none⟩ ∧ b < (w.alloc (.cells #[.int .i64 v, s] 24)).heap.size ∧ (w.alloc (.cells #[.int .i64 v, s] 24)).cell? ⟨b, off + k * 2, none⟩ = some (.bool (l.getD k (false, [])).1) ∧ (w.alloc (.cells #[.int .i64 v, s] 24)).cell? ⟨b, off + k * 2 + 1, none⟩ = some u ∧ Rd (w.alloc (.cells #[.int .i64 v, s] 24)) u (l.getD k (false, [])).2) := hcell
  have f0 := hX1.c0
  have f1 := hX1.c1
  have HB2 : Hid (Below w.heap.size w (w.alloc (.cells #[.int .i64 v, s] 24)) ∧ css.length + l.length ≤ 536870912 ∧ lsum css + lsZ l ≤ 1073741824 ∧ fl.length ≤ 1048576) := ⟨hb1, hn, hs, hfl⟩
  have HRf : Hid (Rd (w.alloc (.cells #[.int .i64 v, s] 24)) (.slice af fl.length cf) fl) := hf2
  have HN : Hid (Calls Tryz.prog 15 #[.agg #[.int .i64 v, s]] (w.alloc (.cells #[.int .i64 v, s] 24)) fun e w' => Nw11 (w.alloc (.cells #[.int .i64 v, s] 24)) v css e w') := HNw
  clear hr hf hl hn hs hfl hb1 hX1 hl2 hf2 HNw hcell
  go_enter Tryz.func8, Tryz.ntmps8
  go_upto_region 1 with fail
  generalize w.alloc (.cells #[.int .i64 v, s] 24) = W2 at *
  cases hfm : frm v css
  · have HE : Hid (hldH v css fl l = false) := by show _ = _; unfold hldH; rw [hfm]; rfl
    have HN0 : Hid (Calls Tryz.prog 15 #[.agg #[.int .i64 v, s]] W2 fun e w' => e = .returned (.tuple #[.pointer none, .int .i64 1]) ∧ Below w.heap.size w w') := HN.out.mono fun e w' hh => by
      rcases hh with ⟨_, h1, h2⟩ | ⟨h0, _⟩
      · exact ⟨h1, Below.step HB2.out.1 h2⟩
      · rw [hfm] at h0; cases h0
    clear HN hfm
    go_wp2_with (go_at_call 15; refine HN0.out.mono ?_; rintro e w3 ⟨rfl, hb3⟩; have H3 : Hid (Below w.heap.size w w3) := hb3; clear hb3)
    go_ret
    exact ⟨by rw [HE.out]; rfl, H3.out⟩
  · have HN0 : Hid (Calls Tryz.prog 15 #[.agg #[.int .i64 v, s]] W2 fun e w' => ∃ b, e = .returned (.tuple #[.pointer (some ⟨b, 0, none⟩), .int .i64 0]) ∧ Ch18 W2 b css l 0 w' ∧ Below W2.heap.size W2 w') := HN.out.mono fun e w' hh => by
      rcases hh with ⟨h0, _⟩ | ⟨_, b, v', L, h1, h2, h3, h4⟩
      · rw [hfm] at h0; cases h0
      · refine ⟨b, h1, ⟨_, v', L, _, h2, by rw [h3]; exact Rl.start (frm_sound hfm), rfl, ?_, by rw [h3]; exact Nat.le_add_right _ _, h4⟩, h4⟩
        have := congrArg List.length h3
        simp at this
        omega
    have HFm : Hid (frm v css = true) := hfm
    clear HN hfm
    have HSo : Hid (∀ W, Below W2.heap.size W2 W → Calls Tryz.prog 16 #[.slice af fl.length cf] W fun e w' => e = .returned (.bool (fl.all fmd)) ∧ w' = W) := fun W hW => refSound_any _ fl W (HRf.out.below hW)
    cases hsd : fl.all fmd
    · have HE : Hid (hldH v css fl l = false) := by show _ = _; unfold hldH; rw [HFm.out, hsd]; rfl
      rw [hsd] at HSo
      clear hsd
      go_wp2_with (first | (go_at_call 15; refine HN0.out.mono ?_; rintro e w3 ⟨b, rfl, hc3, hb3⟩; have H3 : Hid (Below W2.heap.size W2 w3) := hb3; clear hb3 hc3) | (go_at_call 16; refine (HSo.out _ H3.out).mono ?_; rintro e w4 ⟨rfl, rfl⟩))
      go_ret
      exact ⟨by rw [HE.out]; rfl, Below.step HB2.out.1 H3.out⟩
    · have HSd : Hid (fl.all fmd = true) := hsd
      rw [hsd] at HSo
      clear hsd
      by_cases h0 : l.length = 0
      · have HE : Hid (hldH v css fl l = false) := by
          show _ = _
          unfold hldH; rw [List.eq_nil_of_length_eq_zero h0, endB_nil]; simp
        have hq0 : ((l.length : Int) == 0) = true := by rw [h0]; rfl
        clear h0
        go_wp2_with (first | (go_at_call 15; refine HN0.out.mono ?_; rintro e w3 ⟨b, rfl, hc3, hb3⟩; have H3 : Hid (Below W2.heap.size W2 w3) := hb3; clear hb3 hc3) | (go_at_call 16; refine (HSo.out _ H3.out).mono ?_; rintro e w4 ⟨rfl, rfl⟩))
        go_ret
        exact ⟨by rw [HE.out]; rfl, Below.step HB2.out.1 H3.out⟩
      · have hq0 : ((l.length : Int) == 0) = false := beq_eq_false_iff_ne.2 (by omega)
        have HE : Hid (hldH v css fl l = (endB l (opp fl) && folA ((css.map tid).reverse) false l)) := by show _ = _; unfold hldH; rw [HFm.out, HSd.out]; rfl
        have HL0 : Hid (0 < l.length) := Nat.pos_of_ne_zero h0
        clear h0
        go_upto_region 4 with (first | (go_at_call 15; refine HN0.out.mono ?_; rintro e w3 ⟨b, rfl, hc3, hb3⟩; have H3 : Hid (Below W2.heap.size W2 w3 ∧ Ch18 W2 b css l 0 w3) := ⟨hb3, hc3⟩; clear hb3 hc3) | (go_at_call 16; refine (HSo.out _ H3.out.1).mono ?_; rintro e w4 ⟨rfl, rfl⟩))
        clear HN0 f0 f1 HSo hq0
        go_wp2_with fail
        go_loopg [9] l.length (fun q iv wx => ∃ k : Nat, k + q = l.length ∧ iv = .int .i64 (k : Int) ∧ Ch18 W2 b css l k wx)
        case atStart => exact ⟨0, by omega, rfl, H3.out.2⟩
        case round =>
          obtain ⟨k, hk, rfl, hci⟩ := hrel
          have HK : Hid (k + gk = l.length) := hk
          have hbl : Below W2.heap.size W2 wr := by obtain ⟨_, _, _, _, _, _, _, _, _, h⟩ := hci; exact h
          by_cases hlt : k < l.length
          · obtain ⟨bb, off, u, rfl, hbb, hd, hu, hru⟩ := HC.out k hlt
            obtain ⟨au, cu, rfl, _⟩ := hru.form
            have kd := (hbl.cell (p := ⟨bb, off + k * 2, none⟩) hbb).trans hd
            have ku := (hbl.cell (p := ⟨bb, off + k * 2 + 1, none⟩) hbb).trans hu
            generalize hst0 : l.getD k (false, []) = st at *
            obtain ⟨d, c⟩ := st
            dsimp only at *
            have hst := step18 W2 b css l k wr d c (.slice au c.length cu) hci hlt hst0 hru HB2.out.2.1 HB2.out.2.2.1
            have HLT : Hid (k < l.length) := hlt
            clear hbl hru hd hu hbb hst0 hk hci hlt
            cases d with
            | true =>
              rcases hst.1 rfl with hw | ⟨hfo, ⟨q, hq, hw⟩ | hw⟩
              · have HW : Hid (Calls Tryz.prog 17 #[.pointer (some ⟨b, 0, none⟩), .slice au c.length cu] wr fun e w' => Go18 W2 b css l k true e w') := hw
                clear hw hst
                go_wp2_with (go_at_call 17; refine HW.out.mono ?_; rintro e w6 ⟨n, rfl, hn, -, hc6⟩; have hn0 := hn rfl; have H6 : Hid (Ch18 W2 b css l (k + 1) w6) := hc6; clear hc6 hn)
                go_roundg (gk - 1)
                case measure => have := HK.out; have := HLT.out; omega
                case rel => exact ⟨k + 1, by have := HK.out; have := HLT.out; omega, by go_num, H6.out⟩
              · have HW : Hid (Calls Tryz.prog 17 #[.pointer (some ⟨b, 0, none⟩), .slice au c.length cu] wr fun e w' => Rf18 W2 q e w') := hw
                have HF : Hid (hldH v css fl l = false) := by show _ = _; rw [HE.out, hfo]; simp
                clear hw hst hfo
                go_wp2_with (go_at_call 17; refine HW.out.mono ?_; rintro e w6 ⟨rfl, hb6⟩; have H6 : Hid (Below W2.heap.size W2 w6) := hb6; clear hb6)
                go_ret
                exact ⟨by rw [HF.out]; rfl, Below.step HB2.out.1 H6.out⟩
              · have HW : Hid (Calls Tryz.prog 17 #[.pointer (some ⟨b, 0, none⟩), .slice au c.length cu] wr fun e w' => No18 W2 true e w') := hw
                have HF : Hid (hldH v css fl l = false) := by show _ = _; rw [HE.out, hfo]; simp
                clear hw hst hfo
                go_wp2_with (go_at_call 17; refine HW.out.mono ?_; rintro e w6 ⟨n, rfl, hn, -, hb6⟩; obtain rfl := hn rfl; have H6 : Hid (Below W2.heap.size W2 w6) := hb6; clear hb6 hn)
                go_ret
                exact ⟨by rw [HF.out]; rfl, Below.step HB2.out.1 H6.out⟩
            | false =>
              rcases hst.2 rfl with hw | ⟨hfo, ⟨q, hq, hw⟩ | hw⟩
              · have HW : Hid (Calls Tryz.prog 18 #[.pointer (some ⟨b, 0, none⟩), .slice au c.length cu] wr fun e w' => Go18 W2 b css l k false e w') := hw
                clear hw hst
                go_wp2_with (go_at_call 18; refine HW.out.mono ?_; rintro e w6 ⟨n, rfl, -, hn, hc6⟩; obtain rfl := hn rfl; have H6 : Hid (Ch18 W2 b css l (k + 1) w6) := hc6; clear hc6 hn)
                go_roundg (gk - 1)
                case measure => have := HK.out; have := HLT.out; omega
                case rel => exact ⟨k + 1, by have := HK.out; have := HLT.out; omega, by go_num, H6.out⟩
              · have HW : Hid (Calls Tryz.prog 18 #[.pointer (some ⟨b, 0, none⟩), .slice au c.length cu] wr fun e w' => Rf18 W2 q e w') := hw
                have HF : Hid (hldH v css fl l = false) := by show _ = _; rw [HE.out, hfo]; simp
                clear hw hst hfo
                go_wp2_with (go_at_call 18; refine HW.out.mono ?_; rintro e w6 ⟨rfl, hb6⟩; have H6 : Hid (Below W2.heap.size W2 w6) := hb6; clear hb6)
                go_ret
                exact ⟨by rw [HF.out]; rfl, Below.step HB2.out.1 H6.out⟩
              · have HW : Hid (Calls Tryz.prog 18 #[.pointer (some ⟨b, 0, none⟩), .slice au c.length cu] wr fun e w' => No18 W2 false e w') := hw
                have HF : Hid (hldH v css fl l = false) := by show _ = _; rw [HE.out, hfo]; simp
                clear hw hst hfo
                go_wp2_with (go_at_call 18; refine HW.out.mono ?_; rintro e w6 ⟨n, rfl, -, hn, hb6⟩; have hn1 := hn rfl; have H6 : Hid (Below W2.heap.size W2 w6) := hb6; clear hb6 hn)
                go_ret
                exact ⟨by rw [HF.out]; rfl, Below.step HB2.out.1 H6.out⟩
          · have ek : k = l.length := by omega
            have HEb : Hid (hldH v css fl l = endB l (opp fl)) := by
              obtain ⟨A, v', L, D, _, _, hck, _⟩ := hci
              show _ = _
              rw [HE.out, ← hck, ek, List.drop_length]; simp [folA]
            subst ek
            have he := endB_some (l := l) (opp fl) HL0.out
            obtain ⟨M, hM⟩ : ∃ M : Nat, l.length - 1 = M := ⟨_, rfl⟩
            have hL : l.length = M + 1 := by have := HL0.out; omega
            obtain ⟨bb, off, u, rfl, hbb, hd, hu, hru⟩ := HC.out M (by omega)
            rw [hM] at he
            obtain ⟨au, cu, rfl, _⟩ := hru.form
            have kd := (hbl.cell (p := ⟨bb, off + M * 2, none⟩) hbb).trans hd
            have ku := (hbl.cell (p := ⟨bb, off + M * 2 + 1, none⟩) hbb).trans hu
            generalize l.getD M (false, []) = st at *
            obtain ⟨d, z⟩ := st
            dsimp only at *
            have hsb : ((l.length : Int) - 1) = (M : Int) := by omega
            have hbx := below_box wr (.cells #[.bool d, .slice au z.length cu] 32)
            have hnew := World.alloc_heap_new wr (.cells #[.bool d, .slice au z.length cu] 32)
            have s0 : (wr.alloc (.cells #[.bool d, .slice au z.length cu] 32)).cell? ⟨wr.heap.size, 0, none⟩ = some (.bool d) := box_cell hnew rfl
            have s1 : (wr.alloc (.cells #[.bool d, .slice au z.length cu] 32)).cell? ⟨wr.heap.size, 1, none⟩ = some (.slice au z.length cu) := box_cell hnew rfl
            have hlt7 : wr.heap.size < (wr.alloc (.cells #[.bool d, .slice au z.length cu] 32)).heap.size := by rw [World.size_alloc]; omega
            have HR7 : Hid (Below W2.heap.size W2 (wr.alloc (.cells #[.bool d, .slice au z.length cu] 32)) ∧ Rd (wr.alloc (.cells #[.bool d, .slice au z.length cu] 32)) (.slice af fl.length cf) fl ∧ Rd (wr.alloc (.cells #[.bool d, .slice au z.length cu] 32)) (.slice au z.length cu) z) := ⟨Below.step hbl hbx, HRf.out.below (Below.step hbl hbx), hru.below (Below.step hbl hbx)⟩
            have HEd : Hid (hldH v css fl l = (!d && smT z (opp fl))) := by show _ = _; rw [HEb.out]; exact he
            clear hk hci hbl he hM hru hbx hnew hd hu hbb
            go_upto_region 15 with fail
            generalize wr.alloc (.cells #[.bool d, .slice au z.length cu] 32) = w7 at *
            generalize wr.heap.size = X at *
            have HS : Hid (∀ W', Below w7.heap.size w7 W' → Below w7.heap.size w7 W' ∧ W'.cell? ⟨X, 0, none⟩ = some (.bool d) ∧ W'.cell? ⟨X, 1, none⟩ = some (.slice au z.length cu)) := fun W' hW => ⟨hW, (hW.cell (p := ⟨X, 0, none⟩) hlt7).trans s0, (hW.cell (p := ⟨X, 1, none⟩) hlt7).trans s1⟩
            have HBa : Hid (∀ W', Below w7.heap.size w7 W' → Calls Tryz.prog 20 #[.slice af fl.length cf] W' fun e w' => ∃ u, e = .returned u ∧ Rd w' u (opp fl) ∧ Below w7.heap.size w7 w') := fun W' hW => (refBan_any _ fl W' (HR7.out.2.1.below hW) HSd.out).mono fun e w' hh => by
              obtain ⟨u, h3, h4, h5⟩ := hh
              exact ⟨u, h3, h4.rd (by rw [opp_len18]; have := HB2.out.2.2.2; omega), Below.step hW h5⟩
            have HSm : Hid (∀ W' u, Below w7.heap.size w7 W' → Rd W' u (opp fl) → Calls Tryz.prog 19 #[.slice au z.length cu, u] W' fun e w' => e = .returned (.bool (smT z (opp fl))) ∧ Below w7.heap.size w7 w') := fun W' u hW hu => (refSame_any _ _ z (opp fl) W' (HR7.out.2.2.below hW) hu).mono fun e w' hh => ⟨hh.1, Below.step hW hh.2⟩
            clear kd ku
            generalize smT z (opp fl) = Q at *
            cases d with
            | true =>
              go_quiet (fail)
              go_wp2
              go_ret
              exact ⟨by rw [HEd.out]; rfl, by first | exact Below.step HB2.out.1 (Below.step HR7.out.1 (below_drewN _ _)) | exact Below.step HB2.out.1 (Below.step HR7.out.1 (Below.refl _ _).drew) | exact Below.step HB2.out.1 HR7.out.1⟩
            | false =>
              go_region_held (fun W' => Below w7.heap.size w7 W' ∧ W'.cell? ⟨X, 0, none⟩ = some (.bool false) ∧ W'.cell? ⟨X, 1, none⟩ = some (.slice au z.length cu)) (first | exact HS.out _ (Below.refl _ _).drew | exact HS.out _ bF | exact HS.out _ bE) (first
                | (go_at_call 20; refine (HBa.out _ (Below.refl _ _).drew).mono ?_; rintro e w8 ⟨u8, rfl, g3, bE⟩; obtain ⟨ua, uc, rfl, -⟩ := g3.form; have HU : Hid (Rd w8 (.slice ua (opp fl).length uc) (opp fl)) := g3; clear g3)
                | (go_at_call 19; refine (HSm.out _ _ bE HU.out).mono ?_; rintro e w9 ⟨rfl, bF⟩))
              all_goals
                go_wp2
                go_ret
                exact ⟨by rw [HEd.out]; cases Q <;> rfl, Below.step HB2.out.1 (Below.step HR7.out.1 bF)⟩
end Go.Proofs.YtjajafeaengnjaaGreatDoor
set_option linter.unusedSimpArgs false
set_option linter.unusedVariables false
namespace Go.Proofs.YtjajafeaengnjaaGreatDoor
open Go Go.RowKit
section
variable {B b g N : Nat} {w W W' : World} {A : List (List Int)} {D : Bool} {c : List Int}
theorem Fst.below (h : Fst B W b g N A D) (hb : Below W.heap.size W W') : Fst B W' b g N A D := by
  obtain ⟨T, num, hm, hBg, hbk, hc⟩ := h
  have hc9 : Cst B W b g N A num D := hc
  exact ⟨T, num, hm.kept (hb.block g hm.lt), hBg, hbk, hc9.kept hm (fun q hq _ _ => hb.block q hq)⟩
theorem Fst.done (h : Fst B W b g N A D) : W.cell? ⟨b, 9, none⟩ = some (.bool D) ∧ b < W.heap.size ∧ B ≤ b := by
  obtain ⟨T, num, hm, hBg, hbk, hc⟩ := h
  have hc9 : Cst B W b g N A num D := hc
  exact ⟨hc9.done, hc9.box.2⟩
end
end Go.Proofs.YtjajafeaengnjaaGreatDoor
set_option linter.unusedSimpArgs false
set_option linter.unusedVariables false
namespace Go.Proofs.YtjajafeaengnjaaGreatDoor
open Go Go.RowKit
section
variable {B b g N : Nat} {w W W' : World} {A : List (List Int)} {D : Bool} {c : List Int}
def Tk18 (B b g N : Nat) (w : World) (q : Bool × List (List Int) × Bool) (e : Ending) (w' : World) : Prop :=
  e = .returned (.bool q.1) ∧ Fst B w' b g (N + 1) q.2.1 q.2.2 ∧ Bz B w w'
set_option maxRecDepth 100000 in
set_option maxHeartbeats 1600000 in
theorem taken_any (d : Bool) (w0 w : World) (vc : Value) (h : Fst B w b g N A D) (hB : B = w0.heap.size) (hb : Below w0.heap.size w0 w) (hr : Rd w0 vc c) (hN : N < 1073741822) (hA : A.length ≤ 1073741824) (hsum : lsum A ≤ 1073741824) (hD : Deb w0) :
    Calls Tryz.prog 25 #[.pointer (some ⟨b, 0, none⟩), .agg #[.bool d, vc]] w fun e w' => Tk18 B b g N w (tkF A D (d, c)) e w' := by
  have hbx := below_box w (.cells #[.bool d, vc] 32)
  have hbB : B ≤ w.heap.size := by rw [hB]; exact hb.size
  have HB1 : Hid (Bz B w (w.alloc (.cells #[.bool d, vc] 32))) := Bz.of hbx hbB
  have hF := h.below hbx
  have hb2 : Below w0.heap.size w0 (w.alloc (.cells #[.bool d, vc] 32)) := hb.trans (by rw [← hB]; exact HB1.out.bel)
  have hnew := World.alloc_heap_new w (.cells #[.bool d, vc] 32)
  have hB2 : B ≤ (w.alloc (.cells #[.bool d, vc] 32)).heap.size := Nat.le_trans hbB hbx.size
  obtain ⟨av, cv, hv, v1, v2, hcell⟩ := hr.form
  have c0 : (w.alloc (.cells #[.bool d, vc] 32)).cell? ⟨w.heap.size, 0, none⟩ = some (.bool d) := box_cell hnew rfl
  have c1 : (w.alloc (.cells #[.bool d, vc] 32)).cell? ⟨w.heap.size, 1, none⟩ = some vc := box_cell hnew rfl
  cases d with
  | true =>
    have HDr : Hid (Calls Tryz.prog 38 #[.pointer (some ⟨b, 0, none⟩), vc] (w.alloc (.cells #[.bool true, vc] 32)) fun e w' => DrS B b g N D (w.alloc (.cells #[.bool true, vc] 32)) (dropF A D c) e w') := fDrop_all _ vc c hF (hr.below hb2) hB2 hN hA
    have HE : Hid (tkF A D (true, c) = (decide ((dropF A D c).2.1 = 0) && decide ((dropF A D c).1 ≠ 0), (dropF A D c).2.2, D)) := by show _ = _; unfold tkF; rfl
    clear h hB hb hr hN hA hsum hD hbx hbB hF hb2 hnew hB2 hcell
    subst hv
    obtain ⟨n, er, A', hq⟩ : ∃ n er A', dropF A D c = (n, er, A') := ⟨_, _, _, rfl⟩
    rw [hq] at HDr HE
    clear hq
    go_enter Tryz.func25, Tryz.ntmps25
    go_upto_region 1 with fail
    generalize w.alloc (.cells #[.bool true, .slice av c.length cv] 32) = w1 at *
    obtain ⟨X, hX⟩ : ∃ X, w.heap.size = X := ⟨_, rfl⟩
    rw [hX] at c0 c1 ⊢
    clear hX
    by_cases he : er = 0
    · subst he
      by_cases hn : n = 0
      · subst hn
        have HE2 : Hid (tkF A D (true, c) = (false, A', D)) := by show _ = _; rw [HE.out]; simp
        go_wp2_with (go_at_call 38; refine HDr.out.mono ?_; rintro e w2 ⟨rfl, g1, g2⟩; have H2 : Hid (Fst B w2 b g (N + 1) A' D ∧ Bz B w1 w2) := ⟨g1, g2⟩; clear g1 g2)
        go_ret
        rw [HE2.out]
        exact ⟨rfl, H2.out.1, HB1.out.trans H2.out.2⟩
      · have HE2 : Hid (tkF A D (true, c) = (true, A', D)) := by
          show _ = _
          rw [HE.out]; simp [hn]
        have hn1 : (n != 0) = true := bne_iff_ne.2 hn
        go_wp2_with (go_at_call 38; refine HDr.out.mono ?_; rintro e w2 ⟨rfl, g1, g2⟩; have H2 : Hid (Fst B w2 b g (N + 1) A' D ∧ Bz B w1 w2) := ⟨g1, g2⟩; clear g1 g2)
        go_ret
        rw [HE2.out]
        exact ⟨rfl, H2.out.1, HB1.out.trans H2.out.2⟩
    · have HE2 : Hid (tkF A D (true, c) = (false, A', D)) := by
        show _ = _
        rw [HE.out]; simp [he]
      have he1 : (er == 0) = false := beq_eq_false_iff_ne.2 he
      go_wp2_with (go_at_call 38; refine HDr.out.mono ?_; rintro e w2 ⟨rfl, g1, g2⟩; have H2 : Hid (Fst B w2 b g (N + 1) A' D ∧ Bz B w1 w2) := ⟨g1, g2⟩; clear g1 g2)
      go_ret
      rw [HE2.out]
      exact ⟨rfl, H2.out.1, HB1.out.trans H2.out.2⟩
  | false =>
    have HAd : Hid (Calls Tryz.prog 39 #[.pointer (some ⟨b, 0, none⟩), vc] (w.alloc (.cells #[.bool false, vc] 32)) fun e w' => AdS B b g N (w.alloc (.cells #[.bool false, vc] 32)) (addF A D c) e w') := fAdd_any w0 _ vc hF hB hb2 hr hN hA hsum hD
    have HE : Hid (tkF A D (false, c) = (decide ((addF A D c).2.1 = 0) && decide ((addF A D c).1 = 1), (addF A D c).2.2.1, (addF A D c).2.2.2)) := by show _ = _; unfold tkF; rfl
    clear h hB hb hr hN hA hsum hD hbx hbB hF hb2 hnew hB2 hcell
    subst hv
    obtain ⟨n, er, A', D', hq⟩ : ∃ n er A' D', addF A D c = (n, er, A', D') := ⟨_, _, _, _, rfl⟩
    rw [hq] at HAd HE
    clear hq
    go_enter Tryz.func25, Tryz.ntmps25
    go_upto_region 1 with fail
    generalize w.alloc (.cells #[.bool false, .slice av c.length cv] 32) = w1 at *
    obtain ⟨X, hX⟩ : ∃ X, w.heap.size = X := ⟨_, rfl⟩
    rw [hX] at c0 c1 ⊢
    clear hX
    by_cases he : er = 0
    · subst he
      by_cases hn : n = 1
      · subst hn
        have HE2 : Hid (tkF A D (false, c) = (true, A', D')) := by show _ = _; rw [HE.out]; simp
        go_wp2_with (go_at_call 39; refine HAd.out.mono ?_; rintro e w2 ⟨rfl, g1, g2⟩; have H2 : Hid (Fst B w2 b g (N + 1) A' D' ∧ Bz B w1 w2) := ⟨g1, g2⟩; clear g1 g2)
        go_ret
        rw [HE2.out]
        exact ⟨rfl, H2.out.1, HB1.out.trans H2.out.2⟩
      · have HE2 : Hid (tkF A D (false, c) = (false, A', D')) := by
          show _ = _
          rw [HE.out]; simp [hn]
        have hn1 : (n == 1) = false := beq_eq_false_iff_ne.2 hn
        go_wp2_with (go_at_call 39; refine HAd.out.mono ?_; rintro e w2 ⟨rfl, g1, g2⟩; have H2 : Hid (Fst B w2 b g (N + 1) A' D' ∧ Bz B w1 w2) := ⟨g1, g2⟩; clear g1 g2)
        go_ret
        rw [HE2.out]
        exact ⟨rfl, H2.out.1, HB1.out.trans H2.out.2⟩
    · have HE2 : Hid (tkF A D (false, c) = (false, A', D')) := by
        show _ = _
        rw [HE.out]; simp [he]
      have he1 : (er == 0) = false := beq_eq_false_iff_ne.2 he
      go_wp2_with (go_at_call 39; refine HAd.out.mono ?_; rintro e w2 ⟨rfl, g1, g2⟩; have H2 : Hid (Fst B w2 b g (N + 1) A' D' ∧ Bz B w1 w2) := ⟨g1, g2⟩; clear g1 g2)
      go_ret
      rw [HE2.out]
      exact ⟨rfl, H2.out.1, HB1.out.trans H2.out.2⟩
end
/-- the state of allFollow's loop -/
def AfI (W2 : World) (b g : Nat) (css : List (List Int)) (l : List Stp) (k : Nat) (wr : World) : Prop :=
  ∃ A D, Fst W2.heap.size wr b g (css.length + k) A D ∧ folA A D (l.drop k) = folA ((css.map tid).reverse) false l ∧ A.length ≤ css.length + k ∧ lsum A ≤ lsum css + lsZ (l.take k) ∧ Below W2.heap.size W2 wr
set_option maxRecDepth 100000 in
set_option maxHeartbeats 1600000 in
theorem allFol18_any (v : Int) (s vl : Value) (css : List (List Int)) (l : List Stp) (w : World) (hr : Rds w s css) (hl : RdZ w vl l) (hfm : frm v css = true) (hn : css.length + l.length ≤ 536870912) (hs : lsum css + lsZ l ≤ 1073741824) (hD : Deb w) :
    Calls Tryz.prog 13 #[.agg #[.int .i64 v, s], vl] w fun e w' => e = .returned (.bool (folA ((css.map tid).reverse) false l)) ∧ Below w.heap.size w w' := by
  have hb1 := below_box w (.cells #[.int .i64 v, s] 24)
  have hX1 := (Bx2.new w 24 (.int .i64 v) s)
  have hl2 := hl.below hb1
  have hD2 := hD.below hb1
  have HNw := fNew_any v s css _ (hr.below hb1) (by omega)
  have h8 := hl.len
  obtain ⟨al, cl, rfl, hcl, hml, hcell⟩ := hl2.form
  have HC : Hid (∀ k, k < l.length → ∃ b off u, al = some ⟨b, off, none⟩ ∧ b < (w.alloc (.cells #[.int .i64 v, s] 24)).heap.size ∧ (w.alloc (.cells #[.int .i64 v, s] 24)).cell? ⟨b, off + k * 2, none⟩ = some (.bool (l.getD k (false, [])).1) ∧ (w.alloc (.cells #[.int .i64 v, s] 24)).cell? ⟨b, off + k * 2 + 1, none⟩ = some u ∧ Rd (w.alloc (.cells #[.int .i64 v, s] 24)) u (l.getD k (false, [])).2) := hcell
  have f0 := hX1.c0
  have f1 := hX1.c1
  have HB2 : Hid (Below w.heap.size w (w.alloc (.cells #[.int .i64 v, s] 24)) ∧ Deb (w.alloc (.cells #[.int .i64 v, s] 24)) ∧ css.length + l.length ≤ 536870912 ∧ lsum css + lsZ l ≤ 1073741824) := ⟨hb1, hD2, hn, hs⟩
  have HN : Hid (Calls Tryz.prog 24 #[.agg #[.int .i64 v, s]] (w.alloc (.cells #[.int .i64 v, s] 24)) fun e w' => ∃ b g, e = .returned (.tuple #[.pointer (some ⟨b, 0, none⟩), .int .i64 0]) ∧ AfI (w.alloc (.cells #[.int .i64 v, s] 24)) b g css l 0 w') := HNw.mono fun e w' hh => by
    rcases hh with ⟨h0, _⟩ | ⟨_, b, g, h1, h2, h3⟩
    · rw [hfm] at h0; cases h0
    · refine ⟨b, g, h1, _, _, h2, rfl, by simp, ?_, h3⟩
      rw [lsum_rev]
      exact Nat.le_trans (lsum_tid css) (Nat.le_add_right _ _)
  clear hr hl hn hs hD hb1 hX1 hl2 hD2 HNw hcell hfm
  go_enter Tryz.func13, Tryz.ntmps13
  go_upto_region 1 with fail
  generalize w.alloc (.cells #[.int .i64 v, s] 24) = W2 at *
  go_upto_region 2 with (go_at_call 24; refine HN.out.mono ?_; rintro e w3 ⟨b, g, rfl, hc3⟩; have H3 : Hid (AfI W2 b g css l 0 w3) := hc3; clear hc3)
  clear HN f0 f1
  go_wp2_with fail
  go_loopg [16] l.length (fun q iv wx => ∃ k : Nat, k + q = l.length ∧ iv = .int .i64 (k : Int) ∧ AfI W2 b g css l k wx)
  case atStart => exact ⟨0, by omega, rfl, H3.out⟩
  case round =>
    obtain ⟨k, hk, rfl, hci⟩ := hrel
    have HK : Hid (k + gk = l.length) := hk
    obtain ⟨A, D, hst, hck, hA, hsm, hbl⟩ := hci
    by_cases hlt : k < l.length
    · obtain ⟨bb, off, u, rfl, hbb, hd, hu, hru⟩ := HC.out k hlt
      obtain ⟨au, cu, rfl, _⟩ := hru.form
      have kd := (hbl.cell (p := ⟨bb, off + k * 2, none⟩) hbb).trans hd
      have ku := (hbl.cell (p := ⟨bb, off + k * 2 + 1, none⟩) hbb).trans hu
      have hch := folA_at A D l k hlt
      have hls := lsZ_at l k hlt
      have hl1 := lsZ_take l (k + 1)
      generalize hst0 : l.getD k (false, []) = st at *
      obtain ⟨d, c⟩ := st
      dsimp only at *
      have hbx := below_box wr (.cells #[.bool d, .slice au c.length cu] 32)
      have HEn := taken_any d W2 _ (.slice au c.length cu) (hst.below hbx) rfl (Below.step hbl hbx) hru (by have := HB2.out.2.2.1; omega) (by have := HB2.out.2.2.1; omega) (by have := HB2.out.2.2.2; omega) HB2.out.2.1
      have hle := tkF_len A D (d, c)
      obtain ⟨ok, A', D', hq⟩ : ∃ ok A' D', tkF A D (d, c) = (ok, A', D') := ⟨_, _, _, rfl⟩
      rw [hq] at HEn hch hle
      dsimp only at hch hle
      have HE : Hid (Calls Tryz.prog 25 #[.pointer (some ⟨b, 0, none⟩), .agg #[.bool d, .slice au c.length cu]] (wr.alloc (.cells #[.bool d, .slice au c.length cu] 32)) fun e w' => e = .returned (.bool ok) ∧ Fst W2.heap.size w' b g (css.length + k + 1) A' D' ∧ Below W2.heap.size W2 w') := HEn.mono fun e w' hh => ⟨hh.1, hh.2.1, (Below.step hbl hbx).trans hh.2.2.bel⟩
      have hnew := World.alloc_heap_new wr (.cells #[.bool d, .slice au c.length cu] 32)
      have s0 : (wr.alloc (.cells #[.bool d, .slice au c.length cu] 32)).cell? ⟨wr.heap.size, 0, none⟩ = some (.bool d) := box_cell hnew rfl
      have s1 : (wr.alloc (.cells #[.bool d, .slice au c.length cu] 32)).cell? ⟨wr.heap.size, 1, none⟩ = some (.slice au c.length cu) := box_cell hnew rfl
      cases ok with
      | true =>
        rw [Bool.true_and] at hch
        have HNx : Hid (∀ w', Fst W2.heap.size w' b g (css.length + k + 1) A' D' → Below W2.heap.size W2 w' → AfI W2 b g css l (k + 1) w') := fun w' h1 h2 => ⟨A', D', h1, by rw [← hch]; exact hck, by omega, by omega, h2⟩
        clear hst hck hA hsm hbl hru hch hls hl1 hbx HEn hle hq hnew hd hu hbb hst0 hk
        go_wp2_with (go_at_call 25; refine HE.out.mono ?_; rintro e w6 ⟨rfl, g1, g2⟩; have H6 : Hid (AfI W2 b g css l (k + 1) w6) := HNx.out w6 g1 g2; clear g1 g2)
        go_roundg (gk - 1)
        case measure => have := HK.out; omega
        case rel => exact ⟨k + 1, by have := HK.out; omega, by go_num, H6.out⟩
      | false =>
        rw [Bool.false_and] at hch
        have HF2 : Hid (folA ((css.map tid).reverse) false l = false) := by
          show _ = _
          rw [← hck, hch]
        clear hst hck hA hsm hbl hru hch hls hl1 hbx HEn hle hq hnew hd hu hbb hst0 hk
        go_wp2_with (go_at_call 25; refine HE.out.mono ?_; rintro e w6 ⟨rfl, g1, g2⟩; have H6 : Hid (Below W2.heap.size W2 w6) := g2; clear g1 g2)
        go_ret
        rw [HF2.out]
        exact ⟨rfl, Below.step HB2.out.1 H6.out⟩
    · have ek : k = l.length := by omega
      subst ek
      have HF2 : Hid (folA ((css.map tid).reverse) false l = true) := by
        show _ = _
        rw [← hck, List.drop_length]; rfl
      have H6 : Hid (Below W2.heap.size W2 wr) := hbl
      clear hst hck hA hsm hbl hk
      go_wp2_with fail
      go_ret
      rw [HF2.out]
      exact ⟨rfl, Below.step HB2.out.1 H6.out⟩
end Go.Proofs.YtjajafeaengnjaaGreatDoor
