/-
  depotlaw04: what a step of the arena, of the document's, of what is told, leaves of a pair.
  KEEP: set on app at below new trans refl start ap kept rd rds mono own row cells lt box lo ml ms c0 f0 form max find eq ma some none more map keep
-/
import Derived.Test.YtnglgcipjbpgoaaAn4
set_option linter.unusedSimpArgs false
set_option linter.unusedVariables false
namespace Go.Proofs.Ytnglgcipjbpgoaa
open Go Go.RowKit Go.Maps

def Fn4 (F : Nat → Prop) (w w' : World) : Nat → Prop := fun k => F k ∨ (w.heap.size ≤ k ∧ k < w'.heap.size)
theorem tyB_cells {W : World} {k : Nat} {c : Array Value} {t : TypeId} {f : Nat × Nat} (h : W.heap[k]? = some (.cells c t f)) : tyB W k = some t := by unfold tyB; rw [h]
theorem tyB_row {W : World} {B e s n g : Nat} {v : Value} {xs : List Value} (h : W.ownsRow B e s v n xs) (hg : v.ownBlock = some g) : tyB W g = some e := by
  rcases h.2 with ⟨q, _⟩ | ⟨g', cap, cur, q, _, hh, _⟩
  · rw [q] at hg; cases hg
  · rw [q] at hg
    simp [Value.ownBlock] at hg
    subst hg
    exact tyB_cells hh
theorem tyB_map {W : World} {m mb : Nat} {l : LvL} (h : TellsAt W m mb l) : tyB W m = some 89 ∧ tyB W mb = none := by
  obtain ⟨n, Dm, ⟨es, clock, e1, e2⟩, hT⟩ := h.map
  exact ⟨tyB_cells h.box, by unfold tyB; rw [e1]⟩
theorem ne_ty {W : World} {a b : Nat} {s t : Option TypeId} (ha : tyB W a = s) (hb : tyB W b = t) (h : s ≠ t) : a ≠ b := by
  rintro rfl
  exact h (ha.symm.trans hb)
section
variable {F : Nat → Prop} {W W' : World} {D b : Nat} {v v' : Value} {S S' Sm Sm' : List Seg} {m : Nat} {rv rv' : Value} {L L' : List Mt} {tv tv' mv mv' : Value} {T Tm : List Te}
theorem Fn4.lt (hF : ∀ k, F k → k < W.heap.size) (hs : W.heap.size ≤ W'.heap.size) : ∀ k, Fn4 F W W' k → k < W'.heap.size := fun k hk => hk.elim (fun h => Nat.lt_of_lt_of_le (hF k h) hs) (fun h => h.2)
theorem Fn4.ps (h : ∀ k, k < W.heap.size → ¬ F k → W'.heap[k]? = W.heap[k]?) (h1 : W'.os = W.os) (h2 : W'.tape = W.tape) (h3 : W'.output = W.output) (h4 : W.heap.size ≤ W'.heap.size) : Ps4 F (Fn4 F W W') W W' :=
  ⟨h1, h2, h3, h4, h, fun k hk => hk.elim .inl (fun q => .inr q.1)⟩
theorem Ps4.trans {F F' F'' : Nat → Prop} {w w1 w2 : World} (h : Ps4 F F' w w1) (k : Ps4 F' F'' w1 w2) : Ps4 F F'' w w2 :=
  ⟨k.os.trans h.os, k.tape.trans h.tape, k.output.trans h.output, Nat.le_trans h.size k.size, fun i hi hn => (k.block i (Nat.lt_of_lt_of_le hi h.size) (fun q => (h.sub i q).elim hn (fun e => by omega))).trans (h.block i hi hn),
    fun i hi => (k.sub i hi).elim (fun q => h.sub i q) (fun q => .inr (Nat.le_trans h.size q))⟩
theorem Pq4.tys (h : Pq4 F W D b v S m rv L Sm tv T mv Tm) :
    tyB W D = some 28 ∧ tyB W b = some 83 ∧ tyB W m = some 62 ∧ (∀ g, v.ownBlock = some g → tyB W g = some 3) ∧ (∀ g, rv.ownBlock = some g → tyB W g = some 46) ∧ (∀ g, tv.ownBlock = some g → tyB W g = some 70) ∧ (∀ g, mv.ownBlock = some g → tyB W g = some 72) ∧
    (∀ x ∈ L, ∀ g, x.1.ownBlock = some g → tyB W g = some 3) ∧ (∀ t ∈ T, tyB W t.m = some 89 ∧ tyB W t.mb = none) ∧ (∀ t ∈ Tm, ∀ g, t.mv.ownBlock = some g → tyB W g = some 91) :=
  ⟨tyB_cells h.bx, tyB_cells h.ar.box, tyB_cells h.mz.ma.box, fun g hg => tyB_row h.ar.own hg, fun g hg => tyB_row h.mz.ma.ml.row hg, fun g hg => tyB_row h.tr hg, fun g hg => tyB_row h.mr hg, fun x hx g hg => tyB_row (h.mz.ma.ml.own x hx) hg, fun t ht => tyB_map (h.te t ht), fun t ht g hg => tyB_row (h.tm t ht).1 hg⟩
/-- a step of the arena -/
theorem Pq4.arStep (h : Pq4 F W D b v S m rv L Sm tv T mv Tm) (k : Mv W b v W' v') (a : Ar W' b v' S') : Pq4 (Fn4 F W W') W' D b v' S' m rv L Sm tv T mv Tm ∧ Ps4 F (Fn4 F W W') W W' := by
  obtain ⟨tD, tb, tm, tvv, trv, ttv, tmv, tL, tT, tM⟩ := h.tys
  have hk : ∀ i, F i → tyB W i ≠ some 83 → tyB W i ≠ some 3 → W'.heap[i]? = W.heap[i]? := fun i hi h1 h2 => k.block i (h.lt' i hi) (fun e => h1 (by rw [e]; exact tb)) (fun e => h2 (tvv i e.symm))
  have nv : ∀ g, v'.ownBlock = some g → Fn4 F W W' g := fun g hg => by
    rcases k.new with e | e
    · exact .inl (h.fv.1 g (by rw [← e]; exact hg))
    · exact .inr ⟨e g hg, (World.ownsRow.lt a.own g hg).2⟩
  have nL : ∀ x ∈ L, ∀ g, x.1.ownBlock = some g → W'.heap[g]? = W.heap[g]? := fun x hx g hg => k.block g (h.lt' g (h.fL x hx g hg)) (ne_ty (tL x hx g hg) tb (by decide)) (fun e => h.sp x hx g hg e.symm)
  refine ⟨⟨(hk D h.fD.1 (by rw [tD]; decide) (by rw [tD]; decide)).trans h.bx, a, ⟨⟨(hk m h.fD.2.2 (by rw [tm]; decide) (by rw [tm]; decide)).trans h.mz.ma.box, ⟨row_kept4 h.mz.ma.ml.row fun i e => hk i (h.fv.2.1 i e) (by rw [trv i e]; decide) (by rw [trv i e]; decide), fun x hx => row_kept4 (h.mz.ma.ml.own x hx) fun i e => nL x hx i e⟩, h.mz.ma.lo⟩, h.mz.eq⟩,
    row_kept4 h.tr fun i e => hk i (h.fv.2.2.1 i e) (by rw [ttv i e]; decide) (by rw [ttv i e]; decide), row_kept4 h.mr fun i e => hk i (h.fv.2.2.2 i e) (by rw [tmv i e]; decide) (by rw [tmv i e]; decide),
    fun t ht => tells_kept (h.te t ht) (hk _ (h.fT t ht).1 (by rw [(tT t ht).1]; decide) (by rw [(tT t ht).1]; decide)) (hk _ (h.fT t ht).2 (by rw [(tT t ht).2]; simp) (by rw [(tT t ht).2]; simp)),
    fun t ht => ⟨row_kept4 (h.tm t ht).1 fun i e => hk i (h.fM t ht i e) (by rw [tM t ht i e]; decide) (by rw [tM t ht i e]; decide), (h.tm t ht).2⟩,
    ⟨.inl h.fD.1, .inl h.fD.2.1, .inl h.fD.2.2⟩, ⟨nv, fun g hg => .inl (h.fv.2.1 g hg), fun g hg => .inl (h.fv.2.2.1 g hg), fun g hg => .inl (h.fv.2.2.2 g hg)⟩, fun x hx g hg => .inl (h.fL x hx g hg), fun t ht => ⟨.inl (h.fT t ht).1, .inl (h.fT t ht).2⟩, fun t ht g hg => .inl (h.fM t ht g hg), Fn4.lt h.lt' k.size, fun x hx g hg => ?_⟩, Fn4.ps (fun i hi hn => k.block i hi (fun e => hn (by rw [e]; exact h.fD.2.1)) (fun e => hn (h.fv.1 i e.symm))) k.os k.tape k.output k.size⟩
  rcases k.new with e | e
  · rw [e]; exact h.sp x hx g hg
  · intro q
    have := e g q
    have := h.lt' g (h.fL x hx g hg)
    omega
/-- a step of the document's -/
theorem Pq4.docStep (h : Pq4 F W D b v S m rv L Sm tv T mv Tm) (k : Mv W m rv W' rv') (z : Mz4 0 W' m rv' L' Sm') (vs : Vs4 W L L') : Pq4 (Fn4 F W W') W' D b v S m rv' L' Sm' tv T mv Tm ∧ Ps4 F (Fn4 F W W') W W' := by
  obtain ⟨tD, tb, tm, tvv, trv, ttv, tmv, tL, tT, tM⟩ := h.tys
  have hk : ∀ i, F i → tyB W i ≠ some 62 → tyB W i ≠ some 46 → W'.heap[i]? = W.heap[i]? := fun i hi h1 h2 => k.block i (h.lt' i hi) (fun e => h1 (by rw [e]; exact tm)) (fun e => h2 (trv i e.symm))
  have nv : ∀ g, rv'.ownBlock = some g → Fn4 F W W' g := fun g hg => by
    rcases k.new with e | e
    · exact .inl (h.fv.2.1 g (by rw [← e]; exact hg))
    · exact .inr ⟨e g hg, (World.ownsRow.lt z.ma.ml.row g hg).2⟩
  refine ⟨⟨(hk D h.fD.1 (by rw [tD]; decide) (by rw [tD]; decide)).trans h.bx, ⟨(hk b h.fD.2.1 (by rw [tb]; decide) (by rw [tb]; decide)).trans h.ar.box, row_kept4 h.ar.own fun i e => hk i (h.fv.1 i e) (by rw [tvv i e]; decide) (by rw [tvv i e]; decide), h.ar.ok⟩, z,
    row_kept4 h.tr fun i e => hk i (h.fv.2.2.1 i e) (by rw [ttv i e]; decide) (by rw [ttv i e]; decide), row_kept4 h.mr fun i e => hk i (h.fv.2.2.2 i e) (by rw [tmv i e]; decide) (by rw [tmv i e]; decide),
    fun t ht => tells_kept (h.te t ht) (hk _ (h.fT t ht).1 (by rw [(tT t ht).1]; decide) (by rw [(tT t ht).1]; decide)) (hk _ (h.fT t ht).2 (by rw [(tT t ht).2]; simp) (by rw [(tT t ht).2]; simp)),
    fun t ht => ⟨row_kept4 (h.tm t ht).1 fun i e => hk i (h.fM t ht i e) (by rw [tM t ht i e]; decide) (by rw [tM t ht i e]; decide), (h.tm t ht).2⟩,
    ⟨.inl h.fD.1, .inl h.fD.2.1, .inl h.fD.2.2⟩, ⟨fun g hg => .inl (h.fv.1 g hg), nv, fun g hg => .inl (h.fv.2.2.1 g hg), fun g hg => .inl (h.fv.2.2.2 g hg)⟩, fun x hx g hg => ?_, fun t ht => ⟨.inl (h.fT t ht).1, .inl (h.fT t ht).2⟩, fun t ht g hg => .inl (h.fM t ht g hg), Fn4.lt h.lt' k.size, fun x hx g hg => ?_⟩, Fn4.ps (fun i hi hn => k.block i hi (fun e => hn (by rw [e]; exact h.fD.2.2)) (fun e => hn (h.fv.2.1 i e.symm))) k.os k.tape k.output k.size⟩
  · rcases vs x hx with ⟨y, hy, e⟩ | e
    · exact .inl (h.fL y hy g (by rw [e]; exact hg))
    · exact .inr ⟨e g hg, (World.ownsRow.lt (z.ma.ml.own x hx) g hg).2⟩
  · rcases vs x hx with ⟨y, hy, e⟩ | e
    · exact h.sp y hy g (by rw [e]; exact hg)
    · intro q
      have := e g hg
      have := h.lt' g (h.fv.1 g q)
      omega
/-- one more is told -/
theorem Pq4.toldStep (h : Pq4 F W D b v S m rv L Sm tv T mv Tm) (t : Te) (hbx : W'.heap[D]? = some (.cells #[.pointer (some ⟨b, 0, none⟩), .pointer (some ⟨m, 0, none⟩), tv', mv] 28 (0, 0))) (hr : W'.ownsRow 0 70 1 tv' (T.length + 1) (T.map fnT ++ [fnT t])) (k : Mv W D tv W' tv') (ht : TellsAt W t.m t.mb (lv 0 t.So)) (f1 : F t.m) (f2 : F t.mb) : Pq4 (Fn4 F W W') W' D b v S m rv L Sm tv' (T ++ [t]) mv Tm ∧ Ps4 F (Fn4 F W W') W W' := by
  obtain ⟨tD, tb, tm, tvv, trv, ttv, tmv, tL, tT, tM⟩ := h.tys
  have hk : ∀ i, F i → tyB W i ≠ some 28 → tyB W i ≠ some 70 → W'.heap[i]? = W.heap[i]? := fun i hi h1 h2 => k.block i (h.lt' i hi) (fun e => h1 (by rw [e]; exact tD)) (fun e => h2 (ttv i e.symm))
  have nv : ∀ g, tv'.ownBlock = some g → Fn4 F W W' g := fun g hg => by
    rcases k.new with e | e
    · exact .inl (h.fv.2.2.1 g (by rw [← e]; exact hg))
    · exact .inr ⟨e g hg, (World.ownsRow.lt hr g hg).2⟩
  have tells : ∀ t : Te, TellsAt W t.m t.mb (lv 0 t.So) → F t.m → F t.mb → TellsAt W' t.m t.mb (lv 0 t.So) := fun t ht f1 f2 => tells_kept ht (hk _ f1 (by rw [(tyB_map ht).1]; decide) (by rw [(tyB_map ht).1]; decide)) (hk _ f2 (by rw [(tyB_map ht).2]; simp) (by rw [(tyB_map ht).2]; simp))
  exact ⟨⟨hbx, ⟨(hk b h.fD.2.1 (by rw [tb]; decide) (by rw [tb]; decide)).trans h.ar.box, row_kept4 h.ar.own fun i e => hk i (h.fv.1 i e) (by rw [tvv i e]; decide) (by rw [tvv i e]; decide), h.ar.ok⟩, ⟨⟨(hk m h.fD.2.2 (by rw [tm]; decide) (by rw [tm]; decide)).trans h.mz.ma.box, ⟨row_kept4 h.mz.ma.ml.row fun i e => hk i (h.fv.2.1 i e) (by rw [trv i e]; decide) (by rw [trv i e]; decide), fun x hx => row_kept4 (h.mz.ma.ml.own x hx) fun i e => hk i (h.fL x hx i e) (by rw [tL x hx i e]; decide) (by rw [tL x hx i e]; decide)⟩, h.mz.ma.lo⟩, h.mz.eq⟩,
    by rw [List.length_append, List.map_append]; exact hr, row_kept4 h.mr fun i e => hk i (h.fv.2.2.2 i e) (by rw [tmv i e]; decide) (by rw [tmv i e]; decide),
    fun u hu => (List.mem_append.1 hu).elim (fun q => tells u (h.te u q) (h.fT u q).1 (h.fT u q).2) (fun q => by rw [List.mem_singleton.1 q]; exact tells t ht f1 f2),
    fun t ht => ⟨row_kept4 (h.tm t ht).1 fun i e => hk i (h.fM t ht i e) (by rw [tM t ht i e]; decide) (by rw [tM t ht i e]; decide), (h.tm t ht).2⟩,
    ⟨.inl h.fD.1, .inl h.fD.2.1, .inl h.fD.2.2⟩, ⟨fun g hg => .inl (h.fv.1 g hg), fun g hg => .inl (h.fv.2.1 g hg), nv, fun g hg => .inl (h.fv.2.2.2 g hg)⟩, fun x hx g hg => .inl (h.fL x hx g hg), fun u hu => (List.mem_append.1 hu).elim (fun q => ⟨.inl (h.fT u q).1, .inl (h.fT u q).2⟩) (fun q => by rw [List.mem_singleton.1 q]; exact ⟨.inl f1, .inl f2⟩), fun t ht g hg => .inl (h.fM t ht g hg), Fn4.lt h.lt' k.size, h.sp⟩, Fn4.ps (fun i hi hn => k.block i hi (fun e => hn (by rw [e]; exact h.fD.1)) (fun e => hn (h.fv.2.2.1 i e.symm))) k.os k.tape k.output k.size⟩
/-- one more is noted as moved -/
theorem Pq4.movedStep (h : Pq4 F W D b v S m rv L Sm tv T mv Tm) (t : Te) (hbx : W'.heap[D]? = some (.cells #[.pointer (some ⟨b, 0, none⟩), .pointer (some ⟨m, 0, none⟩), tv, mv'] 28 (0, 0))) (hr : W'.ownsRow 0 72 1 mv' (Tm.length + 1) (Tm.map Te.mv ++ [t.mv])) (k : Mv W D mv W' mv') (ht : W.ownsRow 0 91 2 t.mv (mdT t).length (rowsV (mdT t))) (hl : (mdT t).length ≤ 1099511627776) (f1 : ∀ g, t.mv.ownBlock = some g → F g) : Pq4 (Fn4 F W W') W' D b v S m rv L Sm tv T mv' (Tm ++ [t]) ∧ Ps4 F (Fn4 F W W') W W' := by
  obtain ⟨tD, tb, tm, tvv, trv, ttv, tmv, tL, tT, tM⟩ := h.tys
  have hk : ∀ i, F i → tyB W i ≠ some 28 → tyB W i ≠ some 72 → W'.heap[i]? = W.heap[i]? := fun i hi h1 h2 => k.block i (h.lt' i hi) (fun e => h1 (by rw [e]; exact tD)) (fun e => h2 (tmv i e.symm))
  have nv : ∀ g, mv'.ownBlock = some g → Fn4 F W W' g := fun g hg => by
    rcases k.new with e | e
    · exact .inl (h.fv.2.2.2 g (by rw [← e]; exact hg))
    · exact .inr ⟨e g hg, (World.ownsRow.lt hr g hg).2⟩
  have rows : ∀ t : Te, W.ownsRow 0 91 2 t.mv (mdT t).length (rowsV (mdT t)) → (∀ g, t.mv.ownBlock = some g → F g) → W'.ownsRow 0 91 2 t.mv (mdT t).length (rowsV (mdT t)) := fun t ht f => row_kept4 ht fun i e => hk i (f i e) (by rw [tyB_row ht e]; decide) (by rw [tyB_row ht e]; decide)
  exact ⟨⟨hbx, ⟨(hk b h.fD.2.1 (by rw [tb]; decide) (by rw [tb]; decide)).trans h.ar.box, row_kept4 h.ar.own fun i e => hk i (h.fv.1 i e) (by rw [tvv i e]; decide) (by rw [tvv i e]; decide), h.ar.ok⟩, ⟨⟨(hk m h.fD.2.2 (by rw [tm]; decide) (by rw [tm]; decide)).trans h.mz.ma.box, ⟨row_kept4 h.mz.ma.ml.row fun i e => hk i (h.fv.2.1 i e) (by rw [trv i e]; decide) (by rw [trv i e]; decide), fun x hx => row_kept4 (h.mz.ma.ml.own x hx) fun i e => hk i (h.fL x hx i e) (by rw [tL x hx i e]; decide) (by rw [tL x hx i e]; decide)⟩, h.mz.ma.lo⟩, h.mz.eq⟩,
    row_kept4 h.tr fun i e => hk i (h.fv.2.2.1 i e) (by rw [ttv i e]; decide) (by rw [ttv i e]; decide), by rw [List.length_append, List.map_append]; exact hr,
    fun t ht => tells_kept (h.te t ht) (hk _ (h.fT t ht).1 (by rw [(tT t ht).1]; decide) (by rw [(tT t ht).1]; decide)) (hk _ (h.fT t ht).2 (by rw [(tT t ht).2]; simp) (by rw [(tT t ht).2]; simp)),
    fun u hu => (List.mem_append.1 hu).elim (fun q => ⟨rows u (h.tm u q).1 (h.fM u q), (h.tm u q).2⟩) (fun q => by rw [List.mem_singleton.1 q]; exact ⟨rows t ht f1, hl⟩),
    ⟨.inl h.fD.1, .inl h.fD.2.1, .inl h.fD.2.2⟩, ⟨fun g hg => .inl (h.fv.1 g hg), fun g hg => .inl (h.fv.2.1 g hg), fun g hg => .inl (h.fv.2.2.1 g hg), nv⟩, fun x hx g hg => .inl (h.fL x hx g hg), fun t ht => ⟨.inl (h.fT t ht).1, .inl (h.fT t ht).2⟩, fun u hu => (List.mem_append.1 hu).elim (fun q g hg => .inl (h.fM u q g hg)) (fun q g hg => by rw [List.mem_singleton.1 q] at hg; exact .inl (f1 g hg)), Fn4.lt h.lt' k.size, h.sp⟩, Fn4.ps (fun i hi hn => k.block i hi (fun e => hn (by rw [e]; exact h.fD.1)) (fun e => hn (h.fv.2.2.2 i e.symm))) k.os k.tape k.output k.size⟩
/-- what was told does not hang on what the document moved -/
theorem Pq4.renote {t t' : Te} (h : Pq4 F W D b v S m rv L Sm tv (T ++ [t]) mv Tm) (h1 : t'.m = t.m) (h2 : t'.mb = t.mb) (h3 : t'.So = t.So) : Pq4 F W D b v S m rv L Sm tv (T ++ [t']) mv Tm := by
  have hf : fnT t' = fnT t := by unfold fnT; rw [h1]
  exact ⟨h.bx, h.ar, h.mz, by have := h.tr; simp only [List.length_append, List.map_append, List.map_cons, List.map_nil, List.length_cons, List.length_nil, hf] at this ⊢; exact this, h.mr,
    fun u hu => (List.mem_append.1 hu).elim (fun q => h.te u (List.mem_append.2 (.inl q))) (fun q => by rw [List.mem_singleton.1 q, h1, h2, h3]; exact h.te t (by simp)), h.tm, h.fD, h.fv, h.fL, fun u hu => (List.mem_append.1 hu).elim (fun q => h.fT u (List.mem_append.2 (.inl q))) (fun q => by rw [List.mem_singleton.1 q, h1, h2]; exact h.fT t (by simp)), h.fM, h.lt', h.sp⟩
/-- more blocks -/
theorem Pq4.more {F' : Nat → Prop} (h : Pq4 F W D b v S m rv L Sm tv T mv Tm) (hF : ∀ k, F k → F' k) (hl : ∀ k, F' k → k < W.heap.size) : Pq4 F' W D b v S m rv L Sm tv T mv Tm :=
  ⟨h.bx, h.ar, h.mz, h.tr, h.mr, h.te, h.tm, ⟨hF _ h.fD.1, hF _ h.fD.2.1, hF _ h.fD.2.2⟩, ⟨fun g hg => hF _ (h.fv.1 g hg), fun g hg => hF _ (h.fv.2.1 g hg), fun g hg => hF _ (h.fv.2.2.1 g hg), fun g hg => hF _ (h.fv.2.2.2 g hg)⟩, fun x hx g hg => hF _ (h.fL x hx g hg), fun t ht => ⟨hF _ (h.fT t ht).1, hF _ (h.fT t ht).2⟩, fun t ht g hg => hF _ (h.fM t ht g hg), hl, h.sp⟩
end
end Go.Proofs.Ytnglgcipjbpgoaa
