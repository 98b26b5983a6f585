/-
  What the document's one says of sizes; what lists comes to (pure); rows of relations of a call's own, and rows of such rows.
  KEEP: off c0 c1 c2 c3 c4 s0 s1 s2 s3 s4 newS rds lt f t q x OwnR OwnRs St22 LsAns blw Ap put_app step_append_apk len below nil form rd mono on app start at new trans refl kept own row out grown rdz set one more lt size cell some none letL tail next step go add put del get look no yes e c f b k n m box take each block shape os tape output setCell heap alloc addr last blk drew keep done
-/
import Derived.Test.YtmfcaoacklbkoaaDoorRlP
import Derived.Test.YtmfcaoacklbkoaaDoorAppK
set_option linter.unusedSimpArgs false
set_option linter.unusedVariables false
namespace Go.Proofs.YtmfcaoacklbkoaaDoor
open Go Go.RowKit

theorem runF_le22 (p : Int → Bool) (s : ByteArray) {k : Nat} (h : k ≤ s.size) : runF p s.data.toList k ≤ s.size := by
  have := runF_le p s.data.toList k (by rw [size20]; exact h)
  rwa [size20] at this
theorem onD_ok {s n v : ByteArray} {o : Int} {g : Nat} (hg : g ≤ s.size) (h : (onD s n o v g).e = 0) : onD s n o v g = ⟨n, o, v, 0, runF gapZ s.data.toList (g + 1)⟩ ∧ g < s.size := by
  unfold onD at h ⊢
  split at h
  · rename_i e
    have hlt : g < s.size := by
      apply Classical.byContradiction
      intro hn; rw [atB_out hn] at e; cases e
    exact ⟨by rw [if_pos e], hlt⟩
  · exact absurd h (show ¬ (220 : Int) = 0 by decide)
theorem onC_ok {s n : ByteArray} {o : Int} {d : Nat} (hd : d ≤ s.size) (h : (onC s n o d).e = 0) : (onC s n o d).n = n ∧ (onC s n o d).v.size ≤ s.size ∧ d < (onC s n o d).k ∧ (onC s n o d).k ≤ s.size := by
  unfold onC at h ⊢
  simp only [] at h ⊢
  split at h
  · exact absurd h (show ¬ (220 : Int) = 0 by decide)
  · rename_i h1
    rw [if_neg h1]
    split at h
    · exact absurd h (show ¬ (200 : Int) = 0 by decide)
    · rename_i h2
      rw [if_neg h2]
      have hf := runF_le22 wrdZ s hd
      have hf2 := runF_ge wrdZ s.data.toList d
      have hg := runF_le22 gapZ s hf
      have hg2 := runF_ge gapZ s.data.toList (runF wrdZ s.data.toList d)
      obtain ⟨e, hlt⟩ := onD_ok hg h
      rw [e]
      have hk := runF_le22 gapZ s (k := runF gapZ s.data.toList (runF wrdZ s.data.toList d) + 1) (by omega)
      have hk2 := runF_ge gapZ s.data.toList (runF gapZ s.data.toList (runF wrdZ s.data.toList d) + 1)
      exact ⟨rfl, by show (s.extract _ _).size ≤ _; rw [ByteArray.size_extract]; omega, by show d < runF _ _ _; omega, hk⟩
theorem onB_ok {s n : ByteArray} {b : Nat} (hb : b ≤ s.size) (h : (onB s n b).e = 0) : (onB s n b).n = n ∧ (onB s n b).v.size ≤ s.size ∧ b < (onB s n b).k ∧ (onB s n b).k ≤ s.size := by
  unfold onB at h ⊢
  simp only [] at h ⊢
  split at h
  · exact absurd h (show ¬ (220 : Int) = 0 by decide)
  · rename_i h1
    rw [if_neg h1]
    have hc := runF_le22 sgnZ s hb
    have hc2 := runF_ge sgnZ s.data.toList b
    have hd := runF_le22 gapZ s hc
    have hd2 := runF_ge gapZ s.data.toList (runF sgnZ s.data.toList b)
    obtain ⟨e1, e2, e3, e4⟩ := onC_ok hd h
    exact ⟨e1, e2, by omega, e4⟩
theorem onA_ok {s n : ByteArray} {a : Nat} (ha : a ≤ s.size) (h : (onA s n a).e = 0) : (onA s n a).n = n ∧ (onA s n a).v.size ≤ s.size ∧ a ≤ (onA s n a).k ∧ (onA s n a).k ≤ s.size := by
  unfold onA at h ⊢
  split at h
  · rename_i e
    rw [if_pos e]
    have hlt : a < s.size := by
      apply Classical.byContradiction
      intro hn; rw [atB_out hn] at e; cases e
    have hd := runF_le22 gapZ s (k := a + 1) (by omega)
    have hd2 := runF_ge gapZ s.data.toList (a + 1)
    obtain ⟨e1, e2, e3, e4⟩ := onB_ok hd h
    exact ⟨e1, e2, by omega, e4⟩
  · rename_i e
    rw [if_neg e]
    exact ⟨rfl, Nat.zero_le _, Nat.le_refl _, ha⟩
theorem one_ok22 {s : ByteArray} {k : Nat} (hk : k ≤ s.size) (h : (oneF s k).e = 0) : (oneF s k).n.size ≤ s.size ∧ (oneF s k).v.size ≤ s.size ∧ k < (oneF s k).k ∧ (oneF s k).k ≤ s.size := by
  unfold oneF at h ⊢
  simp only [] at h ⊢
  split at h
  · exact absurd h (show ¬ (220 : Int) = 0 by decide)
  · rename_i h1
    rw [if_neg h1]
    split at h
    · exact absurd h (show ¬ (230 : Int) = 0 by decide)
    · rename_i h2
      rw [if_neg h2]
      have ht := runF_le22 wrdZ s hk
      have ht2 := runF_ge wrdZ s.data.toList k
      have ha := runF_le22 gapZ s ht
      have ha2 := runF_ge gapZ s.data.toList (runF wrdZ s.data.toList k)
      obtain ⟨e1, e2, e3, e4⟩ := onA_ok ha h
      rw [e1]
      exact ⟨by rw [ByteArray.size_extract]; omega, e2, by omega, e4⟩

/-- a relation: its name, its operator, its version -/
abbrev Rl := ByteArray × Int × ByteArray
/-- what lists comes to, from a relation on -/
def lstS (s : ByteArray) (bars : Bool) : Nat → Nat → List (List Rl) → List Rl → Except (Int × Int) (List (List Rl))
  | 0, _, _, _ => .ok []
  | f + 1, k, out, now =>
    if (oneF s k).e ≠ 0 then .error ((oneF s k).e, (oneF s k).k)
    else if atB s (oneF s k).k = 124 ∧ bars = true then lstS s bars f (runF gapZ s.data.toList ((oneF s k).k + 1)) out (now ++ [((oneF s k).n, (oneF s k).o, (oneF s k).v)])
    else if s.size ≤ (oneF s k).k then .ok (out ++ [now ++ [((oneF s k).n, (oneF s k).o, (oneF s k).v)]])
    else if atB s (oneF s k).k ≠ 44 then .error (220, (oneF s k).k)
    else lstS s bars f (runF gapZ s.data.toList ((oneF s k).k + 1)) (out ++ [now ++ [((oneF s k).n, (oneF s k).o, (oneF s k).v)]]) []
def lstF (s : ByteArray) (bars : Bool) : Except (Int × Int) (List (List Rl)) :=
  if runF gapZ s.data.toList 0 = s.size then .ok [] else lstS s bars (s.size + 1) (runF gapZ s.data.toList 0) [] []

def relC (rs : List Rl) : List Value := rs.flatMap (fun r => [.string r.1, .int .i64 r.2.1, .string r.2.2])
theorem relC_len (rs : List Rl) : (relC rs).length = rs.length * 3 := by
  induction rs with
  | nil => rfl
  | cons x r ih => simp only [relC, List.flatMap_cons, List.length_append, List.length_cons, List.length_nil] at ih ⊢; omega
theorem relC_snoc (rs : List Rl) (f : Rl) : relC (rs ++ [f]) = relC rs ++ [.string f.1, .int .i64 f.2.1, .string f.2.2] := by simp [relC]
def OwnR (B : Nat) (W : World) (v : Value) (rs : List Rl) : Prop := W.ownsRow B 34 3 v rs.length (relC rs)
theorem OwnR.nil (B : Nat) (W : World) : OwnR B W (.slice none 0 0) [] := World.ownsRow_nil _ _ _ _
theorem row_kept22 {W W' : World} {B : Nat} {s : Value} {n : Nat} {xs : List Value} {T : TypeId} {sz : Nat} (h : W.ownsRow B T sz s n xs) (hk : ∀ k, s.ownBlock = some k → W'.heap[k]? = W.heap[k]?) : W'.ownsRow B T sz s n xs := by
  refine ⟨h.1, ?_⟩
  rcases h.2 with h2 | ⟨g, cap, cur, rfl, hg, hh, r⟩
  · exact .inl h2
  · exact .inr ⟨g, cap, cur, rfl, hg, (hk g rfl).trans hh, r⟩
theorem row_ty22 {W : World} {B : Nat} {s : Value} {n : Nat} {xs : List Value} {T : TypeId} {sz : Nat} (h : W.ownsRow B T sz s n xs) {g : Nat} (hg : s.ownBlock = some g) : ∃ cs f, W.heap[g]? = some (.cells cs T f) := by
  rcases h.2 with ⟨rfl, _⟩ | ⟨g', cap, cur, rfl, _, hh, _⟩
  · cases hg
  · have : g' = g := by simpa [Value.ownBlock] using hg
    subst this
    exact ⟨_, _, hh⟩
theorem row_form22 {W : World} {B : Nat} {s : Value} {n : Nat} {xs : List Value} {T : TypeId} {sz : Nat} (h : W.ownsRow B T sz s n xs) : ∃ a c, s = .slice a n c := by
  rcases h.2 with ⟨rfl, rfl⟩ | ⟨g, cap, cur, rfl, r⟩
  · exact ⟨none, 0, rfl⟩
  · exact ⟨_, _, rfl⟩
theorem ty_apart22 {W : World} {g : Nat} {T T' : TypeId} (h : ∃ cs f, W.heap[g]? = some (.cells cs T f)) (h' : ∃ cs f, W.heap[g]? = some (.cells cs T' f)) : T = T' := by
  obtain ⟨c, f, e⟩ := h
  obtain ⟨c', f', e'⟩ := h'
  rw [e] at e'
  injection e' with e'
  injection e'
def apR (a b : Value) : Prop := ∀ g, a.ownBlock = some g → b.ownBlock ≠ some g
abbrev RG := Value × List Rl
def rgC (L : List RG) : List Value := L.map (fun x => x.1)
def rgS (L : List RG) : List (List Rl) := L.map (fun x => x.2)
/-- a row of lists of relations that a call owns, each its own and apart from the others -/
structure OwnRs (B : Nat) (W : World) (s : Value) (L : List RG) : Prop where
  row : W.ownsRow B 26 1 s L.length (rgC L)
  own : ∀ x ∈ L, OwnR B W x.1 x.2
  ap : L.Pairwise (fun x y => apR x.1 y.1)
theorem OwnRs.nil (B : Nat) (W : World) : OwnRs B W (.slice none 0 0) [] := ⟨World.ownsRow_nil _ _ _ _, fun x hx => (by cases hx), List.Pairwise.nil⟩
theorem OwnRs.mono {B B' : Nat} {W : World} {s : Value} {L : List RG} (h : OwnRs B W s L) (hb : B' ≤ B) : OwnRs B' W s L := ⟨row_mono h.row hb, fun x hx => row_mono (h.own x hx) hb, h.ap⟩
/-- between two relations: the lists that are done, the list that is being read -/
structure St22 (B : Nat) (W : World) (s : Value) (L : List RG) (v : Value) (N : List Rl) : Prop where
  t : OwnRs B W s L
  g : OwnR B W v N
  ap : ∀ x ∈ L, apR x.1 v
theorem St22.nil (B : Nat) (W : World) : St22 B W (.slice none 0 0) [] (.slice none 0 0) [] := ⟨OwnRs.nil _ _, OwnR.nil _ _, fun x hx => (by cases hx)⟩
section
variable {B : Nat} {W W' : World} {s v : Value} {L : List RG} {N : List Rl}
theorem St22.keep (h : St22 B W s L v N) (hk : ∀ k, k < W.heap.size → W'.heap[k]? = W.heap[k]?) : St22 B W' s L v N :=
  ⟨⟨row_kept22 h.t.row fun k e => hk k (World.ownsRow.lt h.t.row k e).2, fun x hx => row_kept22 (h.t.own x hx) fun k e => hk k (World.ownsRow.lt (h.t.own x hx) k e).2, h.t.ap⟩, row_kept22 h.g fun k e => hk k (World.ownsRow.lt h.g k e).2, h.ap⟩
theorem St22.blw (h : St22 B W s L v N) (hb : Below W.heap.size W W') : St22 B W' s L v N := h.keep fun k hk => hb.block k hk
/-- a relation is put behind the list that is being read -/
theorem St22.put {w8 : World} {v8 : Value} {o : Obj} {r : Rl} (h : St22 B W s L v N) (own8 : w8.ownsRow B 34 3 v8 (N.length + 1) (relC N ++ [.string r.1, .int .i64 r.2.1, .string r.2.2])) (ap8 : Ap (W.alloc o) v w8 v8) :
    St22 B w8 s L v8 (N ++ [r]) ∧ ∃ a8 c8, v8 = .slice a8 (N.length + 1) c8 := by
  have hsn : (W.alloc o).heap.size = W.heap.size + 1 := by simp
  have hk : ∀ k, k < W.heap.size → some k ≠ v.ownBlock → w8.heap[k]? = W.heap[k]? := fun k hk hne => (ap8.grown.block k (by rw [hsn]; omega) hne).trans (Below.heap_alloc W o k hk)
  refine ⟨⟨⟨row_kept22 h.t.row fun k e => hk k (World.ownsRow.lt h.t.row k e).2 fun e2 => absurd (ty_apart22 (row_ty22 h.t.row e) (row_ty22 h.g e2.symm)) (by decide), fun x hx => row_kept22 (h.t.own x hx) fun k e => hk k (World.ownsRow.lt (h.t.own x hx) k e).2 fun e2 => h.ap x hx k e e2.symm, h.t.ap⟩, by unfold OwnR; rw [relC_snoc]; simpa using own8, fun x hx g e e2 => ?_⟩, row_form22 own8⟩
  rcases ap8.new with h2 | h2
  · exact h.ap x hx g e (h2 ▸ e2)
  · have h3 := h2 g e2
    have h4 := (World.ownsRow.lt (h.t.own x hx) g e).2
    rw [hsn] at h3
    omega
/-- the list that is being read is done -/
theorem St22.done {w8 : World} {s8 : Value} {o : Obj} (h : St22 B W s L v N) (own8 : w8.ownsRow B 26 1 s8 (L.length + 1) (rgC L ++ [v])) (ap8 : Ap (W.alloc o) s w8 s8) :
    OwnRs B w8 s8 (L ++ [(v, N)]) ∧ ∃ a8 c8, s8 = .slice a8 (L.length + 1) c8 := by
  have hsn : (W.alloc o).heap.size = W.heap.size + 1 := by simp
  have hk : ∀ k, k < W.heap.size → some k ≠ s.ownBlock → w8.heap[k]? = W.heap[k]? := fun k hk hne => (ap8.grown.block k (by rw [hsn]; omega) hne).trans (Below.heap_alloc W o k hk)
  have nf : ∀ {u : Value} {rs : List Rl}, OwnR B W u rs → OwnR B w8 u rs := fun hu => row_kept22 hu fun k e => hk k (World.ownsRow.lt hu k e).2 fun e2 => absurd (ty_apart22 (row_ty22 hu e) (row_ty22 h.t.row e2.symm)) (by decide)
  refine ⟨⟨by simpa [rgC] using own8, fun x hx => ?_, ?_⟩, row_form22 own8⟩
  · rcases List.mem_append.1 hx with hx | hx
    · exact nf (h.t.own x hx)
    · obtain rfl := List.mem_singleton.1 hx
      exact nf h.g
  · rw [List.pairwise_append]
    refine ⟨h.t.ap, List.pairwise_singleton _ _, fun x hx y hy => ?_⟩
    obtain rfl := List.mem_singleton.1 hy
    exact h.ap x hx
end
theorem infoR22 : (Tryd.prog.info? 34).map (fun i => (i.zero, i.size, i.bytes)) = some (some (.agg #[.string ⟨#[]⟩, .int .i64 0, .string ⟨#[]⟩]), 3, 40) := by kernel_rfl
theorem infoRs22 : (Tryd.prog.info? 26).map (fun i => (i.zero, i.size, i.bytes)) = some (some (.slice none 0 0), 1, 24) := by kernel_rfl
theorem cell_of22 {W : World} {D : Nat} {xs : Array Value} {T : TypeId} {f : Nat × Nat} (h : W.heap[D]? = some (.cells xs T f)) (q : Nat) : W.cell? ⟨D, q, none⟩ = xs[q]? := by simp [World.cell?, h]
theorem three_new22 (W : World) (x y z : Value) (T : TypeId) : ∀ j u, [x, y, z][j]? = some u → (W.alloc (.cells #[x, y, z] T)).cell? ((⟨W.heap.size, 0, none⟩ : Addr).add j) = some u := fun j u h => by
  have e := World.alloc_heap_new W (.cells #[x, y, z] T)
  have c : ∀ q, (W.alloc (.cells #[x, y, z] T)).cell? ⟨W.heap.size, q, none⟩ = #[x, y, z][q]? := fun q => by
    exact cell_of22 e q
  rcases j with _ | _ | _ | j
  · simp at h; subst h; exact c 0
  · simp at h; subst h; exact c 1
  · simp at h; subst h; exact c 2
  · simp at h
theorem one_new22 (W : World) (x : Value) (T : TypeId) : ∀ j u, [x][j]? = some u → (W.alloc (.cells #[x] T)).cell? ((⟨W.heap.size, 0, none⟩ : Addr).add j) = some u := fun j u h => by
  have e := World.alloc_heap_new W (.cells #[x] T)
  rcases j with _ | j
  · simp at h; subst h; exact cell_of22 e 0
  · simp at h

end Go.Proofs.YtmfcaoacklbkoaaDoor
