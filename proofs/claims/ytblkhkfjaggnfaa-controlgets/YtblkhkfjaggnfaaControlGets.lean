/-
  The law ControlGets, walked.
  KEEP: walk below len form out each rd mono
-/
import Derived.Test.YtblkhkfjaggnfaaCvG
import Derived.Test.YtblkhkfjaggnfaaCoA
set_option linter.unusedSimpArgs false
set_option linter.unusedVariables false
namespace Go.Proofs.Ytblkhkfjaggnfaa.controlGets
open Go Go.RowKit

theorem rd_one (W : World) (ln : Int) (v : Value) (fs : List Fld) (hr : RdG W v fs) : RdSt (W.alloc (.cells #[.int .i64 ln, v] 24)) (.slice (some ⟨W.heap.size, 0, none⟩) 1 1) [(ln, fs)] := by
  have hz : Bz (W.alloc (.cells #[.int .i64 ln, v] 24)) W.heap.size ln v := Bz.mk1 _ _ _ _ rfl
  refine ⟨by simp, _, 1, rfl, Nat.le_refl _, by unfold maxLen; omega, fun _ => ⟨W.heap.size, 0, rfl, hz.lt, fun j hj => ?_⟩⟩
  obtain rfl : j = 0 := by simpa using hj
  exact ⟨v, hz.c0, hz.c1, hr.below (Below.alloc (Below.refl _ _) (Nat.le_refl _) _)⟩

set_option maxHeartbeats 1600000 in
set_option maxRecDepth 100000 in
theorem walk (ln : Int) (v : Value) (fs : List Fld) (t : ByteArray) (W : World) (hr : RdG W v fs) (ht : t.size ≤ 281474976710656) :
    Calls Try.prog 3 #[.agg #[.int .i64 ln, v], .string t] W fun e w' => e = .returned (.bool true) ∧ Below W.heap.size W w' := by
  have HR : Hid (RdG W v fs) := hr
  have HTs : Hid (t.size ≤ 281474976710656) := ht
  obtain ⟨a, c, rfl, -⟩ := hr.form
  obtain ⟨W1, hW1⟩ : ∃ W1, W1 = W.alloc (.cells #[.int .i64 ln, .slice a fs.length c] 24) := ⟨_, rfl⟩
  have hs1 : W1.heap.size = W.heap.size + 1 := by rw [hW1]; simp
  have hB1 : Below W.heap.size W W1 := by rw [hW1]; exact Below.alloc (Below.refl _ _) (Nat.le_refl _) _
  have hz1 : Bz W1 W.heap.size ln (.slice a fs.length c) := by rw [hW1]; exact Bz.mk1 _ _ _ _ rfl
  have hr1 : RdG W1 (.slice a fs.length c) fs := hr.below hB1
  have hr2 := rd_one W1 ln _ fs hr1
  rw [hs1] at hr2
  have HCp := copied21 _ _ _ hr2
  have HB2 : Hid (Below W.heap.size W (W1.alloc (.cells #[.int .i64 ln, .slice a fs.length c] 24))) := hB1.alloc (by omega) _
  have hz2 : Bz (W1.alloc (.cells #[.int .i64 ln, .slice a fs.length c] 24)) W.heap.size ln (.slice a fs.length c) := hz1.blw (Below.alloc (Below.refl _ _) (Nat.le_refl _) _) hz1.lt
  rw [hW1] at HCp HB2 hz2
  have HZ2 : Hid (Bz ((W.alloc (.cells #[.int .i64 ln, .slice a fs.length c] 24)).alloc (.cells #[.int .i64 ln, .slice a fs.length c] 24)) W.heap.size ln (.slice a fs.length c)) := hz2
  have HC2 : Hid (Calls Try.prog 5 #[.slice (some ⟨W.heap.size + 1, 0, none⟩) 1 1] ((W.alloc (.cells #[.int .i64 ln, .slice a fs.length c] 24)).alloc (.cells #[.int .i64 ln, .slice a fs.length c] 24)) fun e w' => ∃ v' L, e = .returned v' ∧ OwnSt ((W.alloc (.cells #[.int .i64 ln, .slice a fs.length c] 24)).alloc (.cells #[.int .i64 ln, .slice a fs.length c] 24)).heap.size w' v' L ∧ sgS L = [(ln, fs)] ∧ Below ((W.alloc (.cells #[.int .i64 ln, .slice a fs.length c] 24)).alloc (.cells #[.int .i64 ln, .slice a fs.length c] 24)).heap.size ((W.alloc (.cells #[.int .i64 ln, .slice a fs.length c] 24)).alloc (.cells #[.int .i64 ln, .slice a fs.length c] 24)) w') := HCp
  have HGp : Hid (∀ w a' c', RdG w (.slice a' fs.length c') fs → Calls Try.prog 4 #[.agg #[.int .i64 ln, .slice a' fs.length c'], .string t] w fun e w' => e = .returned (.tuple #[.string ⟨(tw2 (getF fs t.data.toList)).toArray⟩, .bool (getF fs t.data.toList).isSome]) ∧ Below w.heap.size w w') := fun w a' c' h => by
    have := get21 ln _ fs t w h ht
    rwa [gtV_form] at this
  have HGr : Hid (∀ w, RdG w (.slice a fs.length c) fs → Calls Try.prog 6 #[.agg #[.int .i64 ln, .slice a fs.length c], .string t] w fun e w' => e = .returned (.tuple #[.string ⟨(tw2 (getF fs t.data.toList)).toArray⟩, .bool (getF fs t.data.toList).isSome]) ∧ Below w.heap.size w w') := fun w h => by
    have := rGet21_any ln _ fs t w h
    rwa [gtV_form] at this
  have hsz := hr.each
  have HE : Hid (fs.length * 32 ≤ 140737488351232 ∧ ∀ f ∈ fs, f.1.length ≤ 281474976710656 ∧ f.2.length ≤ 281474976710656) := ⟨hr.len, hr.each⟩
  clear hsz hr ht HCp hz2 hr2 hr1 hz1 hB1 hs1 hW1 W1
  generalize (⟨(tw2 (getF fs t.data.toList)).toArray⟩ : ByteArray) = GV at *
  generalize (getF fs t.data.toList).isSome = GB at *
  go_enter Try.func3, Try.ntmps3
  go_wp2_with fail
  refine HC2.out.mono ?_
  rintro e w3 ⟨v3, L, rfl, own3, hL, bel3⟩
  clear HC2
  generalize ((W.alloc (.cells #[.int .i64 ln, .slice a fs.length c] 24)).alloc (.cells #[.int .i64 ln, .slice a fs.length c] 24)) = w2 at *
  have hB3 : Below W.heap.size W w3 := HB2.out.trans (bel3.mono HB2.out.size)
  have HB3 : Hid (Below W.heap.size W w3) := hB3
  have hz3 := HZ2.out.blw bel3 HZ2.out.lt
  have hRd := own3.rd (by have := congrArg List.length hL; rw [sgS_len] at this; simp at this; omega) (fun x hx => by
    have : (x.1, x.2.2) ∈ sgS L := List.mem_map.2 ⟨x, hx, rfl⟩
    rw [hL] at this
    have := List.mem_singleton.1 this
    have e : x.2.2 = fs := congrArg Prod.snd this
    rw [e]; exact HE.out)
  rw [hL] at hRd
  obtain ⟨a3, c3, rfl, hc, hm, hcell⟩ := hRd.form
  obtain ⟨b, off, u, rfl, hb, h0, h1, hru⟩ := hcell 0 (by simp)
  have h0 : w3.cell? ⟨b, off, none⟩ = some (.int .i64 ln) := by simpa using h0
  have h1 : w3.cell? ⟨b, off + 1, none⟩ = some u := by simpa using h1
  have hru : RdG w3 u fs := hru
  obtain ⟨au, cu, rfl, -⟩ := hru.form
  have HRu : Hid (RdG w3 (.slice au fs.length cu) fs) := hru
  have HR3 : Hid (RdG w3 (.slice a fs.length c) fs) := HR.out.below hB3
  have hc1 : 1 ≤ c3 := hc
  clear own3 bel3 hL hRd hcell hru hB3 HZ2 HB2 HR HE hc
  have z0 := hz3.c0
  have z1 := hz3.c1
  have HZ3 : Hid (Bz w3 W.heap.size ln (.slice a fs.length c)) := hz3
  clear hz3
  go_wp2_with fail
  refine (HGp.out _ _ _ HRu.out).mono ?_
  rintro e w4 ⟨rfl, bel4⟩
  have HB4 : Hid (Below W.heap.size W w4) := HB3.out.trans (bel4.mono HB3.out.size)
  have HR4 : Hid (RdG w4 (.slice a fs.length c) fs) := HR3.out.below bel4
  have hz4 := HZ3.out.blw bel4 HZ3.out.lt
  have y0 := hz4.c0
  have y1 := hz4.c1
  clear bel4 HB3 HR3 z0 z1 h0 h1 HZ3 hz4
  go_wp2_with fail
  refine (HGr.out _ HR4.out).mono ?_
  rintro e w5 ⟨rfl, bel5⟩
  have HB5 : Hid (Below W.heap.size W w5) := HB4.out.trans (bel5.mono HB4.out.size)
  clear bel5 HB4 HR4 y0 y1
  go_wp2
  all_goals
    go_ret
    exact ⟨ret_bool (by simp), HB5.out⟩

end Go.Proofs.Ytblkhkfjaggnfaa.controlGets
