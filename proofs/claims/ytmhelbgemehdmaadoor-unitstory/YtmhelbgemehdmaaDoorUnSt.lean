/-
  unit, the statements' helpers: stands (how a clause stands under a list).
  KEEP: set on app at below new trans refl start ap kept rd rds mono lt add none own nil put len pos setF setV putL putR other neV same_any
-/
import Derived.Test.YtmhelbgemehdmaaDoorUnHi
set_option linter.unusedSimpArgs false
set_option linter.unusedVariables false
namespace Go.Proofs.YtmhelbgemehdmaaDoor
open Go Go.RowKit

/-- what stands tells -/
def Sd (known c : List Int) (h x : Int) : Prop := (kd known c = none ∧ (h = 0 ∨ h = 1)) ∨ (kd known c = some 0 ∧ h = -1) ∨ (kd known c = some x ∧ x ≠ 0 ∧ h = 2)
/-- as far as it has come -/
def SdI (known pre : List Int) (o : Int) : Prop := (∀ m ∈ pre, m ∉ known) ∧ ((o = 0 ∧ ∀ m ∈ pre, -m ∈ known) ∨ (o ≠ 0 ∧ o ∈ pre ∧ -o ∉ known ∧ ∀ m ∈ pre, m ≠ o → -m ∈ known))
theorem SdI.skip {known pre : List Int} {o z : Int} (h : SdI known pre o) (h1 : z ∉ known) (h2 : -z ∈ known) : SdI known (pre ++ [z]) o := by
  have hz : ∀ m ∈ pre ++ [z], m ∈ pre ∨ m = z := fun m hm => (List.mem_append.1 hm).imp id (fun e => by simpa using e)
  refine ⟨fun m hm => (hz m hm).elim (h.1 m) (fun e => e ▸ h1), ?_⟩
  rcases h.2 with ⟨a, b⟩ | ⟨a, b, c, d⟩
  · exact .inl ⟨a, fun m hm => (hz m hm).elim (b m) (fun e => e ▸ h2)⟩
  · exact .inr ⟨a, List.mem_append.2 (.inl b), c, fun m hm hne => (hz m hm).elim (fun e => d m e hne) (fun e => e ▸ h2)⟩
theorem SdI.take {known pre : List Int} {o z : Int} (h : SdI known pre o) (h0 : z ≠ 0) (h1 : z ∉ known) (h2 : -z ∉ known) (ho : o = 0 ∨ o = z) : SdI known (pre ++ [z]) z := by
  have hz : ∀ m ∈ pre ++ [z], m ∈ pre ∨ m = z := fun m hm => (List.mem_append.1 hm).imp id (fun e => by simpa using e)
  refine ⟨fun m hm => (hz m hm).elim (h.1 m) (fun e => e ▸ h1), .inr ⟨h0, by simp, h2, fun m hm hne => ?_⟩⟩
  rcases hz m hm with e | e
  · rcases h.2 with ⟨a, b⟩ | ⟨a, b, c, d⟩
    · exact b m e
    · rcases ho with e2 | e2
      · exact absurd e2 a
      · exact d m e (by rw [e2]; exact hne)
  · exact absurd e hne
theorem SdI.two {known pre c : List Int} {o z : Int} (h : SdI known pre o) (hp : ∀ m ∈ pre, m ∈ c) (hz : z ∈ c) (h2 : -z ∉ known) (h0 : o ≠ 0) (hne : o ≠ z) : Sd known c 0 0 := by
  rcases h.2 with ⟨a, b⟩ | ⟨a, b, d, _⟩
  · exact absurd a h0
  · exact .inl ⟨kd_two (hp _ b) hz hne d h2, .inl rfl⟩
theorem SdI.fls {known c : List Int} (h : SdI known c 0) : Sd known c (-1) 0 := by
  rcases h.2 with ⟨a, b⟩ | ⟨a, b, d, _⟩
  · exact .inr (.inl ⟨kd_false b h.1, rfl⟩)
  · exact absurd rfl a
theorem SdI.unit {known c : List Int} {o : Int} (h : SdI known c o) (h0 : o ≠ 0) : Sd known c 2 o := by
  rcases h.2 with ⟨a, b⟩ | ⟨a, b, d, e⟩
  · exact absurd a h0
  · exact .inr (.inr ⟨kd_unit b d e h.1, h0, rfl⟩)
set_option maxRecDepth 100000 in
set_option maxHeartbeats 3200000 in
theorem stands6_any (vc vk : Value) (c known : List Int) (w : World) (hc : Rd w vc c) (hk : Rd w vk known) (hf : ∀ m ∈ c, fmd m = true) :
    Calls Tryd.prog 27 #[vc, vk] w fun e w' => ∃ h x, e = .returned (.tuple #[.int .i64 h, .int .i64 x]) ∧ Sd known c h x ∧ w' = w := by
  have hl := hc.len
  obtain ⟨a, cc, rfl, hcc, hm, hcell⟩ := hc.form
  have HC : Hid (∀ k, k < c.length → ∃ b off, a = some ⟨b, off, none⟩ ∧ w.cell? ⟨b, off + k, none⟩ = some (.int .i64 (c.getD k 0))) := hcell
  have HK0 : Hid (∀ z, Calls Tryd.prog 28 #[vk, .int .i64 z] w fun e w' => e = .returned (.bool (known.contains z)) ∧ w' = w) := fun z => hasInt6_any vk known z w hk
  have HFm : Hid (∀ m ∈ c, fmd m = true) := hf
  obtain ⟨ak, ck, rfl, -, -, -⟩ := hk.form
  clear hcell hc hk hf
  go_enter Tryd.func27, Tryd.ntmps27
  go_wp2
  go_loopg [6, 7] c.length (fun g o' i wr => ∃ (k : Nat) (o : Int), k + g = c.length ∧ i = .int .i64 k ∧ o' = .int .i64 o ∧ SdI known (c.take k) o ∧ wr = w)
  case atStart => exact ⟨0, 0, by omega, rfl, rfl, ⟨by simp, .inl ⟨rfl, by simp⟩⟩, rfl⟩
  case round =>
    obtain ⟨k, o, hk, rfl, rfl, hI, hwr⟩ := hrel
    obtain rfl : w = wr := hwr.symm
    have HI : Hid (SdI known (c.take k) o) := hI
    have HK : Hid (k + gk = c.length) := hk
    clear hI hwr
    by_cases hlt : k < c.length
    · obtain ⟨b, off, rfl, hck⟩ := HC.out k hlt
      have HT : Hid (c.take (k + 1) = c.take k ++ [c.getD k 0]) := take_succ_getD c 0 k hlt
      have HZ : Hid (c.getD k 0 ∈ c ∧ fmd (c.getD k 0) = true) := ⟨getD_mem' hlt, HFm.out _ (getD_mem' hlt)⟩
      have hzr := fmd_range HZ.out.2
      have HLT : Hid (k < c.length) := hlt
      clear hk
      generalize c.getD k 0 = z at *
      have hwz : IntKind.i64.wrap (-z) = -z := by rw [IntKind.wrap_i64]; omega
      go_wp2_with fail
      refine (HK0.out z).mono ?_
      rintro e w1 ⟨rfl, hw1⟩
      obtain rfl : w = w1 := hw1.symm
      clear hw1
      cases h1 : known.contains z
      · have H1 : Hid (z ∉ known) := by show z ∉ known; rw [← List.contains_iff_mem, h1]; exact Bool.false_ne_true
        go_wp2_with fail
        refine (HK0.out (-z)).mono ?_
        rintro e w1 ⟨rfl, hw1⟩
        obtain rfl : w = w1 := hw1.symm
        clear hw1
        cases h2 : known.contains (-z)
        · have H2 : Hid (-z ∉ known) := by show -z ∉ known; rw [← List.contains_iff_mem, h2]; exact Bool.false_ne_true
          by_cases ho : o = 0
          · have hob : (o == 0) = true := by simpa using ho
            have HN : Hid (SdI known (c.take (k + 1)) z) := by rw [HT.out]; exact HI.out.take (by omega) H1.out H2.out (.inl ho)
            go_wp2
            go_roundg (gk - 1)
            case measure => have := HK.out; have := HLT.out; omega
            case rel => exact ⟨k + 1, z, by have := HK.out; have := HLT.out; omega, by go_num, rfl, HN.out, rfl⟩
          · have hob : (o == 0) = false := by simpa using ho
            by_cases hoz : o = z
            · have hozb : (o == z) = true := by simpa using hoz
              have HN : Hid (SdI known (c.take (k + 1)) z) := by rw [HT.out]; exact HI.out.take (by omega) H1.out H2.out (.inr hoz)
              go_wp2
              go_roundg (gk - 1)
              case measure => have := HK.out; have := HLT.out; omega
              case rel => exact ⟨k + 1, z, by have := HK.out; have := HLT.out; omega, by go_num, rfl, HN.out, rfl⟩
            · have hozb : (o == z) = false := by simpa using hoz
              have hob' : (o != 0) = true := by simpa using ho
              have hoz' : (o != z) = true := by simpa using hoz
              have HN : Hid (Sd known c 0 0) := HI.out.two (fun m hm => List.mem_of_mem_take hm) HZ.out.1 H2.out ho hoz
              go_wp2
              go_ret2
              exact ⟨0, 0, rfl, HN.out, rfl⟩
        · have HN : Hid (SdI known (c.take (k + 1)) o) := by rw [HT.out]; exact HI.out.skip H1.out (List.contains_iff_mem.1 h2)
          go_wp2
          go_roundg (gk - 1)
          case measure => have := HK.out; have := HLT.out; omega
          case rel => exact ⟨k + 1, o, by have := HK.out; have := HLT.out; omega, by go_num, rfl, HN.out, rfl⟩
      · have HN : Hid (Sd known c 1 0) := .inl ⟨kd_true HZ.out.1 (List.contains_iff_mem.1 h1), .inr rfl⟩
        go_wp2
        go_ret2
        exact ⟨1, 0, rfl, HN.out, rfl⟩
    · have HE : Hid (SdI known c o) := by have := HI.out; rw [show k = c.length by omega, List.take_length] at this; exact this
      by_cases ho : o = 0
      · subst ho
        have HN : Hid (Sd known c (-1) 0) := HE.out.fls
        go_wp2
        go_ret2
        exact ⟨-1, 0, rfl, HN.out, rfl⟩
      · have hob : (o == 0) = false := by simpa using ho
        have HN : Hid (Sd known c 2 o) := HE.out.unit ho
        go_wp2
        go_ret2
        exact ⟨2, o, rfl, HN.out, rfl⟩
end Go.Proofs.YtmhelbgemehdmaaDoor
