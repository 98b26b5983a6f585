/-
  heat: how two numbers of the row compare; what a sorted row says.
  KEEP: set on app at below new trans refl start kept mono lt add none own nil put len pos other cell ty blt fz box k p r pr a0 a1 a2 c0 c1 c2 hb setK setP setR unique grown step fin bij up q1 q2 pl held mk v1 v2 t1 t2 hs few cut root z kl nl sl d1 d2 row down has holds stp bel heat mem srt inn inj out
-/
import Derived.Test.YtbfjhgiifmhccaaHtO
import Derived.Shelf.SlSortCmp.Kit1
set_option linter.unusedSimpArgs false
set_option linter.unusedVariables false
namespace Go.Proofs.Ytbfjhgiifmhccaa
open Go Go.RowKit

/-- how two compare -/
def cfO (κ : Nat → Nat) (x y : Nat) : Int := if x = y then 0 else if ahd κ x y = true then -1 else 1
theorem cfO_lt (κ : Nat → Nat) (x y : Nat) : decide (cfO κ x y < 0) = ahd κ x y := by
  unfold cfO
  by_cases h : x = y
  · subst h; simp [ahd_irr]
  · rw [if_neg h]
    cases e : ahd κ x y <;> simp
section
variable {B b n : Nat} {s : Hs} {K P R : List Nat}
theorem cmp_any (x y hb : Nat) (w : World) (hz : Hz B w b s K P R) (hf : Fin K) (hx : x < K.length) (hy : y < K.length) (hK : K.length ≤ 1048577) (hc : w.cell? ⟨hb, 0, none⟩ = some (.pointer (some ⟨b, s.o, none⟩))) :
    Calls Try.prog 48 #[.int .i32 (x : Int), .int .i32 (y : Int), .pointer (some ⟨hb, 0, none⟩)] w fun e w' => e = .returned (.int .i64 (cfO (gt K) x y)) ∧ ∃ q, w' = w.drewN q := by
  have HA : Hid (Calls Try.prog 49 #[.pointer (some ⟨b, s.o, none⟩), .int .i32 (x : Int), .int .i32 (y : Int)] w fun e w' => e = .returned (.bool (ahd (gt K) x y)) ∧ ∃ m, w' = w.drewN m) := ahead_q x y w hz hf hx hy hK
  clear hz
  obtain ⟨o, ho⟩ : ∃ o, s.o = o := ⟨_, rfl⟩
  rw [ho] at hc HA
  clear ho
  by_cases h : x = y
  · have HE : Hid (cfO (gt K) x y = 0) := by show _ = _; unfold cfO; rw [if_pos h]
    have hb : ((x : Int) == (y : Int)) = true := by rw [h]; simp
    clear h
    go_enter Try.func48, Try.ntmps48
    go_wp2
    first | (go_ret; exact ⟨ret_int HE.out.symm, 0, rfl⟩) | (simp only [Exit.inBlock, Exit.then]; go_ret; exact ⟨ret_int HE.out.symm, 0, rfl⟩)
  · have hb : ((x : Int) == (y : Int)) = false := by simp; omega
    cases e : ahd (gt K) x y
    · have HE : Hid (cfO (gt K) x y = 1) := by show _ = _; unfold cfO; rw [if_neg h, e]; rfl
      rw [e] at HA
      clear h e
      go_enter Try.func48, Try.ntmps48
      go_wp2_with (go_at_call 49; refine HA.out.mono ?_; rintro e w5 ⟨rfl, m, rfl⟩)
      first | (go_ret; exact ⟨ret_int HE.out.symm, _, rfl⟩) | (simp only [Exit.inBlock, Exit.then]; go_ret; exact ⟨ret_int HE.out.symm, _, rfl⟩)
    · have HE : Hid (cfO (gt K) x y = -1) := by show _ = _; unfold cfO; rw [if_neg h, e]; rfl
      rw [e] at HA
      clear h e
      go_enter Try.func48, Try.ntmps48
      go_wp2_with (go_at_call 49; refine HA.out.mono ?_; rintro e w5 ⟨rfl, m, rfl⟩)
      first | (go_ret; exact ⟨ret_int HE.out.symm, _, rfl⟩) | (simp only [Exit.inBlock, Exit.then]; go_ret; exact ⟨ret_int HE.out.symm, _, rfl⟩)
end

/-- the row's numbers, as numbers below n + 1 -/
def fins (n : Nat) (R : List Nat) : Array (_root_.Fin (n + 1)) := ((hld R).map fun x => (⟨x % (n + 1), Nat.mod_lt _ (Nat.succ_pos n)⟩ : _root_.Fin (n + 1))).toArray
theorem hld_len (R : List Nat) : (hld R).length = R.length - 1 := by simp [hld]
theorem hld_at {R : List Nat} {j : Nat} (h : j + 1 < R.length) : (hld R)[j]? = some (gt R (j + 1)) := by
  unfold hld
  rw [List.getElem?_map, List.getElem?_range (by omega)]; rfl
theorem hld_mem {n : Nat} {R P : List Nat} (hb : Bij n R P) (x : Nat) : x ∈ hld R ↔ (1 ≤ x ∧ x ≤ n ∧ gt P x ≠ 0) := by
  constructor
  · intro h
    obtain ⟨i, hi, rfl⟩ := List.mem_map.1 h
    rw [List.mem_range] at hi
    have := hb.inn (i + 1) (by omega) (by omega)
    exact ⟨this.1, this.2.1, by rw [this.2.2]; omega⟩
  · rintro ⟨h1, h2, h3⟩
    have := hb.out x h1 h2
    refine List.mem_map.2 ⟨gt P x - 1, ?_, ?_⟩
    · rw [List.mem_range]; have := this.1; omega
    · rw [Nat.sub_add_cancel (by omega)]; exact this.2 h3
theorem fins_vals {n : Nat} {R P : List Nat} (hb : Bij n R P) : (fins n R).toList.map (fun x => x.val) = hld R := by
  unfold fins
  rw [List.toList_toArray, List.map_map]
  conv => rhs; rw [← List.map_id (hld R)]
  refine List.map_congr_left fun x hx => ?_
  have := (hld_mem hb x).1 hx
  exact Nat.mod_eq_of_lt (by omega)
/-- what a row that is sorted says -/
theorem sorted_ord {n : Nat} {κ : Nat → Nat} {R P : List Nat} {H : Nat → Bool} (hb : Bij n R P) (hheld : ∀ u, 1 ≤ u → u ≤ n → (gt P u ≠ 0 ↔ H u = true)) (d' : Array (_root_.Fin (n + 1))) (hp : Sort.PermIn 0 (fins n R).size (fins n R) d') (hs : Sort.SortedIn (fun x y => ahd κ x.val y.val) 0 (fins n R).size d') :
    IsOrd κ H n (d'.toList.map (fun x => x.val)) := by
  obtain ⟨hsz, _, hperm⟩ := hp
  have hperm' : d'.toList.Perm (fins n R).toList := by
    have e1 : d'.extract 0 (fins n R).size = d' := by rw [← hsz]; exact Array.extract_size
    have e2 : (fins n R).extract 0 (fins n R).size = fins n R := Array.extract_size
    rw [e1, e2] at hperm
    exact hperm
  have hmem : ∀ x, x ∈ d'.toList.map (fun x => x.val) ↔ x ∈ hld R := fun x => by
    rw [← fins_vals hb]
    exact (hperm'.map _).mem_iff
  have hnd : (d'.toList.map (fun x => x.val)).Nodup := by
    refine (hperm'.map (fun x => x.val)).nodup_iff.2 ?_
    rw [fins_vals hb]
    exact hb.nodup
  refine ⟨fun x => ?_, ?_⟩
  · rw [hmem, hld_mem hb]
    constructor
    · rintro ⟨h1, h2, h3⟩; exact ⟨h1, h2, (hheld x h1 h2).1 h3⟩
    · rintro ⟨h1, h2, h3⟩; exact ⟨h1, h2, (hheld x h1 h2).2 h3⟩
  · rw [List.pairwise_iff_getElem]
    intro i j hi hj hij
    have hi' : i < d'.size := by simpa using hi
    have hj' : j < d'.size := by simpa using hj
    have h := hs i j (Nat.zero_le _) hij (by rw [← hsz]; exact hj')
    simp only [getElem!_pos d' i hi', getElem!_pos d' j hj'] at h
    have ne : d'[i].val ≠ d'[j].val := fun e => by
      have := List.pairwise_iff_getElem.1 hnd i j hi hj hij
      exact this (by simp [e])
    simp only [List.getElem_map, Array.getElem_toList]
    cases e : ahd κ d'[i].val d'[j].val
    · exact absurd (ahd_total e h) ne
    · rfl
end Go.Proofs.Ytbfjhgiifmhccaa
