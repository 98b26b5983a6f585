/-
  awake of the stanzas' laws, walked.
  KEEP: walk below len form out each rd mono nil own row set on app start grown at new one
-/
import Derived.Test.YtbeaoekbppdlmaaDoorKCrD
import Derived.Test.YtbeaoekbppdlmaaDoorKRdN
set_option linter.unusedSimpArgs false
set_option linter.unusedVariables false
namespace Go.Proofs.YtbeaoekbppdlmaaDoor
open Go Go.RowKit

def awT : List UInt8 := [80, 97, 99, 107, 97, 103, 101, 58, 32, 97, 10, 86, 101, 114, 115, 105, 111, 110, 58, 49, 46, 48, 32, 10, 35, 32, 120, 10, 68, 101, 112, 101, 110, 100, 115, 58, 32, 98, 44, 10, 32, 32, 99, 10]
def awL : List Stz := [(1, [([80, 97, 99, 107, 97, 103, 101], [97]), ([86, 101, 114, 115, 105, 111, 110], [49, 46, 48]), ([68, 101, 112, 101, 110, 100, 115], [98, 44, 10, 99])])]
set_option maxRecDepth 100000 in
theorem aw_read : rdF21 awT = .ok awL := by rfl

set_option maxHeartbeats 3200000 in
set_option maxRecDepth 100000 in
theorem awake21 (w : World) : Calls Tryd.prog 18 #[] w fun e w' => e = .returned (.bool true) ∧ Below w.heap.size w w' := by
  have HRd : Hid (Calls Tryd.prog 19 #[.string ⟨awT.toArray⟩] w fun e w' => RdAns w.heap.size w w' e (rdF21 awT)) := by
    have := read21 ⟨awT.toArray⟩ w (by decide)
    rwa [strV_list] at this
  go_enter Tryd.func18, Tryd.ntmps18
  go_wp2_with fail
  refine HRd.out.mono ?_
  intro e w1 h1
  rcases rd_ans (by decide) h1 with ⟨c, ln, q, _⟩ | ⟨v, l, q, rfl, hr, hb, _⟩
  · rw [aw_read] at q; cases q
  · rw [aw_read] at q
    injection q with q
    subst q
    have HB : Hid (Below w.heap.size w w1) := hb
    obtain ⟨a, c, rfl, hc, hm, hcell⟩ := hr.form
    obtain ⟨b, off, u, rfl, hbl, h0, h1', hru⟩ := hcell 0 (by decide)
    replace h0 : w1.cell? ⟨b, off, none⟩ = some (.int .i64 1) := by simpa [awL] using h0
    replace h1' : w1.cell? ⟨b, off + 1, none⟩ = some u := by simpa using h1'
    obtain ⟨au, cu, rfl, hcu, hmu, hcl⟩ := hru.form
    obtain ⟨fb, fo, rfl, hfb, hf0, hf1⟩ := hcl 2 (by decide)
    replace hf1 : w1.cell? ⟨fb, fo + 4 + 1, none⟩ = some (.string ⟨#[98, 44, 10, 99]⟩) := by simpa [awL, strV] using hf1
    replace hf0 : w1.cell? ⟨fb, fo + 4, none⟩ = some (.string ⟨#[68, 101, 112, 101, 110, 100, 115]⟩) := by simpa [awL, strV] using hf0
    have hc1 : 1 ≤ c := hc
    have hcu3 : 3 ≤ cu := hcu
    have e1 : awL.length = 1 := rfl
    have e3 : (awL.getD 0 (0, [])).2.length = 3 := rfl
    rw [e3] at h1'
    rw [e1]
    clear hr hcell hru hcl h1 hb hc hcu
    go_wp2
    all_goals
      go_ret
      exact ⟨rfl, HB.out⟩

end Go.Proofs.YtbeaoekbppdlmaaDoor
