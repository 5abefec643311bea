/- What the row's listed variable gives the walks: the table's sixteen words. -/
import Derived.Test.YtnbdkojdddplkaaDoorFrSum
import Derived.Test.YtnbdkojdddplkaaDoorTie
import Derived.Test.YtnbdkojdddplkaaDoorCards
import Derived.ProofKit
import Derived.LaidMore
import Derived.OpenShut
import Derived.ShutString
import Derived.ChangeOld
import Derived.Below
import Derived.Stop.Joined
namespace Go.Proofs.YtnbdkojdddplkaaDoor
open Go.ChangeShapes Go.WideShapes Go.ChangeAt Go.RowKit

theorem own : ownKnob Tryd.prog.godebug = none := by kernel_rfl
theorem laidOut : laidOutB Tryd.prog = true := by kernel_rfl
theorem gTab : Tryd.prog.globalNamed "delphi/frame.nibbleSums" = some 0 := by kernel_rfl
theorem tTab : (Tryd.prog.globals[0]?).map (·.type) = some 131 := by kernel_rfl
def laid1 : List (String × DataW Unit) := [("delphi/frame.nibbleSums", Rows.laid_delphi_frame_nibbleSums)]

theorem door_met (os : Os) (args : Array Value) : laidMetH Tryd.prog laid1 ((World.doorLaid Tryd.prog 400 os).forCall (fun _ _ => 0) ⟨#[], args, []⟩).memory :=
  laidMetH_of_parts3 (fuel := 8) (laidMet_of_run' 8 (by kernel_rfl) (by kernel_rfl)) (by kernel_rfl) (by kernel_rfl)

theorem of_laid {W : World} (h : laidMetH Tryd.prog laid1 W) : Fr.Tab W := by
  rw [MakeChecks.laidMetH_plain _ _ _ (by kernel_rfl)] at h
  obtain ⟨ps, ⟨g0, t0, cs0, f0, p0, q0, hg0, ht0, hv0, hd0, _, _⟩, _, _⟩ := h
  obtain rfl := Option.some.inj (gTab.symm.trans hg0)
  obtain rfl := Option.some.inj (tTab.symm.trans ht0)
  obtain ⟨xs, m1, rfl, hx1, hlen, hn3, hel⟩ := DataW.trod_array Tryd.underlying131 hd0
  intro i hi
  have c117 : Tryd.prog.cellsOf 117 = 1 := by kernel_rfl
  have h0 := hel i hi
  rw [List.getElem?_eq_getElem (by omega), c117, Nat.mul_one] at h0
  obtain ⟨k, e1, e2, _⟩ := DataW.trod_int Tryd.underlying117 h0
  simp only [Prod.mk.injEq] at hx1
  have hx := hx1.1
  have hL : Rows.laid_delphi_frame_nibbleSums = (DataW.agg (Fr.tabL.map fun n : Nat => DataW.lit (.int .u32 (n : Int))) : DataW Unit) := rfl
  rw [hL, DataW.agg.injEq] at hx
  have hxi := congrArg (fun l => l[i]?) hx
  have ht : Fr.tabL[i]? = some (Fr.tab i) := by
    unfold Fr.tab
    rw [List.getD, List.getElem?_eq_getElem (show i < Fr.tabL.length from hi)]
    rfl
  simp only [List.getElem?_map, ht, List.getElem?_eq_getElem (show i < xs.length by omega), Option.map_some, Option.some.injEq] at hxi
  have hk : k = (Fr.tab i : Int) := by
    rw [e2] at hxi
    simp at hxi
    exact hxi.symm
  subst hk
  have hc := World.var?_cell hg0 hv0 i
  rw [hc, ← Array.getElem?_toList]
  have h1 := congrArg (fun l => l[0]?) e1
  simpa using h1
end Go.Proofs.YtnbdkojdddplkaaDoor
