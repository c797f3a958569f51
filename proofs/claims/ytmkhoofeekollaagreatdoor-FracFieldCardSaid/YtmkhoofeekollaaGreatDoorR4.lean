/- The walk of the law FracField. Conditions: the arguments' memory; the tables of math/bits and strconv as their texts lay them; the variable MaxLen of internal/bytealg holds an int. -/
import Derived.Test.YtmkhoofeekollaaGreatDoorR2
import Derived.Test.YtmkhoofeekollaaGreatDoorR3
import Derived.Deep.DeepCutAuto
namespace Go.Proofs.YtmkhoofeekollaaGreatDoor
set_option maxRecDepth 20000
open Go.RowKit

theorem field_main (ra : FrR) (l1a l2a : List Int) (rb : FrR) (l1b l2b : List Int) (rc : FrR) (l1c l2c : List Int) (w : World) (haa : FrArg w ra l1a l2a) (hab : FrArg w rb l1b l2b) (hac : FrArg w rc l1c l2c) (hT : TabZ w) (hS : Tab w) (hM : MaxL w) (t0 : (ra.n1 : Int) ≤ 12 ∧ (ra.n2 : Int) ≤ 12) (t1 : (rb.n1 : Int) ≤ 12 ∧ (rb.n2 : Int) ≤ 12) (t2 : (rc.n1 : Int) ≤ 12 ∧ (rc.n2 : Int) ≤ 12) (xa : Rat) (t3 : IsFr w ra xa) (xb : Rat) (t4 : IsFr w rb xb) (xc : Rat) (t5 : IsFr w rc xc) :
    Calls Tryz.prog 3 #[frV ra, frV rb, frV rc] w fun e w' => e = .returned (.bool true) ∧ Below w.heap.size w w' := by
  by_cases hy : xb = 0
  · exact field_z ra l1a l2a rb l1b l2b rc l1c l2c w haa hab hac hT hS hM t0 t1 t2 xa t3 xb t4 xc t5 hy
  · exact field_nz ra l1a l2a rb l1b l2b rc l1c l2c w haa hab hac hT hS hM t0 t1 t2 xa t3 xb t4 xc t5 hy
theorem field_walk (ra : FrR) (l1a l2a : List Int) (rb : FrR) (l1b l2b : List Int) (rc : FrR) (l1c l2c : List Int) (w : World) (haa : FrArg w ra l1a l2a) (hab : FrArg w rb l1b l2b) (hac : FrArg w rc l1c l2c) (hT : TabZ w) (hS : Tab w) (hM : MaxL w) :
    Calls Tryz.prog 3 #[frV ra, frV rb, frV rc] w fun e w' => e = .returned (.bool true) ∧ Below w.heap.size w w' := by
  by_cases t0 : (ra.n1 : Int) ≤ 12 ∧ (ra.n2 : Int) ≤ 12
  case neg => exact field_e0 ra l1a l2a rb l1b l2b rc l1c l2c w haa hab hac hT hS hM (by omega)
  by_cases t1 : (rb.n1 : Int) ≤ 12 ∧ (rb.n2 : Int) ≤ 12
  case neg => exact field_e1 ra l1a l2a rb l1b l2b rc l1c l2c w haa hab hac hT hS hM t0 (by omega)
  by_cases t2 : (rc.n1 : Int) ≤ 12 ∧ (rc.n2 : Int) ≤ 12
  case neg => exact field_e2 ra l1a l2a rb l1b l2b rc l1c l2c w haa hab hac hT hS hM t0 t1 (by omega)
  by_cases u3 : ∃ x, IsFr w ra x
  case neg => exact field_e3 ra l1a l2a rb l1b l2b rc l1c l2c w haa hab hac hT hS hM t0 t1 t2 (fun x hx => u3 ⟨x, hx⟩)
  obtain ⟨xa, t3⟩ := u3
  by_cases u4 : ∃ x, IsFr w rb x
  case neg => exact field_e4 ra l1a l2a rb l1b l2b rc l1c l2c w haa hab hac hT hS hM t0 t1 t2 xa t3 (fun x hx => u4 ⟨x, hx⟩)
  obtain ⟨xb, t4⟩ := u4
  by_cases u5 : ∃ x, IsFr w rc x
  case neg => exact field_e5 ra l1a l2a rb l1b l2b rc l1c l2c w haa hab hac hT hS hM t0 t1 t2 xa t3 xb t4 (fun x hx => u5 ⟨x, hx⟩)
  obtain ⟨xc, t5⟩ := u5
  exact field_main ra l1a l2a rb l1b l2b rc l1c l2c w haa hab hac hT hS hM t0 t1 t2 xa t3 xb t4 xc t5
end Go.Proofs.YtmkhoofeekollaaGreatDoor
