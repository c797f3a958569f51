/- The walk of slices.IndexFunc at sectors, with settle's literal. Conditions: the sectors of the file are right. -/
import Derived.Test.YtjlndgkahmcfdaaDoorSe
namespace Go.Proofs.YtjlndgkahmcfdaaDoor
set_option maxRecDepth 8000
open Go.RowKit Go.ChangeMaps

theorem Row.secCell {w : World} {own : Nat → Option Nat} {r g c n : Nat} {l : List (Int × Int)} {j : Nat} {p : Int × Int} (h : Row w own r 93 2 (.slice (some ⟨g, 0, none⟩) n c) n (secC l)) (hj : l[j]? = some p) :
    w.cell? ⟨g, j * 2, none⟩ = some (.int .i64 p.1) ∧ w.cell? ⟨g, j * 2 + 1, none⟩ = some (.int .i64 p.2) := by
  obtain ⟨h1, h2⟩ := secC_at hj
  have q1 := h.1.cells (g := g) rfl _ _ h1
  have q2 := h.1.cells (g := g) rfl _ _ h2
  rw [Addr.add_lit] at q1 q2
  simp only [Nat.zero_add] at q1 q2
  exact ⟨q1, q2⟩

/-- The function value of settle's literal. -/
def litV (bf bd : Nat) : Value := .func (.func 113) #[] #[.pointer (some ⟨bf, 0, none⟩), .pointer (some ⟨bd, 0, none⟩)]

def IdxNo (w : World) (own : Nat → Option Nat) (e : Ending) (w' : World) : Prop := e = .returned (.int .i64 (-1)) ∧ Tr (fun _ => False) w own own w'

set_option maxRecDepth 4000 in
set_option maxHeartbeats 1000000 in
theorem idx_none (w : World) (own : Nat → Option Nat) (f : Int) (A : Option Addr) (c n : Nat) (l : List (Int × Int)) (bf bd : Nat) (hi : ∀ g r, own g = some r → g < w.heap.size) (hr : Row w own 3 93 2 (.slice A n c) n (secC l)) (hl : l.length = n) (hn : n ≤ 40000000)
    (hf : w.cell? ⟨bf, 0, none⟩ = some (.int .i64 f)) (hall : ∀ p ∈ l, p.1 ≠ f) :
    Calls Tryd.prog 131 #[.slice A n c, litV bf bd] w (IdxNo w own) := by
  have HI := Lib.hid hi
  have HR := Lib.hid hr
  have HL := Lib.hid hl
  have HA := Lib.hid hall
  have HF := Lib.hid hf
  have HB := Lib.hid (World.block_lt_of_cell? _ _ hf)
  clear hi hr hl hall hf
  unfold litV
  go_enter Tryd.func131, Tryd.ntmps131
  go_wp2_with fail
  go_loopw [5, 8] (fun _ i wr => ∃ j : Nat, i = .int .i64 (j : Int) ∧ j ≤ n ∧ Hid (Tr (fun _ => False) w own own wr)) (fun _ i _ => n - (RowKit.intOf i).toNat)
  case atStart => exact ⟨0, rfl, Nat.zero_le _, Tr.refl _ HI.out⟩
  case round =>
    obtain ⟨j, rfl, hj, HT⟩ := hrel
    by_cases hlt : j < n
    · obtain ⟨p, hp⟩ : ∃ p, l[j]? = some p := ⟨_, List.getElem?_eq_getElem (by rw [HL.out]; exact hlt)⟩
      obtain ⟨g, c', hv, _, _⟩ := own_some HR.out.1 rfl (by omega)
      injection hv with hA _ hC
      subst hA
      subst hC
      obtain ⟨q1, q2⟩ := (HR.out.keep HT.out (fun h => h)).secCell hp
      have HNE := Lib.hid (HA.out p (List.mem_of_getElem? hp))
      have HF2 := Lib.hid (HT.out.cell HF.out (fun _ _ h => h))
      obtain ⟨g1, g2⟩ := p
      clear hp
      have hj1 : (0 : Int) ≤ (j : Int) := by omega
      have hj2 : (j : Int) < (n : Int) := by omega
      go_wp2_with fail
      refine (lit_no _ own f g1 g2 bf bd HT.out.inb HF2.out HNE.out).mono ?_
      rintro e w2 ⟨rfl, t2⟩
      have HT2 := Lib.hid (HT.out.trans t2)
      clear t2 q1 q2
      go_wp2_with fail
      go_roundw
      case rel => exact ⟨j + 1, by go_num, by omega, HT2⟩
      case measure => simp [RowKit.intOf]; omega
    · have HE := Lib.hid (show IdxNo w own (.returned (.int .i64 (-1))) wr from ⟨rfl, HT.out⟩)
      clear HT
      go_wp2_with fail
      go_ret
      exact HE.out

def IdxYes (w : World) (own : Nat → Option Nat) (b m k : Nat) (pv kv : Value) (mark : Int × Int → Prop) (s : Ds) (i : Nat) (e : Ending) (w' : World) : Prop :=
  e = .returned (.int .i64 (i : Int)) ∧ ∃ own', Dk w' own' b m k pv kv mark s ∧ Tr (fun r => r = 1 ∨ r = 2 ∨ r ≥ 5) w own own' w'

set_option maxRecDepth 4000 in
set_option maxHeartbeats 1000000 in
theorem idx_some (w : World) (own : Nat → Option Nat) (b m k : Nat) (kv : Value) (mark : Int × Int → Prop) (s : Ds) (f : Int) (g c n i0 x : Nat) (bf bd : Nat) (h : Dk w own b m k (.slice (some ⟨g, 0, none⟩) n c) kv mark s) (hl : s.pend.length = n) (hn : n ≤ 40000000)
    (hf : w.cell? ⟨bf, 0, none⟩ = some (.int .i64 f)) (hdd : w.cell? ⟨bd, 0, none⟩ = some (.pointer (some ⟨b, 0, none⟩))) (hbf : own bf = none) (hbd : own bd = none)
    (hx : s.pend[i0]? = some (f, (x : Int))) (hall : ∀ j p, j < i0 → s.pend[j]? = some p → p.1 ≠ f) (h0 : 0 ≤ f) (h1 : f < 16) (hxn : 64 * x < (s.data f).length) (hd : (s.data f).length ≤ 16777216) (hu : (s.dur f).length ≤ 16777216) :
    Calls Tryd.prog 131 #[.slice (some ⟨g, 0, none⟩) n c, litV bf bd] w
      (IdxYes w own b m k (.slice (some ⟨g, 0, none⟩) n c) kv (fun q => mark q ∧ q ≠ (f, (x : Int))) { s with dur := hard s.data s.dur f x } i0) := by
  have HD := Lib.hid h
  have hr := h.pend
  rw [hl] at hr
  have HR := Lib.hid hr
  have HA := Lib.hid hall
  have HF := Lib.hid hf
  have HDD := Lib.hid hdd
  have HX := Lib.hid hx
  have HOB := Lib.hid (show own bf = none ∧ own bd = none from ⟨hbf, hbd⟩)
  have hi0 : i0 < n := by have := (List.getElem?_eq_some_iff.1 hx).1; omega
  have HL := Lib.hid hl
  clear h hr hall hf hdd hx hbf hbd hl
  unfold litV
  go_enter Tryd.func131, Tryd.ntmps131
  go_wp2_with fail
  go_loopw [5, 8] (fun _ i wr => ∃ j : Nat, i = .int .i64 (j : Int) ∧ j ≤ i0 ∧ Hid (Tr (fun _ => False) w own own wr)) (fun _ i _ => n - (RowKit.intOf i).toNat)
  case atStart => exact ⟨0, rfl, Nat.zero_le _, Tr.refl _ HD.out.inb⟩
  case round =>
    obtain ⟨j, rfl, hj, HT⟩ := hrel
    have hj1 : (0 : Int) ≤ (j : Int) := by omega
    have hj2 : (j : Int) < (n : Int) := by omega
    have HF2 := Lib.hid (HT.out.cell HF.out (fun _ _ h => h))
    have HD2 := Lib.hid (HT.out.cell HDD.out (fun _ _ h => h))
    by_cases hlt : j < i0
    · obtain ⟨p, hp⟩ : ∃ p, s.pend[j]? = some p := ⟨_, List.getElem?_eq_getElem (by rw [HL.out]; omega)⟩
      obtain ⟨q1, q2⟩ := (HR.out.keep HT.out (fun h => h)).secCell hp
      have HNE := Lib.hid (HA.out j p hlt hp)
      obtain ⟨g1, g2⟩ := p
      clear hp
      go_wp2_with fail
      refine (lit_no _ own f g1 g2 bf bd HT.out.inb HF2.out HNE.out).mono ?_
      rintro e w2 ⟨rfl, t2⟩
      have HT2 := Lib.hid (HT.out.trans t2)
      clear t2 q1 q2
      go_wp2_with fail
      go_roundw
      case rel => exact ⟨j + 1, by go_num, by omega, HT2⟩
      case measure => simp [RowKit.intOf]; omega
    · obtain rfl : j = i0 := by omega
      obtain ⟨q1, q2⟩ := (HR.out.keep HT.out (fun h => h)).secCell HX.out
      simp only at q1 q2
      go_wp2_with fail
      refine (lit_yes _ own b m k _ kv mark s f x bf bd (HD.out.far HT.out) HF2.out HD2.out HOB.out.1 HOB.out.2 h0 h1 hxn hd hu).mono ?_
      rintro e w2 ⟨rfl, own2, hD2, t2⟩
      have HE := Lib.hid (show IdxYes w own b m k (.slice (some ⟨g, 0, none⟩) n c) kv (fun q => mark q ∧ q ≠ (f, (x : Int))) { s with dur := hard s.data s.dur f x } j (.returned (.int .i64 (j : Int))) w2 from
        ⟨rfl, own2, hD2, (HT.out.weak (fun _ h => h.elim)).trans t2⟩)
      clear hD2 t2 q1 q2
      go_wp2_with fail
      go_ret
      exact HE.out

end Go.Proofs.YtjlndgkahmcfdaaDoor
