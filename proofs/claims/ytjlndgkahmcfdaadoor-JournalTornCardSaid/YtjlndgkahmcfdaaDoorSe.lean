/- The walk of settle's function literal: a sector of the file is hardened and unmarked. Conditions: the sector is right. -/
import Derived.Test.YtjlndgkahmcfdaaDoorSt
namespace Go.Proofs.YtjlndgkahmcfdaaDoor
set_option maxRecDepth 8000
open Go.RowKit Go.ChangeMaps

theorem step_delete_run {P : Program} {w : World} {ops : Array Oper} {o : Oper} {a : Act} {K : Act → World → Prop} {Q : Exit → Act → World → Prop} {E : Prop} (hg : o.guard = none) (m x : Operand) (t k : TypeId) (hop : o.op = .call { callee := .builtin .delete, args := #[m, x], argTypes := #[t, k] }) (vm vx : Value) (hm : a.eval m = vm) (hx : a.eval x = vx)
    (w' : World) (hr : (Builtin.delete_ #[t, k] o.type #[vm, vx]).run P w = .ok (.tuple #[]) w') (h : K (a.put o.dst (.tuple #[])) w') : if Region.wanted o (yielded ops a.tmps) = true then Oper.wp P o a w K Q else E := by
  have hw : Region.wanted o (yielded ops a.tmps) = true := by simp [Region.wanted, hg]
  rw [if_pos hw]
  exact wp_delete_run m x t k hop vm vx hm hx w' hr h

/-- How the literal ends at a sector of another file. -/
def LitNo (w : World) (own : Nat → Option Nat) (e : Ending) (w' : World) : Prop := e = .returned (.bool false) ∧ Tr (fun _ => False) w own own w'
/-- How it ends at a sector of the file. -/
def LitYes (w : World) (own : Nat → Option Nat) (b m k : Nat) (pv kv : Value) (mark : Int × Int → Prop) (s : Ds) (e : Ending) (w' : World) : Prop :=
  e = .returned (.bool true) ∧ ∃ own', Dk w' own' b m k pv kv mark s ∧ Tr (fun r => r = 1 ∨ r = 2 ∨ r ≥ 5) w own own' w'

set_option maxRecDepth 4000 in
set_option maxHeartbeats 1000000 in
theorem lit_no (w : World) (own : Nat → Option Nat) (f g n : Int) (bf bd : Nat) (hi : ∀ g r, own g = some r → g < w.heap.size) (hf : w.cell? ⟨bf, 0, none⟩ = some (.int .i64 f)) (hne : g ≠ f) :
    Calls Tryd.prog 113 #[.agg #[.int .i64 g, .int .i64 n], .pointer (some ⟨bf, 0, none⟩), .pointer (some ⟨bd, 0, none⟩)] w (LitNo w own) := by
  have HE := Lib.hid (show LitNo w own (.returned (.bool false)) (w.alloc (.cells #[.int .i64 g, .int .i64 n] 93)) from ⟨rfl, (Tr.refl _ hi).alloc _⟩)
  clear hi
  have hb := World.block_lt_of_cell? _ _ hf
  have hne2 : (g != f) = true := by simpa using hne
  go_enter Tryd.func113, Tryd.ntmps113
  go_wp2
  go_ret
  exact HE.out

set_option maxRecDepth 4000 in
set_option maxHeartbeats 1000000 in
theorem lit_yes (w : World) (own : Nat → Option Nat) (b m k : Nat) (pv kv : Value) (mark : Int × Int → Prop) (s : Ds) (f : Int) (n : Nat) (bf bd : Nat) (h : Dk w own b m k pv kv mark s) (hf : w.cell? ⟨bf, 0, none⟩ = some (.int .i64 f)) (hdd : w.cell? ⟨bd, 0, none⟩ = some (.pointer (some ⟨b, 0, none⟩)))
    (hbf : own bf = none) (hbd : own bd = none) (h0 : 0 ≤ f) (h1 : f < 16) (hn : 64 * n < (s.data f).length) (hd : (s.data f).length ≤ 16777216) (hu : (s.dur f).length ≤ 16777216) :
    Calls Tryd.prog 113 #[.agg #[.int .i64 f, .int .i64 n], .pointer (some ⟨bf, 0, none⟩), .pointer (some ⟨bd, 0, none⟩)] w
      (LitYes w own b m k pv kv (fun q => mark q ∧ q ≠ (f, (n : Int))) { s with dur := hard s.data s.dur f n }) := by
  have hb1 := World.block_lt_of_cell? _ _ hf
  have hb2 := World.block_lt_of_cell? _ _ hdd
  have HB := Lib.hid (show own bf = none ∧ own bd = none from ⟨hbf, hbd⟩)
  have HD := Lib.hid h
  have HN := Lib.hid (own_none h.inb (Nat.le_refl w.heap.size))
  have hbb := h.blk.lt
  clear h hbf hbd
  go_enter Tryd.func113, Tryd.ntmps113
  go_wp2_with fail
  refine (harden_any _ own b m k pv kv mark s f n ?_ h0 h1 hn hd hu).mono ?_
  · exact HD.out.far ((HD.out.refl _).alloc _)
  rintro e w2 ⟨rfl, own2, hD2, t2⟩
  have t02 : Tr (fun r => r = 1 ∨ r = 2 ∨ r ≥ 5) w own own2 w2 := ((HD.out.refl _).alloc _).trans (t2.weak (fun r h => by unfold duR at h; omega))
  have k1 : w2.cell? ⟨bd, 0, none⟩ = some (.pointer (some ⟨b, 0, none⟩)) := t2.cell (by rw [World.cell?_alloc_some _ _ _ (by rw [hdd]; rfl)]; exact hdd) (fun r e => by rw [HB.out.2] at e; cases e)
  have k2 := hD2.blk.cell 2
  have k3 : w2.cell? ⟨w.heap.size, 0, none⟩ = some (.int .i64 f) := t2.cell (by simp) (fun r e => by rw [HN.out] at e; cases e)
  have k4 : w2.cell? ⟨w.heap.size, 1, none⟩ = some (.int .i64 (n : Int)) := t2.cell (by simp) (fun r e => by rw [HN.out] at e; cases e)
  have hsec : SecOk (f, (n : Int)) := ⟨h0, h1, by show (0 : Int) ≤ n; omega, by show (n : Int) ≤ 262144; omega⟩
  obtain ⟨es, clock, hme⟩ := hD2.marks
  obtain ⟨es', hrun, hme'⟩ := MarksE.drop (w := w2.drew) 0 ⟨hme.map.kept rfl, hme.ent, hme.iff_⟩ hsec
  obtain ⟨hD3, t3⟩ := (hD2.far ((hD2.refl _).drew)).setMarks hme'
  have HE := Lib.hid (show LitYes w own b m k pv kv (fun q => mark q ∧ q ≠ (f, (n : Int))) { s with dur := hard s.data s.dur f n } (.returned (.bool true)) (setBlock w2.drew k (.map es' clock)) from
    ⟨rfl, own2, hD3, t02.drew.trans (t3.weak (fun r h => .inr (.inl h)))⟩)
  have nk : ∀ i j, own2 i = none ∨ i = b → (setBlock w2.drew k (.map es' clock)).cell? ⟨i, j, none⟩ = w2.drew.cell? ⟨i, j, none⟩ := fun i j hij => setBlock_cell _ (p := ⟨i, j, none⟩) (by
    rintro rfl
    rcases hij with e | e
    · rw [hD2.ok] at e; cases e
    · exact hD2.bk e.symm)
  have j1 := (nk bd 0 (.inl ((t02.kept bd hb2).trans HB.out.2))).trans k1
  have j2 := (nk b 2 (.inr rfl)).trans k2
  have hw2 : w.heap.size < w2.heap.size := by have := t2.size; simp at this; omega
  have hnn : own2 w.heap.size = none := (t2.kept w.heap.size (by simp)).trans HN.out
  have j3 := (nk w.heap.size 0 (.inl hnn)).trans k3
  have j4 := (nk w.heap.size 1 (.inl hnn)).trans k4
  have HR := Lib.hid hrun
  generalize setBlock w2.drew k (.map es' clock) = w3 at HE j1 j2 j3 j4 HR
  clear hD2 t2 t02 hme hme' hD3 t3 nk hrun hsec HD HN HB
  go_wp2_with fail
  go_region_held3 (fun w' => w'.cell? ⟨bd, 0, none⟩ = some (.pointer (some ⟨b, 0, none⟩)) ∧ w'.cell? ⟨b, 2, none⟩ = some (.map (some k)) ∧ w'.cell? ⟨w.heap.size, 0, none⟩ = some (.int .i64 f) ∧ w'.cell? ⟨w.heap.size, 1, none⟩ = some (.int .i64 (n : Int)))
    (first | exact ⟨k1, k2, k3, k4⟩ | exact ⟨j1, j2, j3, j4⟩) (first | (refine step_delete_run rfl (.tmp 15) (.tmp 16) _ _ rfl _ _ rfl rfl w3 HR.out ?_))
  go_wp2
  go_ret
  exact HE.out

end Go.Proofs.YtjlndgkahmcfdaaDoor
