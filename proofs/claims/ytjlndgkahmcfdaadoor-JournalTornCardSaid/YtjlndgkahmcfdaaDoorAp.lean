/- The disk's methods as the laws call them: New, Down, Size, Start, Lose, Arm, Crash, Sync, Truncate, Write, Read by their plain functions. Conditions: sizes of what comes in. -/
import Derived.Test.YtjlndgkahmcfdaaDoorPq
namespace Go.Proofs.YtjlndgkahmcfdaaDoor
set_option maxRecDepth 8000
open Go.RowKit Go.ChangeMaps

/-- Block b is a disk in the state s, which is one that can be reached. -/
def Da (w : World) (own : Nat → Option Nat) (b : Nat) (s : Ds) : Prop := Ok s ∧ ∃ m k pv kv, Dk w own b m k pv kv (fun p => p ∈ s.pend) s
/-- How a method ends. -/
def AEnd (w : World) (own : Nat → Option Nat) (b : Nat) (s : Ds) (v : Value) (e : Ending) (w' : World) : Prop := e = .returned v ∧ ∃ own', Da w' own' b s ∧ Tr (fun _ => True) w own own' w'

theorem Da.far {w w' : World} {own own' : Nat → Option Nat} {b : Nat} {s : Ds} (h : Da w own b s) (t : Tr (fun _ => False) w own own' w') : Da w' own' b s := by
  obtain ⟨ho, m, k, pv, kv, hd⟩ := h
  exact ⟨ho, m, k, pv, kv, hd.far t⟩
theorem Da.inb {w : World} {own : Nat → Option Nat} {b : Nat} {s : Ds} (h : Da w own b s) : ∀ g r, own g = some r → g < w.heap.size := by
  obtain ⟨_, m, k, pv, kv, hd⟩ := h
  exact hd.inb
theorem Da.ob {w : World} {own : Nat → Option Nat} {b : Nat} {s : Ds} (h : Da w own b s) : own b = some 0 := by
  obtain ⟨_, m, k, pv, kv, hd⟩ := h
  exact hd.ob

theorem a_size (w : World) (own : Nat → Option Nat) (b : Nat) (s : Ds) (f : Int) (hf : I64 f) (h : Da w own b s) : Calls Tryd.prog 37 #[.pointer (some ⟨b, 0, none⟩), .int .i64 f] w fun e w' => e = .returned (.int .i64 (s.data f).length) ∧ w = w' := by
  obtain ⟨_, m, k, pv, kv, hd⟩ := h
  exact size_any w own b m k pv kv _ s f hf hd
theorem a_start (w : World) (own : Nat → Option Nat) (b : Nat) (s : Ds) (h : Da w own b s) : Calls Tryd.prog 25 #[.pointer (some ⟨b, 0, none⟩)] w (AEnd w own b { s with down := false } (.tuple #[])) := by
  obtain ⟨ho, m, k, pv, kv, hd⟩ := h
  refine (start_any w own b m k pv kv _ s hd).mono ?_
  rintro e w' ⟨rfl, h1, t⟩
  exact ⟨rfl, own, ⟨ho.set false ho.lost ho.left ho.keep, m, k, pv, kv, h1⟩, t.weak (fun _ _ => trivial)⟩
theorem a_lose (w : World) (own : Nat → Option Nat) (b : Nat) (s : Ds) (n : Int) (hn : I64 n) (h : Da w own b s) : Calls Tryd.prog 17 #[.pointer (some ⟨b, 0, none⟩), .int .i64 n] w (AEnd w own b { s with lost := max n 0 } (.tuple #[])) := by
  obtain ⟨ho, m, k, pv, kv, hd⟩ := h
  refine (lose_any w own b m k pv kv _ s n hd).mono ?_
  rintro e w' ⟨rfl, h1, t⟩
  exact ⟨rfl, own, ⟨ho.set s.down (by unfold I64 at hn; omega) ho.left ho.keep, m, k, pv, kv, h1⟩, t.weak (fun _ _ => trivial)⟩
theorem a_arm (w : World) (own : Nat → Option Nat) (b : Nat) (s : Ds) (n : Int) (hn : I64 n) (A : Option Addr) (nk c : Nat) (l : List Int) (h : Da w own b s)
    (hr : Reads w w.heap.size 1 A nk (inV l)) (hbA : 0 < nk → ∀ ad, A = some ad → ad.block ≠ b) (hnk : nk ≤ 1000000) :
    Calls Tryd.prog 18 #[.pointer (some ⟨b, 0, none⟩), .int .i64 n, .slice A nk c] w (AEnd w own b { s with left := pos n, keep := l } (.tuple #[])) := by
  obtain ⟨ho, m, k, pv, kv, hd⟩ := h
  have hl : l.length = nk := by have := hr.1; rw [inV_len] at this; omega
  refine (arm_any w own b m k pv kv _ s n A nk c l hd hr hl hbA (by omega)).mono ?_
  rintro e w' ⟨rfl, own', kv', h1, t⟩
  exact ⟨rfl, own', ⟨ho.set s.down ho.lost (by unfold pos I64 at *; omega) (by omega), m, k, pv, kv', h1⟩, t.weak (fun _ _ => trivial)⟩

theorem results_none0 {fn : Func} (h : fn.results = #[]) (tmps : Array Value) (P : Program) (w : World) : (results fn tmps).run P w = .ok (.tuple #[]) w := by simp [results, h]

def crashP (s : Ds) (keep : List Int) : Ds := if s.down = true then s else crashed s keep
theorem Ok.crashP {s : Ds} (h : Ok s) (keep : List Int) : Ok (crashP s keep) := by
  unfold Go.Proofs.YtjlndgkahmcfdaaDoor.crashP
  split
  · exact h
  · exact h.crashed keep

set_option maxHeartbeats 400000 in
theorem crash_down (w : World) (own : Nat → Option Nat) (b m k : Nat) (pv kv v : Value) (mark : Int × Int → Prop) (s : Ds) (h : Dk w own b m k pv kv mark s) (hup : s.down = true) :
    Calls Tryd.prog 24 #[.pointer (some ⟨b, 0, none⟩), v] w fun e w' => e = .returned (.tuple #[]) ∧ w = w' := by
  have c6 := h.blk.cell 6
  rw [hup] at c6
  go_enter Tryd.func24, Tryd.ntmps24
  go_wp2
  exact bodyPost_ret (results_none0 rfl _ _ _) rfl ⟨rfl, rfl⟩

theorem a_crash (w : World) (own : Nat → Option Nat) (b : Nat) (s : Ds) (A : Option Addr) (nk c : Nat) (l : List Int) (h : Da w own b s)
    (hr : Reads w w.heap.size 1 A nk (inV l)) (hA : 0 < nk → ∀ ad, A = some ad → own ad.block = none ∨ own ad.block = some 4) (hnk : nk ≤ 1000000) :
    Calls Tryd.prog 24 #[.pointer (some ⟨b, 0, none⟩), .slice A nk c] w (AEnd w own b (crashP s l) (.tuple #[])) := by
  obtain ⟨ho, m, k, pv, kv, hd⟩ := h
  cases hdn : s.down with
  | true =>
    refine (crash_down w own b m k pv kv _ _ s hd hdn).mono ?_
    rintro e w' ⟨rfl, rfl⟩
    have e1 : crashP s l = s := by unfold crashP; rw [if_pos hdn]
    rw [e1]
    exact ⟨rfl, own, ⟨ho, m, k, pv, kv, hd⟩, hd.refl _⟩
  | false =>
    have e1 : crashP s l = crashed s l := by unfold crashP; rw [if_neg (by rw [hdn]; decide)]
    rw [e1]
    refine (crash_any w own b m k pv kv _ s A nk c l hd hdn (by have := pend_len ho; omega) hr hA hnk ho.pend ho.size (fun f => Nat.le_trans (ho.dur f) (ho.size f))).mono ?_
    rintro e w' ⟨rfl, own', pv', kv', h1, t⟩
    exact ⟨rfl, own', ⟨ho.crashed l, m, k, pv', kv', h1.congr (by funext p; simp [crashed])⟩, t⟩

end Go.Proofs.YtjlndgkahmcfdaaDoor
