/- The walk of settle: the sectors of a file become durable and leave the list. Conditions: the sectors of the file are right. -/
import Derived.Test.YtjlndgkahmcfdaaDoorDf
namespace Go.Proofs.YtjlndgkahmcfdaaDoor
set_option maxRecDepth 8000
open Go.RowKit Go.ChangeMaps

theorem first_or {α : Type} (q : α → Prop) [DecidablePred q] : ∀ l : List α, (∀ p ∈ l, ¬ q p) ∨ ∃ (i : Nat) (p : α), l[i]? = some p ∧ q p ∧ ∀ (j : Nat) (p' : α), j < i → l[j]? = some p' → ¬ q p'
  | [] => .inl (by simp)
  | a :: l => by
    by_cases h : q a
    · exact .inr ⟨0, a, rfl, h, fun j _ hj => by omega⟩
    · rcases first_or q l with h1 | ⟨i, p, h1, h2, h3⟩
      · exact .inl (fun p hp => by
          rcases List.mem_cons.1 hp with rfl | hp
          · exact h
          · exact h1 p hp)
      · refine .inr ⟨i + 1, p, by simpa using h1, h2, fun j p' hj hp' => ?_⟩
        cases j with
        | zero => simp at hp'; rw [← hp']; exact h
        | succ j => exact h3 j p' (by omega) (by simpa using hp')

theorem del_any (w : World) (own : Nat → Option Nat) (b m k : Nat) (A : Option Addr) (c n : Nat) (kv : Value) (mark : Int × Int → Prop) (s : Ds) (f : Int) (bf bd : Nat) (h : Dk w own b m k (.slice A n c) kv mark s) (hl : s.pend.length = n) (hn : n ≤ 40000000)
    (hf : w.cell? ⟨bf, 0, none⟩ = some (.int .i64 f)) (hdd : w.cell? ⟨bd, 0, none⟩ = some (.pointer (some ⟨b, 0, none⟩))) (hbf : own bf = none) (hbd : own bd = none)
    (hok : ∀ p ∈ s.pend, p.1 = f → ∃ y : Nat, p.2 = (y : Int) ∧ 64 * y < (s.data f).length)
    (h0 : 0 ≤ f) (h1 : f < 16) (hd : (s.data f).length ≤ 16777216) (hu : (s.dur f).length ≤ 16777216) :
    Calls Tryd.prog 112 #[.slice A n c, litV bf bd] w
      (DelEnd w own b m k (.slice A n c) kv (procM mark f s.pend) { s with dur := procD s.data f s.dur s.pend } (keepL f s.pend)) := by
  rcases first_or (fun p : Int × Int => p.1 = f) s.pend with hall | ⟨i, p, hp, hpf, hall⟩
  · rw [procM_none _ _ _ hall, procD_none _ _ _ _ hall, keepL_none _ _ hall]
    exact del_none w own b m k A c n kv mark s f bf bd h hl hn hf hall
  · obtain ⟨g, c', hv, _, _⟩ := own_some h.pend.1 rfl (by have := (List.getElem?_eq_some_iff.1 hp).1; omega)
    injection hv with hA _ hC
    subst hA
    subst hC
    obtain ⟨y, e1, e2⟩ := hok p (List.mem_of_getElem? hp) hpf
    obtain ⟨p1, p2⟩ := p
    simp only at hpf e1
    subst hpf
    subst e1
    exact del_some w own b m k g c n kv mark s p1 i y bf bd h hl hn hf hdd hbf hbd hp hall hok h0 h1 hd hu

def SettleEnd (w : World) (own : Nat → Option Nat) (b m k : Nat) (kv : Value) (mark : Int × Int → Prop) (s : Ds) (e : Ending) (w' : World) : Prop :=
  e = .returned (.tuple #[]) ∧ ∃ own' pv, Dk w' own' b m k pv kv mark s ∧ Tr (fun _ => True) w own own' w'

theorem settle_fin {w W0 w2 : World} {own own2 : Nat → Option Nat} {b m k : Nat} {pv pv2 kv v : Value} {mark mark2 : Int × Int → Prop} {s s2 : Ds} {l cur : List (Int × Int)} (_h : Dk w own b m k pv kv mark s) (t0 : Tr (fun _ => True) w own own W0)
    (h2 : Dk w2 own2 b m k pv2 kv mark2 { s2 with pend := cur }) (hr : Row w2 own2 3 93 2 v l.length (secC l)) (t2 : Tr (fun _ => True) W0 own own2 w2) :
    SettleEnd w own b m k kv mark2 { s2 with pend := l } (.returned (.tuple #[])) (w2.setCell ⟨b, 1, none⟩ v) :=
  ⟨rfl, own2, v, h2.setPend hr, (t0.trans t2).trans ((h2.set0 1 v).weak (fun _ _ => trivial))⟩

set_option maxRecDepth 4000 in
set_option maxHeartbeats 2000000 in
theorem settle_any (w : World) (own : Nat → Option Nat) (b m k : Nat) (pv kv : Value) (mark : Int × Int → Prop) (s : Ds) (f : Int) (h : Dk w own b m k pv kv mark s) (hn : s.pend.length ≤ 40000000)
    (hok : ∀ p ∈ s.pend, p.1 = f → ∃ y : Nat, p.2 = (y : Int) ∧ 64 * y < (s.data f).length) (h0 : 0 ≤ f) (h1 : f < 16) (hd : (s.data f).length ≤ 16777216) (hu : (s.dur f).length ≤ 16777216) :
    Calls Tryd.prog 93 #[.pointer (some ⟨b, 0, none⟩), .int .i64 f] w
      (SettleEnd w own b m k kv (procM mark f s.pend) { s with dur := procD s.data f s.dur s.pend, pend := keepL f s.pend }) := by
  obtain ⟨A, c, rfl, _, _⟩ := own_slice h.pend.1
  have HC : Hid (∀ W : World, Tr (fun _ => False) w own own W → W.cell? ⟨w.heap.size + 1, 0, none⟩ = some (.int .i64 f) → W.cell? ⟨w.heap.size, 0, none⟩ = some (.pointer (some ⟨b, 0, none⟩)) →
      Calls Tryd.prog 112 #[.slice A s.pend.length c, .func (.func 113) #[] #[.pointer (some ⟨w.heap.size + 1, 0, none⟩), .pointer (some ⟨w.heap.size, 0, none⟩)]] W
        (DelEnd W own b m k (.slice A s.pend.length c) kv (procM mark f s.pend) { s with dur := procD s.data f s.dur s.pend } (keepL f s.pend))) := fun W t e1 e2 =>
    del_any W own b m k A c s.pend.length kv mark s f (w.heap.size + 1) w.heap.size (h.far t) rfl hn e1 e2 (own_none h.inb (Nat.le_succ _)) (own_none h.inb (Nat.le_refl _)) hok h0 h1 hd hu
  have c1 := h.blk.cell 1
  have hbb := h.blk.lt
  have HD := Lib.hid h
  have HNN := Lib.hid (show own w.heap.size = none from own_none h.inb (Nat.le_refl _))
  clear h hok hd hu
  go_enter Tryd.func93, Tryd.ntmps93
  go_wp2_with fail
  go_region_with (first | (go_at_call 112; refine (HC.out _ ?_ ?_ ?_).mono ?_; (next => exact (((HD.out.refl _).alloc _).alloc _).drew); (next => simp); (next => simp); rintro e w2 ⟨A2, c2, own2, cur, rfl, hD2, hr2, t2⟩; have k1 : w2.cell? ⟨w.heap.size, 0, none⟩ = some (.pointer (some ⟨b, 0, none⟩)) := t2.cell (by simp) (fun r e => by rw [HNN.out] at e; cases e); have k2 := hD2.blk.cell 1; have k3 := hD2.blk.frozen 1; have HE := Lib.hid (settle_fin HD.out (((HD.out.refl _).alloc _).alloc _).drew hD2 hr2 (t2.weak (fun _ _ => trivial))); clear hD2 hr2 t2; simp only []))
  all_goals
    go_wp2
    go_end0
    exact HE.out

end Go.Proofs.YtjlndgkahmcfdaaDoor
