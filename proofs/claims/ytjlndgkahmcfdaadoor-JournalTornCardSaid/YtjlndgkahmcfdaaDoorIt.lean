/- Ranging over a map whose rounds store at the entry's own key: laws on what has been met. No condition but what each says. -/
import Derived.Test.YtjlndgkahmcfdaaDoorSl
namespace Go.Proofs.YtjlndgkahmcfdaaDoor
set_option maxRecDepth 8000
open Go.RowKit Go.ChangeMaps Go.Maps Go.MapKept

section
variable {P : Program} {k : TypeId} {w w' : World} {m r : Nat} {es es' : Array MapEntry} {clock clock' : Nat} {seen : Array Nat} {Done Done' : Value → Prop}

theorem wpList_range_run {ops : Array Oper} {rest : List Oper} {o : Oper} {a : Act} {Q : Exit → Act → World → Prop} (hg : o.guard = none) (x : Operand) (t : TypeId) (hop : o.op = Op.range t x) (vx : Value) (hx : a.eval x = vx)
    (v : Value) (w' : World) (hr : (Instr.range t vx).run P w = .ok v w') (h : wpList P ops Q rest (a.put o.dst v) w') : wpList P ops Q (o :: rest) a w :=
  wpList_plain hg fun _ hK => by
    unfold Oper.wp
    simp [execOp, hop, hx, hr, Result.andThen]
    exact hK _ _ h
theorem wpList_next_run {ops : Array Oper} {rest : List Oper} {o : Oper} {a : Act} {Q : Exit → Act → World → Prop} (hg : o.guard = none) (x : Operand) (hop : o.op = Op.next x false) (vx : Value) (hx : a.eval x = vx)
    (v : Value) (w' : World) (hr : (Instr.next vx false o.type).run P w = .ok v w') (h : wpList P ops Q rest (a.put o.dst v) w') : wpList P ops Q (o :: rest) a w :=
  wpList_plain hg fun _ hK => by
    unfold Oper.wp
    simp [execOp, hop, hx, hr, Result.andThen]
    exact hK _ _ h
theorem wpList_entry_run {ops : Array Oper} {rest : List Oper} {o : Oper} {a : Act} {Q : Exit → Act → World → Prop} (hg : o.guard = none) (x : Operand) (hop : o.op = Op.entry x) (vx : Value) (hx : a.eval x = vx)
    (v : Value) (w' : World) (hr : (Instr.entry vx).run P w = .ok v w') (h : wpList P ops Q rest (a.put o.dst v) w') : wpList P ops Q (o :: rest) a w :=
  wpList_plain hg fun _ hK => by
    unfold Oper.wp
    simp [execOp, hop, hx, hr, Result.andThen]
    exact hK _ _ h

/-- Block r ranges over the map in block m; what has been met is done. -/
def ItAt (w : World) (m r : Nat) (es : Array MapEntry) (clock : Nat) (seen : Array Nat) (Done : Value → Prop) : Prop :=
  w.heap[m]? = some (.map es clock) ∧ (∃ since c0, w.heap[r]? = some (.mapIter (some m) since seen c0) ∧ (∀ x ∈ es.toList, x.born < since) ∧ since ≤ c0 ∧ since ≤ clock) ∧ ∀ e ∈ es.toList, seen.contains e.born = true → Done e.key
def It (w : World) (m r : Nat) (Done : Value → Prop) : Prop := ∃ es clock seen, ItAt w m r es clock seen Done

theorem It.left (h : ItAt w m r es clock seen Done) : w.rangeLeft m r = (leftOf es seen).size := by
  obtain ⟨h1, ⟨since, c0, h2, _⟩, _⟩ := h
  simp only [World.rangeLeft, h1, h2]

theorem It.start (h : MapAt P k w m es clock) (Done : Value → Prop) : It (w.alloc (.mapIter (some m) clock #[] clock)) m w.heap.size Done :=
  ⟨es, clock, #[], (heap_alloc_old w _ h.lt).trans h.blk, ⟨clock, clock, heap_alloc_new w _, h.born_lt, Nat.le_refl _, Nat.le_refl _⟩, fun e _ he => by simp at he⟩

theorem It.keep (h : ItAt w m r es clock seen Done) (hm : w'.heap[m]? = w.heap[m]?) (hr : w'.heap[r]? = w.heap[r]?) : ItAt w' m r es clock seen Done := by
  obtain ⟨h1, ⟨since, c0, h2, h3⟩, h4⟩ := h
  exact ⟨hm.trans h1, ⟨since, c0, hr.trans h2, h3⟩, h4⟩

/-- The step. -/
theorem It.next (ty : TypeId) (h : ItAt w m r es clock seen Done) (hm : MapAt P k w m es clock) :
    ((Instr.next (.pointer (some ⟨r, 0, none⟩)) false ty).run P w = .ok (.tuple #[.bool false]) w ∧ ∀ e ∈ es.toList, Done e.key) ∨
    ∃ e ∈ es.toList, ∃ w2, (Instr.next (.pointer (some ⟨r, 0, none⟩)) false ty).run P w = .ok (.tuple #[.bool true, e.key, e.val]) w2 ∧ w.grownBy w2 (some r) ∧ w2.heap.size = w.heap.size ∧
      (Instr.entry (.pointer (some ⟨r, 0, none⟩))).run P w2 = .ok (.tuple #[e.key, e.val]) w2 ∧ (leftOf es (seen.push e.born)).size < (leftOf es seen).size ∧
      ItAt w2 m r es clock (seen.push e.born) (fun q => q = e.key ∨ Done q) := by
  obtain ⟨h1, ⟨since, c0, h2, h3, h4, h5⟩, h6⟩ := h
  have hne : m ≠ r := by
    rintro rfl
    rw [h1] at h2
    cases h2
  rcases run_next_at (P := P) w ty r m since c0 seen es clock h2 h1 h3 h4 with ⟨hz, hrun⟩ | ⟨e, he, w1, hal, hrun⟩
  · exact .inl ⟨hrun, fun e he => h6 e he (all_seen es seen hz e he)⟩
  · obtain ⟨hem, hes⟩ := mem_left he
    have hr1 : w1.heap[r]? = some (.mapIter (some m) since seen c0) := by rcases hal with rfl | rfl <;> exact h2
    have hb1 : w1.heap[m]? = some (.map es clock) := by rcases hal with rfl | rfl <;> exact h1
    have hset := heap_set (o' := Obj.mapIter (some m) since (seen.push e.born) clock) hr1
    have hb' : (setBlock w1 r (.mapIter (some m) since (seen.push e.born) clock)).heap[m]? = some (.map es clock) := (hset.2 m hne).trans hb1
    refine .inr ⟨e, hem, _, hrun, ?_, ?_, run_entry_at _ r m since seen es clock e hset.1 hb' hem hm.born_nd, left_shrinks es seen e he, hb', ⟨since, clock, hset.1, h3, h5, h5⟩, fun x hx hs => ?_⟩
    · rcases hal with rfl | rfl <;> exact ⟨rfl, rfl, rfl, by simp [setBlock], fun i _ hi => hset.2 i (fun e1 => hi (by rw [e1]))⟩
    · rcases hal with rfl | rfl <;> simp [setBlock]
    · rw [contains_push] at hs
      rcases Bool.or_eq_true_iff.1 hs with hs | hs
      · exact .inr (h6 x hx hs)
      · exact .inl (by rw [hm.born_same hx hem (beq_iff_eq.1 hs)])

/-- A store at the entry's key in the round. -/
theorem It.stored {key : Value} (h : ItAt w m r es clock seen Done) (hr : w'.heap[r]? = w.heap[r]?) (hm : w'.heap[m]? = some (.map es' clock')) (hb : clock' = clock ∧ es'.toList.map (·.born) = es.toList.map (·.born))
    (who : ∀ x' ∈ es'.toList, (x' ∈ es.toList ∧ x'.key ≠ key) ∨ x'.key = key) (hk : Done' key) (hd : ∀ q, Done q → Done' q) : ItAt w' m r es' clock' seen Done' ∧ (leftOf es' seen).size = (leftOf es seen).size := by
  obtain ⟨h1, ⟨since, c0, h2, h3, h4, h5⟩, h6⟩ := h
  refine ⟨⟨hm, ⟨since, c0, hr.trans h2, fun x hx => ?_, h4, by rw [hb.1]; exact h5⟩, fun x hx hs => ?_⟩, left_same hb.2 seen⟩
  · obtain ⟨y, hy, e⟩ := mem_born hb.2 hx
    rw [← e]
    exact h3 y hy
  · rcases who x hx with ⟨h7, _⟩ | h7
    · exact hd _ (h6 x h7 hs)
    · rw [h7]; exact hk
end

end Go.Proofs.YtjlndgkahmcfdaaDoor
