/- Laws of maps that are known as their entries: look-up, store, deletion, clearing, ranging, at keys of any kind that the library bundles. No condition but what each says. -/
import Derived.Test.YtjlndgkahmcfdaaDoorMem
import Derived.Maps.Keyed
import Derived.Maps.Range
import Derived.Maps.RangeRun
import Derived.DeepKeys4
import Derived.Maps.OwnOps
import Derived.Maps.OwnSet
import Derived.Maps.RangeWalk
import Derived.Laws.OwnMore
namespace Go.Proofs.YtjlndgkahmcfdaaDoor
set_option maxRecDepth 8000
open Go.RowKit Go.ChangeMaps Go.Maps Go.MapKept

/-- Block b is a map with the entries es, under a clock; each key is one of type k. -/
structure MapAt (P : Program) (k : TypeId) (w : World) (b : Nat) (es : Array MapEntry) (clock : Nat) : Prop where
  blk : w.heap[b]? = some (.map es clock)
  keys : ∀ e ∈ es.toList, ∃ l, keyOf P k e.key = some l
  st : Stamped es clock

section
variable {P : Program} {k : TypeId} {w : World} {b : Nat} {es : Array MapEntry} {clock : Nat}

theorem MapAt.lt (h : MapAt P k w b es clock) : b < w.heap.size := (Array.getElem?_eq_some_iff.1 h.blk).1
theorem MapAt.kept {w' : World} (h : MapAt P k w b es clock) (hb : w'.heap[b]? = w.heap[b]?) : MapAt P k w' b es clock := ⟨hb.trans h.blk, h.keys, h.st⟩
theorem MapAt.born_lt (h : MapAt P k w b es clock) : ∀ x ∈ es.toList, x.born < clock := ((stamped_iff es clock).1 h.st).1
theorem MapAt.born_nd (h : MapAt P k w b es clock) : (es.toList.map (·.born)).Nodup := ((stamped_iff es clock).1 h.st).2.1
theorem MapAt.apart (h : MapAt P k w b es clock) : es.toList.Pairwise (fun x y => x.key ≠ y.key) := ((stamped_iff es clock).1 h.st).2.2
theorem MapAt.same {x y : MapEntry} (h : MapAt P k w b es clock) (hx : x ∈ es.toList) (hy : y ∈ es.toList) (e : x.key = y.key) : x = y := entry_eq_of_key h.apart hx hy e
theorem MapAt.born_same {x y : MapEntry} (h : MapAt P k w b es clock) (hx : x ∈ es.toList) (hy : y ∈ es.toList) (e : x.born = y.born) : x = y := born_inj h.born_nd hx hy e
theorem MapAt.new (w : World) : MapAt P k (w.alloc (.map #[] 0)) w.heap.size #[] 0 := ⟨heap_alloc_new w _, by simp, stamped_empty 0⟩

theorem setBlock_same {w : World} {b : Nat} (h : b < w.heap.size) (o : Obj) : (setBlock w b o).heap[b]? = some o := by
  simp [setBlock, h]
theorem setBlock_other {w : World} {b i : Nat} (h : i ≠ b) (o : Obj) : (setBlock w b o).heap[i]? = w.heap[i]? := by
  simp [setBlock, Ne.symm h]
theorem setBlock_size (w : World) (b : Nat) (o : Obj) : (setBlock w b o).heap.size = w.heap.size := by simp [setBlock]
theorem setBlock_cell {w : World} {b : Nat} (o : Obj) {p : Addr} (h : p.block ≠ b) : (setBlock w b o).cell? p = w.cell? p := World.cell?_of_block (setBlock_other h o)
theorem setBlock_frozen {w : World} {b : Nat} (o : Obj) {p : Addr} (h : p.block ≠ b) : (setBlock w b o).frozen? p = w.frozen? p := World.frozen?_of_block (setBlock_other h o)
theorem setBlock_grown (w : World) (b : Nat) (o : Obj) : w.grownBy (setBlock w b o) (some b) :=
  ⟨rfl, rfl, rfl, by simp [setBlock], fun i _ hi => setBlock_other (fun e => hi (by rw [e])) o⟩

theorem MapAt.look {t e : TypeId} {z : Value} (h : MapAt P k w b es clock) (K : Keyed P k) (ht : P.underlying t = some (.map k e)) (hz : (zeroValue e).run P w = .ok z w) {key : Value} {kl : Lit} (hkey : keyOf P k key = some kl) :
    ((Instr.lookup t (.map (some b)) key false).run P w = .ok z w ∧ ∀ x ∈ es.toList, x.key ≠ key) ∨
    ∃ e0 ∈ es.toList, e0.key = key ∧ (Instr.lookup t (.map (some b)) key false).run P w = .ok e0.val w := by
  rcases K.find w hkey es.toList h.keys with ⟨h1, h2⟩ | ⟨j, e0, h1, h2, h3⟩
  · exact .inl ⟨by simp [Instr.lookup, run_underlying ht, MapKept.run_getObj_map h.blk, K.check w _ hkey, h1, hz, Result.andThen], h2⟩
  · exact .inr ⟨e0, List.mem_of_getElem? h2, h3, by simp [Instr.lookup, run_underlying ht, MapKept.run_getObj_map h.blk, K.check w _ hkey, h1, Result.andThen]⟩

/-- Block b of W is the map. -/
def Mb (b : Nat) (es : Array MapEntry) (clock : Nat) (W : World) : Prop := W.heap[b]? = some (.map es clock)
theorem Mb.lt {W : World} (h : Mb b es clock W) : b < W.heap.size := (Array.getElem?_eq_some_iff.1 h).1
theorem Mb.drew {W : World} (h : Mb b es clock W) : Mb b es clock W.drew := h
theorem Mb.drewN {W : World} (h : Mb b es clock W) (n : Nat) : Mb b es clock (W.drewN n) := h
theorem Mb.alloc {W : World} (h : Mb b es clock W) (o : Obj) : Mb b es clock (W.alloc o) := (heap_alloc_old W o h.lt).trans h
theorem Mb.set {W : World} (h : Mb b es clock W) {p : Addr} (hp : b ≠ p.block) (u : Value) : Mb b es clock (W.setCell p u) := (Below.heap_setCell W p u b hp).trans h
theorem Mb.setAt {W : World} (h : Mb b es clock W) {g i : Nat} (hp : b ≠ g) (u : Value) : Mb b es clock (W.setCell ⟨g, i, none⟩ u) := h.set hp u
theorem Mb.grown {W W' : World} {row : Option Nat} (h : Mb b es clock W) (hg : W.grownBy W' row) (hr : some b ≠ row) : Mb b es clock W' := (hg.block b h.lt hr).trans h

/-- The same in whatever world the block stands. -/
theorem MapAt.look_any {t e : TypeId} {z : Value} (h : MapAt P k w b es clock) (K : Keyed P k) (ht : P.underlying t = some (.map k e)) (hz : ∀ W, (zeroValue e).run P W = .ok z W) {key : Value} {kl : Lit} (hkey : keyOf P k key = some kl) :
    ((∀ W : World, Mb b es clock W → (Instr.lookup t (.map (some b)) key false).run P W = .ok z W) ∧ ∀ x ∈ es.toList, x.key ≠ key) ∨
    ∃ e0 ∈ es.toList, e0.key = key ∧ ∀ W : World, Mb b es clock W → (Instr.lookup t (.map (some b)) key false).run P W = .ok e0.val W := by
  by_cases hx : ∃ e0 ∈ es.toList, e0.key = key
  · obtain ⟨e0, h1, h2⟩ := hx
    refine .inr ⟨e0, h1, h2, fun W hW => ?_⟩
    rcases MapAt.look (w := W) ⟨hW, h.keys, h.st⟩ K ht (hz W) hkey with ⟨_, h4⟩ | ⟨e1, h3, h4, h5⟩
    · exact absurd h2 (h4 e0 h1)
    · rw [h5, h.same h1 h3 (by rw [h2, h4])]
  · refine .inl ⟨fun W hW => ?_, fun x hx' e => hx ⟨x, hx', e⟩⟩
    rcases MapAt.look (w := W) ⟨hW, h.keys, h.st⟩ K ht (hz W) hkey with ⟨h3, _⟩ | ⟨e1, h3, h4, _⟩
    · exact h3
    · exact absurd ⟨e1, h3, h4⟩ hx

theorem MapAt.other (h : MapAt P k w b es clock) {j i : Nat} {e0 x : MapEntry} (h2 : es.toList[j]? = some e0) (hi : es.toList[i]? = some x) (hne : i ≠ j) : x.key ≠ e0.key := fun e => by
  obtain ⟨hj, ej⟩ := List.getElem?_eq_some_iff.1 h2
  obtain ⟨hi', ei⟩ := List.getElem?_eq_some_iff.1 hi
  have hp := List.pairwise_iff_getElem.1 h.apart
  rcases Nat.lt_or_ge i j with hl | hg
  · exact hp i j hi' hj hl (by rw [ei, ej, e])
  · exact hp j i hj hi' (by omega) (by rw [ei, ej, e])

/-- 'm[key] = val': who stands among the entries behind it. -/
theorem MapAt.put {t e : TypeId} (h : MapAt P k w b es clock) (K : Keyed P k) (ht : P.underlying t = some (.map k e)) {key val : Value} {kl : Lit} (hkey : keyOf P k key = some kl) :
    ∃ es' clock', (Instr.mapUpdate t (.map (some b)) key val).run P w = .ok () (setBlock w b (.map es' clock')) ∧ MapAt P k (setBlock w b (.map es' clock')) b es' clock' ∧
      (∀ x' ∈ es'.toList, (x' ∈ es.toList ∧ x'.key ≠ key) ∨ (x'.key = key ∧ x'.val = val)) ∧ (∀ x ∈ es.toList, x.key ≠ key → x ∈ es'.toList) ∧ (∃ x' ∈ es'.toList, x'.key = key) ∧
      ((∃ x ∈ es.toList, x.key = key) → clock' = clock ∧ es'.toList.map (·.born) = es.toList.map (·.born)) := by
  rcases K.find w hkey es.toList h.keys with ⟨h1, h2⟩ | ⟨j, e0, h1, h2, h3⟩
  · refine ⟨es.push ⟨key, val, clock⟩, clock + 1, ?_, ⟨setBlock_same h.lt _, ?_, stamped_push h.st h2⟩, ?_, ?_, ?_, ?_⟩
    · simp [Instr.mapUpdate, run_underlying ht, MapKept.run_getObj_map h.blk, K.check w false hkey, h1, MapKept.run_setObj_map _ h.blk, Result.andThen, setBlock]
    · intro x hx
      simp only [Array.toList_push, List.mem_append, List.mem_singleton] at hx
      rcases hx with hx | rfl
      · exact h.keys x hx
      · exact ⟨kl, hkey⟩
    · intro x' hx'
      simp only [Array.toList_push, List.mem_append, List.mem_singleton] at hx'
      rcases hx' with hx' | rfl
      · exact Or.inl ⟨hx', h2 x' hx'⟩
      · exact Or.inr ⟨rfl, rfl⟩
    · intro x hx _
      simp only [Array.toList_push, List.mem_append]
      exact .inl hx
    · exact ⟨⟨key, val, clock⟩, by simp, rfl⟩
    · rintro ⟨x, hx, hk⟩
      exact absurd hk (h2 x hx)
  · have hj : es[j]? = some e0 := by simpa using h2
    have hjl : j < es.toList.length := (List.getElem?_eq_some_iff.1 h2).1
    have hkeyf : ∀ e', es[j]? = some e' → ({ e' with key := key, val := val } : MapEntry).key = e'.key := fun e' he' => by rw [hj] at he'; cases he'; exact h3.symm
    have hlist : (es.modify j (fun e' => { e' with key := key, val := val })).toList = es.toList.set j { e0 with key := key, val := val } := by rw [Array.toList_modify, modify_eq_set _ _ _ _ h2]
    have who : ∀ x ∈ es.toList.set j { e0 with key := key, val := val }, x = { e0 with key := key, val := val } ∨ (x ∈ es.toList ∧ x.key ≠ key) := by
      intro x hx
      obtain ⟨i, hi, ex⟩ := List.getElem_of_mem hx
      rw [List.getElem_set] at ex
      split at ex
      · exact Or.inl ex.symm
      · rename_i hne
        have hi' : i < es.toList.length := by simpa using hi
        refine Or.inr ⟨ex ▸ List.getElem_mem hi', ?_⟩
        rw [← h3]
        exact h.other h2 (by rw [List.getElem?_eq_getElem hi', ex]) (fun e1 => hne e1.symm)
    refine ⟨es.modify j (fun e' => { e' with key := key, val := val }), clock, ?_, ⟨setBlock_same h.lt _, ?_, stamped_modify h.st _ _ (fun _ _ => rfl) (fun e' _ he' => hkeyf e' he')⟩, ?_, ?_, ?_, ?_⟩
    · simp [Instr.mapUpdate, run_underlying ht, MapKept.run_getObj_map h.blk, K.check w false hkey, h1, hj, h3, K.stays w hkey, MapKept.run_setObj_map _ h.blk, Result.andThen, setBlock]
    · intro x hx
      rw [hlist] at hx
      rcases who x hx with rfl | ⟨hx', _⟩
      · exact ⟨kl, hkey⟩
      · exact h.keys x hx'
    · intro x' hx'
      rw [hlist] at hx'
      rcases who x' hx' with rfl | h
      · exact Or.inr ⟨rfl, rfl⟩
      · exact Or.inl h
    · intro x hx hne
      rw [hlist]
      obtain ⟨i, hi, ex⟩ := List.getElem_of_mem hx
      have hij : j ≠ i := by
        rintro rfl
        rw [List.getElem?_eq_getElem hi, ex] at h2
        injection h2 with h2
        subst h2
        exact hne h3
      exact List.mem_iff_getElem.2 ⟨i, by simpa using hi, by rw [List.getElem_set, if_neg hij, ex]⟩
    · rw [hlist]
      exact ⟨{ e0 with key := key, val := val }, List.mem_iff_getElem.2 ⟨j, by simpa using hjl, by simp⟩, rfl⟩
    · intro _
      refine ⟨rfl, ?_⟩
      rw [hlist, List.map_set]
      apply List.ext_getElem?
      intro i
      rw [List.getElem?_set]
      split
      · rename_i e
        subst e
        rw [List.getElem?_map, h2]
        simpa using hjl
      · rfl

/-- 'delete(m, key)'. -/
theorem MapAt.drop {t e : TypeId} (ty : TypeId) (h : MapAt P k w b es clock) (K : Keyed P k) (ht : P.underlying t = some (.map k e)) {key : Value} {kl : Lit} (hkey : keyOf P k key = some kl) :
    ∃ es', (Builtin.delete_ #[t, k] ty #[.map (some b), key]).run P w = .ok (.tuple #[]) (setBlock w b (.map es' clock)) ∧ MapAt P k (setBlock w b (.map es' clock)) b es' clock ∧
      ∀ x, x ∈ es'.toList ↔ x ∈ es.toList ∧ x.key ≠ key := by
  rcases K.find w hkey es.toList h.keys with ⟨h1, h2⟩ | ⟨j, e0, h1, h2, h3⟩
  · refine ⟨es, ?_, ⟨setBlock_same h.lt _, h.keys, h.st⟩, fun x => ⟨fun hx => ⟨hx, h2 x hx⟩, fun hx => hx.1⟩⟩
    simp [Builtin.delete_, run_underlying ht, MapKept.run_getObj_map h.blk, K.check w _ hkey, h1, MapKept.run_setObj_map _ h.blk, Result.andThen, setBlock]
  · have hjl : j < es.toList.length := (List.getElem?_eq_some_iff.1 h2).1
    have hjs : j < es.size := by simpa using hjl
    have hsub : (es.eraseIdxIfInBounds j).toList = es.toList.eraseIdx j := by
      unfold Array.eraseIdxIfInBounds
      rw [dif_pos hjs]
      simp
    refine ⟨es.eraseIdxIfInBounds j, ?_, ⟨setBlock_same h.lt _, ?_, stamped_erase h.st j⟩, ?_⟩
    · simp [Builtin.delete_, run_underlying ht, MapKept.run_getObj_map h.blk, K.check w _ hkey, h1, MapKept.run_setObj_map _ h.blk, Result.andThen, setBlock]
    · intro x hx
      rw [hsub] at hx
      exact h.keys x ((List.eraseIdx_sublist _ _).subset hx)
    · intro x
      rw [hsub, List.mem_eraseIdx_iff_getElem?]
      constructor
      · rintro ⟨i, hne, hi⟩
        exact ⟨List.mem_of_getElem? hi, by rw [← h3]; exact h.other h2 hi hne⟩
      · rintro ⟨hx, hne⟩
        obtain ⟨i, hi, ex⟩ := List.getElem_of_mem hx
        refine ⟨i, ?_, by rw [List.getElem?_eq_getElem hi, ex]⟩
        rintro rfl
        rw [List.getElem?_eq_getElem hi, ex] at h2
        injection h2 with h2
        subst h2
        exact hne h3

/-- 'clear(m)'. -/
theorem MapAt.clear {t e : TypeId} (ty : TypeId) (h : MapAt P k w b es clock) (ht : P.underlying t = some (.map k e)) :
    (Builtin.clear_ #[t] ty #[.map (some b)]).run P w = .ok (.tuple #[]) (setBlock w b (.map #[] clock)) ∧ MapAt P k (setBlock w b (.map #[] clock)) b #[] clock := by
  refine ⟨?_, ⟨setBlock_same h.lt _, by simp, stamped_empty clock⟩⟩
  simp [Builtin.clear_, run_underlying ht, MapKept.run_getObj_map h.blk, MapKept.run_setObj_map _ h.blk, Result.andThen, setBlock]

theorem MapAt.set_other {P' : Program} {k' : TypeId} {b' : Nat} {es' : Array MapEntry} {clock' : Nat} (h : MapAt P' k' w b' es' clock') (hne : b' ≠ b) (o : Obj) : MapAt P' k' (setBlock w b o) b' es' clock' := h.kept (setBlock_other hne o)

theorem left_same {es es' : Array MapEntry} (h : es'.toList.map (·.born) = es.toList.map (·.born)) (seen : Array Nat) : (leftOf es' seen).size = (leftOf es seen).size := by
  have key : ∀ a : Array MapEntry, (leftOf a seen).size = ((a.toList.map (·.born)).filter fun x => !seen.contains x).length := fun a => by
    unfold leftOf
    rw [← Array.length_toList, Array.toList_filter, List.filter_map, List.length_map]
    rfl
  rw [key, key, h]

theorem mem_born {es es' : Array MapEntry} (h : es'.toList.map (·.born) = es.toList.map (·.born)) {x : MapEntry} (hx : x ∈ es'.toList) : ∃ y ∈ es.toList, y.born = x.born := by
  have : x.born ∈ es'.toList.map (·.born) := List.mem_map.2 ⟨x, hx, rfl⟩
  rw [h] at this
  obtain ⟨y, hy, e⟩ := List.mem_map.1 this
  exact ⟨y, hy, e⟩
end

section
variable {P : Program} {w : World} {ops : Array Oper} {rest : List Oper} {o : Oper} {a : Act} {Q : Exit → Act → World → Prop}

theorem wp_lookup_run {K : Act → World → Prop} (m x : Operand) (t : TypeId) (hop : o.op = Op.lookup t m x false) (vm vx : Value) (hm : a.eval m = vm) (hx : a.eval x = vx)
    (v : Value) (w' : World) (hr : (Instr.lookup t vm vx false).run P w = .ok v w') (h : K (a.put o.dst v) w') : o.wp P a w K Q := by
  unfold Oper.wp
  simp [execOp, hop, hm, hx, hr, Result.andThen]
  exact h
theorem wpList_lookup_run (hg : o.guard = none) (m x : Operand) (t : TypeId) (hop : o.op = Op.lookup t m x false) (vm vx : Value) (hm : a.eval m = vm) (hx : a.eval x = vx)
    (v : Value) (w' : World) (hr : (Instr.lookup t vm vx false).run P w = .ok v w') (h : wpList P ops Q rest (a.put o.dst v) w') : wpList P ops Q (o :: rest) a w :=
  wpList_plain hg fun _ hK => wp_lookup_run m x t hop vm vx hm hx v w' hr (hK _ _ h)

theorem wp_update_run {K : Act → World → Prop} (m x y : Operand) (t : TypeId) (hop : o.op = Op.mapUpdate t m x y) (vm vx vy : Value) (hm : a.eval m = vm) (hx : a.eval x = vx) (hy : a.eval y = vy)
    (w' : World) (hr : (Instr.mapUpdate t vm vx vy).run P w = .ok () w') (h : K (a.put o.dst undef) w') : o.wp P a w K Q := by
  unfold Oper.wp
  simp [execOp, hop, hm, hx, hy, hr, Result.andThen]
  exact h
theorem wpList_update_run (hg : o.guard = none) (m x y : Operand) (t : TypeId) (hop : o.op = Op.mapUpdate t m x y) (vm vx vy : Value) (hm : a.eval m = vm) (hx : a.eval x = vx) (hy : a.eval y = vy)
    (w' : World) (hr : (Instr.mapUpdate t vm vx vy).run P w = .ok () w') (h : wpList P ops Q rest (a.put o.dst undef) w') : wpList P ops Q (o :: rest) a w :=
  wpList_plain hg fun _ hK => wp_update_run m x y t hop vm vx vy hm hx hy w' hr (hK _ _ h)

theorem wp_clear_run {K : Act → World → Prop} (x : Operand) (t : TypeId) (hop : o.op = .call { callee := .builtin .clear, args := #[x], argTypes := #[t] }) (vx : Value) (hx : a.eval x = vx)
    (w' : World) (hr : (Builtin.clear_ #[t] o.type #[vx]).run P w = .ok (.tuple #[]) w') (h : K (a.put o.dst (.tuple #[])) w') : o.wp P a w K Q := by
  unfold Oper.wp execOp
  simp only [hop, resolve, invoke, builtin, Sem.run_bind, Sem.run_pure, Result.andThen_ok, List.map_toArray, List.map_cons, List.map_nil, hx, hr]
  exact h
theorem wpList_clear_run (hg : o.guard = none) (x : Operand) (t : TypeId) (hop : o.op = .call { callee := .builtin .clear, args := #[x], argTypes := #[t] }) (vx : Value) (hx : a.eval x = vx)
    (w' : World) (hr : (Builtin.clear_ #[t] o.type #[vx]).run P w = .ok (.tuple #[]) w') (h : wpList P ops Q rest (a.put o.dst (.tuple #[])) w') : wpList P ops Q (o :: rest) a w :=
  wpList_plain hg fun _ hK => wp_clear_run x t hop vx hx w' hr (hK _ _ h)
theorem wp_delete_run {K : Act → World → Prop} (m x : Operand) (t k : TypeId) (hop : o.op = .call { callee := .builtin .delete, args := #[m, x], argTypes := #[t, k] }) (vm vx : Value) (hm : a.eval m = vm) (hx : a.eval x = vx)
    (w' : World) (hr : (Builtin.delete_ #[t, k] o.type #[vm, vx]).run P w = .ok (.tuple #[]) w') (h : K (a.put o.dst (.tuple #[])) w') : o.wp P a w K Q := by
  unfold Oper.wp execOp
  simp only [hop, resolve, invoke, builtin, Sem.run_bind, Sem.run_pure, Result.andThen_ok, List.map_toArray, List.map_cons, List.map_nil, hm, hx, hr]
  exact h
end

end Go.Proofs.YtjlndgkahmcfdaaDoor
