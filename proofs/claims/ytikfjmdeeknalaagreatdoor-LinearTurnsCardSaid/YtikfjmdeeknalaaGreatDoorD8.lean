/- What a law's walk has made: boxes of big integers that may be stored to again; the arguments' boxes; the tests ahead. Conditions: sizes. -/
import Derived.Test.YtikfjmdeeknalaaGreatDoorD7
namespace Go.Proofs.YtikfjmdeeknalaaGreatDoor
set_option maxRecDepth 8000
open Go.RowKit

/-- What is made anew lies in a new block. -/
def Fresh (w : World) (A : Option Addr) (n : Nat) : Prop := 0 < n → ∀ ad, A = some ad → w.heap.size ≤ ad.block
/-- How a function ends that returns a new right big integer, and OK. -/
def OkF (w : World) (k : Nat) (x : Int) (e : Ending) (w' : World) : Prop := ∃ s A n c, e = .returned (.tuple #[.agg #[.int .i64 s, .slice A n c], .int .i64 0]) ∧ n ≤ c ∧ Bg w' k x s A n ∧ Fresh w A n ∧ Below w.heap.size w w'
def EndF (w : World) (k : Nat) (x : Int) (e : Ending) (w' : World) : Prop := ∃ s A n c, e = .returned (.agg #[.int .i64 s, .slice A n c]) ∧ n ≤ c ∧ Bg w' k x s A n ∧ Fresh w A n ∧ Below w.heap.size w w'
theorem BigOk.f {w w' : World} {x : Int} {e : Ending} {k : Nat} (h : BigOk w x e w') (hk : Sz k x) : OkF w k x e w' := by
  obtain ⟨s, l, A, c, h1, h2, h3, h4, h5⟩ := h
  exact ⟨s, A, l.length, c, h1, h2, ⟨hk, l, rfl, h3, h4⟩, h5.1, h5.2⟩
theorem BigEnd.f {w w' : World} {x : Int} {e : Ending} {k : Nat} (h : BigEnd w x e w') (hk : Sz k x) : EndF w k x e w' := by
  obtain ⟨s, l, A, c, h1, h2, h3, h4, h5⟩ := h
  exact ⟨s, A, l.length, c, h1, h2, ⟨hk, l, rfl, h3, h4⟩, h5.1, h5.2⟩
section
variable {w : World} {j k : Nat} {x y s1 s2 : Int} {A1 A2 : Option Addr} {n1 n2 : Nat}
theorem of_F (x : Int) (w : World) (h0 : -9223372036854775808 ≤ x) (h1 : x ≤ 9223372036854775807) : Calls Tryz.prog 39 #[.int .i64 x] w (EndF w 4 x) :=
  (Of_any x w h0 h1).mono fun _ _ h => h.f (Sz.int h0 h1)
theorem mul_F (h1 : Bg w j x s1 A1 n1) (h2 : Bg w k y s2 A2 n2) (hj : j ≤ 1048576) (hk : k ≤ 1048576) (c1 c2 : Nat) :
    Calls Tryz.prog 19 #[.agg #[.int .i64 s1, .slice A1 n1 c1], .agg #[.int .i64 s2, .slice A2 n2 c2]] w (OkF w (j + k) (x * y)) := by
  have e1 := h1.len
  have e2 := h2.len
  obtain ⟨z1, l1, g1, r1, m1⟩ := h1
  obtain ⟨z2, l2, g2, r2, m2⟩ := h2
  exact (Mul_any s1 s2 A1 A2 n1 n2 c1 c2 _ _ l1 l2 x y w m1 m2 r1 r2 (by omega) (by omega)).mono fun _ _ h => h.f (z1.mul z2)
theorem add_F (h1 : Bg w j x s1 A1 n1) (h2 : Bg w k y s2 A2 n2) (hj : j ≤ 1000000) (hk : k ≤ 1000000) (c1 c2 : Nat) :
    Calls Tryz.prog 15 #[.agg #[.int .i64 s1, .slice A1 n1 c1], .agg #[.int .i64 s2, .slice A2 n2 c2]] w (OkF w (j + k + 1) (x + y)) := by
  have e1 := h1.len
  have e2 := h2.len
  obtain ⟨z1, l1, g1, r1, m1⟩ := h1
  obtain ⟨z2, l2, g2, r2, m2⟩ := h2
  exact (Add_any s1 s2 A1 A2 n1 n2 c1 c2 _ _ l1 l2 x y w m1 m2 r1 r2 (by omega) (by omega)).mono fun _ _ h => h.f ((z1.mono (by omega)).add (z2.mono (by omega)))
theorem neg_F (h1 : Bg w k x s1 A1 n1) (hk : k ≤ 1048576) (c1 : Nat) :
    Calls Tryz.prog 37 #[.agg #[.int .i64 s1, .slice A1 n1 c1]] w (EndF w k (-x)) := by
  have e1 := h1.len
  obtain ⟨z1, l1, g1, r1, m1⟩ := h1
  exact (Neg_any s1 A1 n1 c1 _ l1 x w m1 r1 (by omega)).mono fun _ _ h => h.f z1.neg
end

/-- What a law's walk has made so far. -/
structure StR (w0 w : World) (L : List BoxR) : Prop where
  bl : Below w0.heap.size w0 w
  bx : ∀ r ∈ L, Blk w r.b 24 #[.int .i64 r.s, .slice r.A r.n r.c] ∧ Bg w r.k r.x r.s r.A r.n
  lo : ∀ r ∈ L, w0.heap.size ≤ r.b
  nd : L.Pairwise (fun r r' => r.b ≠ r'.b)
  ap : ∀ r ∈ L, ∀ r' ∈ L, 0 < r'.n → ∀ ad, r'.A = some ad → ad.block ≠ r.b
theorem Bg.lt {w : World} {k : Nat} {x s : Int} {A : Option Addr} {n : Nat} (h : Bg w k x s A n) (hn : 0 < n) {ad : Addr} (e : A = some ad) : ad.block < w.heap.size := by
  obtain ⟨-, l, -, -, h3⟩ := h
  exact h3.lt hn e
theorem Bg.apart {w w' : World} {k : Nat} {x s : Int} {A : Option Addr} {n g : Nat} (h : Bg w k x s A n) (hg : w.grownBy w' (some g)) (hne : 0 < n → ∀ ad, A = some ad → ad.block ≠ g) : Bg w' k x s A n := by
  obtain ⟨hz, l, h1, h2, h3⟩ := h
  exact ⟨hz, l, h1, h2, (h3.apart hg hne).here⟩
section
variable {w0 w w' : World} {L : List BoxR} {k : Nat} {x s : Int} {A : Option Addr} {n : Nat}
theorem StR.new (w : World) : StR w w [] := ⟨Below.refl _ _, (fun _ h => by cases h), (fun _ h => by cases h), List.Pairwise.nil, (fun _ h => by cases h)⟩
theorem StR.call (h : StR w0 w L) (hb : Below w.heap.size w w') : StR w0 w' L :=
  ⟨h.bl.trans (hb.mono h.bl.size), fun r hr => ⟨(h.bx r hr).1.below hb (h.bx r hr).1.lt, (h.bx r hr).2.past hb⟩, h.lo, h.nd, h.ap⟩
theorem StR.made (h : StR w0 w L) (hb : Below w.heap.size w w') (hg : Bg w' k x s A n) (hf : Fresh w A n) (c : Nat) :
    StR w0 (w'.alloc (.cells #[.int .i64 s, .slice A n c] 24)) (⟨w'.heap.size, k, x, s, A, n, c⟩ :: L) := by
  have hb2 : Below w'.heap.size w' (w'.alloc (.cells #[.int .i64 s, .slice A n c] 24)) := (Below.refl _ _).alloc (Nat.le_refl _) _
  have h1 := h.call hb
  have h2 := h1.call hb2
  refine ⟨h2.bl, fun r hr => ?_, fun r hr => ?_, List.Pairwise.cons (fun r hr => ?_) h.nd, fun r hr r' hr' hp ad e => ?_⟩
  · rcases List.mem_cons.1 hr with rfl | hr
    · exact ⟨Blk.new w' _ _, hg.past hb2⟩
    · exact h2.bx r hr
  · rcases List.mem_cons.1 hr with rfl | hr
    · exact h1.bl.size
    · exact h.lo r hr
  · have := (h1.bx r hr).1.lt
    show w'.heap.size ≠ r.b
    omega
  · rcases List.mem_cons.1 hr with rfl | hr <;> rcases List.mem_cons.1 hr' with rfl | hr'
    · exact Nat.ne_of_lt (hg.lt hp e)
    · exact Nat.ne_of_lt ((h1.bx r' hr').2.lt hp e)
    · have := hf hp ad e
      have := (h.bx r hr).1.lt
      omega
    · exact h.ap r hr r' hr' hp ad e
theorem StR.put (h : StR w0 w L) (hb : Below w.heap.size w w') (hg : Bg w' k x s A n) (hf : Fresh w A n) (c : Nat) {i : Nat} {r : BoxR} (hi : L[i]? = some r) :
    StR w0 ((w'.setCell ⟨r.b, 0, none⟩ (.int .i64 s)).setCell ⟨r.b, 1, none⟩ (.slice A n c)) (L.set i ⟨r.b, k, x, s, A, n, c⟩) := by
  have h1 := h.call hb
  have hr := List.mem_of_getElem? hi
  have hgr : w'.grownBy ((w'.setCell ⟨r.b, 0, none⟩ (.int .i64 s)).setCell ⟨r.b, 1, none⟩ (.slice A n c)) (some r.b) :=
    only_setCell (p := ⟨r.b, 1, none⟩) (only_setCell (p := ⟨r.b, 0, none⟩) (grown_refl w' (some r.b)) (.inl rfl) _) (.inl rfl) _
  have hlo := h.lo r hr
  have hbn : Blk ((w'.setCell ⟨r.b, 0, none⟩ (.int .i64 s)).setCell ⟨r.b, 1, none⟩ (.slice A n c)) r.b 24 #[.int .i64 s, .slice A n c] := by
    have := ((h1.bx r hr).1.set_ 0 (.int .i64 s)).set_ 1 (.slice A n c)
    simpa using this
  have hfr : 0 < n → ∀ ad, A = some ad → ∀ r' ∈ L, ad.block ≠ r'.b := fun hp ad e r' hr' => by
    have := hf hp ad e
    have := (h.bx r' hr').1.lt
    omega
  have hset : ∀ r' ∈ L.set i ⟨r.b, k, x, s, A, n, c⟩, r' = ⟨r.b, k, x, s, A, n, c⟩ ∨ (r' ∈ L ∧ r'.b ≠ r.b) := fun r' hr' => by
    obtain ⟨j, hj⟩ := List.mem_iff_getElem?.1 hr'
    by_cases e : i = j
    · subst e
      rw [List.getElem?_set_self (List.getElem?_eq_some_iff.1 hi).1] at hj
      exact .inl (Option.some.inj hj).symm
    · rw [List.getElem?_set_ne e] at hj
      refine .inr ⟨List.mem_of_getElem? hj, ?_⟩
      obtain ⟨hi1, hi2⟩ := List.getElem?_eq_some_iff.1 hi
      obtain ⟨hj1, hj2⟩ := List.getElem?_eq_some_iff.1 hj
      rcases Nat.lt_or_gt_of_ne e with hlt | hlt
      · have := List.pairwise_iff_getElem.1 h.nd i j hi1 hj1 hlt
        rw [hi2, hj2] at this
        exact this.symm
      · have := List.pairwise_iff_getElem.1 h.nd j i hj1 hi1 hlt
        rw [hi2, hj2] at this
        exact this
  refine ⟨(h1.bl.setCell (p := ⟨r.b, 0, none⟩) hlo _).setCell (p := ⟨r.b, 1, none⟩) hlo _, fun r' hr' => ?_, fun r' hr' => ?_, ?_, fun r1 h1' r2 h2' hp ad e => ?_⟩
  · rcases hset r' hr' with rfl | ⟨h2, h3⟩
    · exact ⟨hbn, hg.apart hgr (fun hp ad e => hfr hp ad e r hr)⟩
    · exact ⟨(h1.bx r' h2).1.grown hgr (fun e => h3 (Option.some.inj e)), (h1.bx r' h2).2.apart hgr (fun hp ad e => h.ap r hr r' h2 hp ad e)⟩
  · rcases hset r' hr' with rfl | ⟨h2, -⟩
    · exact hlo
    · exact h.lo r' h2
  · have hm : (L.set i ⟨r.b, k, x, s, A, n, c⟩).map (·.b) = L.map (·.b) := by
      rw [List.map_set]
      apply List.ext_getElem?
      intro j
      by_cases e : i = j
      · subst e
        rw [List.getElem?_set_self (by rw [List.length_map]; exact (List.getElem?_eq_some_iff.1 hi).1), List.getElem?_map, hi]
        rfl
      · rw [List.getElem?_set_ne e]
    have h4 : (L.map (·.b)).Pairwise (· ≠ ·) := List.pairwise_map.2 h.nd
    rw [← hm] at h4
    exact List.pairwise_map.1 h4
  · have hb1 : r1.b = r.b ∨ (r1 ∈ L) := by
      rcases hset r1 h1' with rfl | ⟨h2, -⟩
      · exact .inl rfl
      · exact .inr h2
    rcases hset r2 h2' with rfl | ⟨h3, -⟩
    · rcases hb1 with e1 | h2
      · rw [e1]; exact hfr hp ad e r hr
      · exact hfr hp ad e r1 h2
    · rcases hb1 with e1 | h2
      · rw [e1]; exact h.ap r hr r2 h3 hp ad e
      · exact h.ap r1 h2 r2 h3 hp ad e
end

theorem Blk.c0 {w : World} {g : Nat} {t : TypeId} {u v : Value} (h : Blk w g t #[u, v]) : w.cell? ⟨g, 0, none⟩ = some u := (h.cell 0).trans rfl
theorem Blk.c1 {w : World} {g : Nat} {t : TypeId} {u v : Value} (h : Blk w g t #[u, v]) : w.cell? ⟨g, 1, none⟩ = some v := (h.cell 1).trans rfl
theorem alc {w : World} {p : Addr} {u : Value} {o : Obj} (h : w.cell? p = some u) : (w.alloc o).cell? p = some u := (((Below.refl _ _).alloc (Nat.le_refl _) o).cell (World.block_lt_of_cell? _ _ h)).trans h
theorem stc {w : World} {p q : Addr} {u v : Value} (h : w.cell? p = some u) (hne : p.block ≠ q.block) : (w.setCell q v).cell? p = some u := (World.cell?_setCell_other _ _ _ _ (fun e => hne (by rw [e]))).trans h
/-- The boxes of the arguments. -/
structure ArgR where
  s : Int
  A : Option Addr
  n : Nat
  c : Nat
structure BxA (w0 w : World) (L : List ArgR) : Prop where
  bl : Below w0.heap.size w0 w
  bx : ∀ (i : Nat) r, L[i]? = some r → Blk w (w0.heap.size + i) 24 #[.int .i64 r.s, .slice r.A r.n r.c]
section
variable {w0 w w' : World} {L : List ArgR}
theorem BxA.new (w : World) : BxA w w [] := ⟨Below.refl _ _, fun i r h => by simp at h⟩
theorem BxA.call (h : BxA w0 w L) (hb : Below w.heap.size w w') : BxA w0 w' L := ⟨h.bl.trans (hb.mono h.bl.size), fun i r hr => (h.bx i r hr).below hb (h.bx i r hr).lt⟩
theorem BxA.box (h : BxA w0 w L) (hs : w.heap.size = w0.heap.size + L.length) (r : ArgR) : BxA w0 (w.alloc (.cells #[.int .i64 r.s, .slice r.A r.n r.c] 24)) (L ++ [r]) := by
  have h1 := h.call (w' := w.alloc (.cells #[.int .i64 r.s, .slice r.A r.n r.c] 24)) ((Below.refl _ _).alloc (Nat.le_refl _) _)
  refine ⟨h1.bl, fun i r' hr' => ?_⟩
  rcases Nat.lt_or_ge i L.length with hlt | hge
  · rw [List.getElem?_append_left hlt] at hr'
    exact h1.bx i r' hr'
  · rw [List.getElem?_append_right hge] at hr'
    have hi : i - L.length = 0 := by
      have := (List.getElem?_eq_some_iff.1 hr').1
      simpa using this
    rw [hi] at hr'
    cases hr'
    rw [show w0.heap.size + i = w.heap.size by omega]
    exact Blk.new w _ _
/-- The arguments' boxes, once the arguments are known to be right. -/
theorem BxA.st2 {a b : ArgR} {k1 k2 : Nat} {x1 x2 : Int} (h : BxA w0 w [a, b]) (h1 : Bg w0 k1 x1 a.s a.A a.n) (h2 : Bg w0 k2 x2 b.s b.A b.n) : StR w0 w [⟨w0.heap.size, k1, x1, a.s, a.A, a.n, a.c⟩, ⟨w0.heap.size + 1, k2, x2, b.s, b.A, b.n, b.c⟩] := by
  have e1 := h.bx 0 a rfl
  have e2 := h.bx 1 b rfl
  refine ⟨h.bl, fun r hr => ?_, fun r hr => ?_, ?_, fun r hr r' hr' hp ad e => ?_⟩
  · simp only [List.mem_cons, List.not_mem_nil, or_false] at hr
    rcases hr with rfl | rfl
    · exact ⟨e1, h1.past h.bl⟩
    · exact ⟨e2, h2.past h.bl⟩
  · simp only [List.mem_cons, List.not_mem_nil, or_false] at hr
    rcases hr with rfl | rfl <;> simp
  · simp
  · have hlo : w0.heap.size ≤ r.b := by
      simp only [List.mem_cons, List.not_mem_nil, or_false] at hr
      rcases hr with rfl | rfl <;> simp
    have : ad.block < w0.heap.size := by
      simp only [List.mem_cons, List.not_mem_nil, or_false] at hr'
      rcases hr' with rfl | rfl
      · exact h1.lt hp e
      · exact h2.lt hp e
    omega
theorem BxA.st3 {a b c : ArgR} {k1 k2 k3 : Nat} {x1 x2 x3 : Int} (h : BxA w0 w [a, b, c]) (h1 : Bg w0 k1 x1 a.s a.A a.n) (h2 : Bg w0 k2 x2 b.s b.A b.n) (h3 : Bg w0 k3 x3 c.s c.A c.n) :
    StR w0 w [⟨w0.heap.size, k1, x1, a.s, a.A, a.n, a.c⟩, ⟨w0.heap.size + 1, k2, x2, b.s, b.A, b.n, b.c⟩, ⟨w0.heap.size + 1 + 1, k3, x3, c.s, c.A, c.n, c.c⟩] := by
  have e1 := h.bx 0 a rfl
  have e2 := h.bx 1 b rfl
  have e3 := h.bx 2 c rfl
  refine ⟨h.bl, fun r hr => ?_, fun r hr => ?_, ?_, fun r hr r' hr' hp ad e => ?_⟩
  · simp only [List.mem_cons, List.not_mem_nil, or_false] at hr
    rcases hr with rfl | rfl | rfl
    · exact ⟨e1, h1.past h.bl⟩
    · exact ⟨e2, h2.past h.bl⟩
    · exact ⟨e3, h3.past h.bl⟩
  · simp only [List.mem_cons, List.not_mem_nil, or_false] at hr
    rcases hr with rfl | rfl | rfl <;> (dsimp only; omega)
  · simp only [List.pairwise_cons, List.mem_cons, List.not_mem_nil, or_false, forall_eq_or_imp, forall_eq]
    exact ⟨⟨by omega, by omega⟩, by omega, (fun _ h => by cases h), List.Pairwise.nil⟩
  · have hlo : w0.heap.size ≤ r.b := by
      simp only [List.mem_cons, List.not_mem_nil, or_false] at hr
      rcases hr with rfl | rfl | rfl <;> (dsimp only; omega)
    have : ad.block < w0.heap.size := by
      simp only [List.mem_cons, List.not_mem_nil, or_false] at hr'
      rcases hr' with rfl | rfl | rfl
      · exact h1.lt hp e
      · exact h2.lt hp e
      · exact h3.lt hp e
    omega
end
/-- A big integer as an argument. -/
structure BigArg (w : World) (r : ArgR) (l : List Int) : Prop where
  rd : Reads w w.heap.size 1 r.A r.n (iv l)
  fit : Fit l
  sg : -9223372036854775808 ≤ r.s ∧ r.s ≤ 9223372036854775807
theorem BigArg.bg {w : World} {r : ArgR} {l : List Int} {k : Nat} (h : BigArg w r l) (hr : rightB r.s l = true) (hn : r.n ≤ k) : ∃ x, Bg w k x r.s r.A r.n := by
  obtain ⟨l', x, rfl, hrep⟩ := rightB_rep hr
  have hl : l'.length = r.n := by have := h.rd.lenI; simpa using this
  have hrd := h.rd
  rw [← dv_iv] at hrd
  exact ⟨x, hrep.sz.mono (by omega), l', hl, hrep, hrd⟩
theorem right_is {w w' : World} {r : ArgR} {l : List Int} {b : Bool} (h : BigArg w r l) (hn : r.n ≤ 1073741824) (hb : Below w.heap.size w w') (hr : rightB r.s l = b) : Calls Tryz.prog 30 #[.agg #[.int .i64 r.s, .slice r.A r.n r.c]] w' fun e w2 => e = .returned (.bool b) ∧ Below w'.heap.size w' w2 := by
  have := Right_any r.s r.A r.n r.c _ l w' (h.rd.past hb) h.fit hn
  rwa [hr] at this
end Go.Proofs.YtikfjmdeeknalaaGreatDoor
