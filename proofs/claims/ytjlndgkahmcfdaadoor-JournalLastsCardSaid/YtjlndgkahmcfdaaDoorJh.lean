/- The walk of the law JournalLasts. Conditions: the table of strconv; what the arguments read as. -/
import Derived.Test.YtjlndgkahmcfdaaDoorJi
import Derived.Test.YtjlndgkahmcfdaaDoorJz
import Derived.Deep.RegionHeld3
import Derived.Deep.DeepCutAuto
namespace Go.Proofs.YtjlndgkahmcfdaaDoor
set_option maxRecDepth 8000
open Go.RowKit Go.ChangeMaps

theorem bEq_dec (a b : Int) : (a == b) = decide (a = b) := by
  by_cases h : a = b
  · subst h; simp
  · rw [decide_eq_false h]; simpa using h
set_option maxHeartbeats 400000 in
theorem disky_any (e : Int) (w : World) : Calls Tryd.prog 21 #[.int .i64 e] w fun r w' => r = .returned (.bool (decide (e = 8) || decide (e = 9))) ∧ w = w' := by
  by_cases h8 : e = 8
  · subst h8
    go_enter Tryd.func21, Tryd.ntmps21
    go_wp2
    go_ret
    exact ⟨rfl, rfl⟩
  · have hb : (e == 8) = false := by simpa using h8
    rw [decide_eq_false h8]
    go_enter Tryd.func21, Tryd.ntmps21
    go_wp2
    go_ret
    exact ⟨by simp [bEq_dec], rfl⟩

/-- A row that neither owns. -/
def Safe (own : Nat → Option Nat) (A : Option Addr) (n : Nat) : Prop := 0 < n → ∀ ad, A = some ad → own ad.block = none
theorem Safe.nil (own : Nat → Option Nat) : Safe own none 0 := fun h => by omega
theorem reads_block {w : World} {B n : Nat} {A : Option Addr} {xs : List Value} (h : Reads w B 1 A n xs) (hp : 0 < n) {ad : Addr} (e : A = some ad) : ad.block < w.heap.size := by
  obtain ⟨ad', e1, _, h2⟩ := h.2 hp
  rw [e] at e1
  cases e1
  have hx : 0 < xs.length := by rw [h.1]; omega
  have := World.block_lt_of_cell? w _ (h2 0 xs[0] (List.getElem?_eq_getElem hx))
  rwa [block_of_add] at this
theorem Safe.kept {own own' : Nat → Option Nat} {w w' : World} {A : Option Addr} {B n : Nat} {xs : List Value} (h : Safe own A n) (hr : Reads w B 1 A n xs) (t : Tr (fun _ => True) w own own' w') : Safe own' A n := fun hp ad e => (t.kept _ (reads_block hr hp e)).trans (h hp ad e)
theorem Safe.far {own own' oj oj' : Nat → Option Nat} {w w' : World} {A : Option Addr} {B n : Nat} {xs : List Value} (h : Safe own A n) (k : Safe oj A n) (hr : Reads w B 1 A n xs) (f : Far w own oj w' own' oj') : Safe own' A n ∧ Safe oj' A n ∧ Reads w' B 1 A n xs := by
  refine ⟨fun hp ad e => (f.2 _ (reads_block hr hp e) (h hp ad e) (k hp ad e)).2.1, fun hp ad e => (f.2 _ (reads_block hr hp e) (h hp ad e) (k hp ad e)).2.2, hr.1, fun hp => ?_⟩
  obtain ⟨ad, e, h1, h2⟩ := hr.2 hp
  refine ⟨ad, e, h1, fun j u hj => ?_⟩
  have hb := (f.2 _ (reads_block hr hp e) (h hp ad e) (k hp ad e)).1
  exact (World.cell?_of_block (a := ad.add j) (by rw [block_of_add]; exact hb)).trans (h2 j u hj)
/-- A row that has just been made. -/
theorem Safe.new {own : Nat → Option Nat} {w w' : World} {A : Option Addr} {n c : Nat} {xs : List Value} (ho : w'.ownsRow 0 9 1 (.slice A n c) n xs) (hn : ∀ g, (Value.slice A n c).ownBlock = some g → w.heap.size ≤ g) (hi : ∀ g r, own g = some r → g < w.heap.size) : Safe own A n := own_free (P := fun g => own g = none) ho (fun g e => own_none hi (hn g e))

/-- A journal, or none; it owns neither of the two rows. -/
def JAs (W w : World) (own : Nat → Option Nat) (bd : Nat) (f : Int) (v : Value) (j : Option Js) (A1 : Option Addr) (n1 : Nat) (A2 : Option Addr) (n2 : Nat) : Prop := match j with
  | none => v = .pointer none
  | some js => ∃ b oj, v = .pointer (some ⟨b, 0, none⟩) ∧ Jx W w oj b bd f js ∧ Apart own oj ∧ Safe oj A1 n1 ∧ Safe oj A2 n2
theorem JAs.other {W w w' : World} {own own' : Nat → Option Nat} {bd : Nat} {f : Int} {v : Value} {j : Option Js} {A1 A2 : Option Addr} {n1 n2 : Nat} (h : JAs W w own bd f v j A1 n1 A2 n2) (hb : Below W.heap.size W w') (t : Tr (fun _ => True) w own own' w') : JAs W w' own' bd f v j A1 n1 A2 n2 := by
  cases j with
  | none => exact h
  | some js =>
    obtain ⟨b, oj, e, hj, ap, s1, s2⟩ := h
    obtain ⟨h1, h2⟩ := hj.other ap hb t
    exact ⟨b, oj, e, h1, h2, s1, s2⟩
theorem JAs.go {W w w' : World} {own : Nat → Option Nat} {bd : Nat} {f : Int} {v : Value} {j : Option Js} {A1 A2 : Option Addr} {n1 n2 : Nat} (h : JAs W w own bd f v j A1 n1 A2 n2) (hb : Below w.heap.size w w') : JAs W w' own bd f v j A1 n1 A2 n2 := by
  cases j with
  | none => exact h
  | some js =>
    obtain ⟨b, oj, e, hj, ap, s1, s2⟩ := h
    exact ⟨b, oj, e, hj.past hb, ap, s1, s2⟩

/-- Does the list begin with the other one? -/
def beginsP (l a : List (List UInt8)) : Bool := decide (a.length ≤ l.length) && decide (l.take a.length = a)
theorem Reads.cutN {w : World} {B n k : Nat} {A : Option Addr} {xs : List Value} (h : Reads w B 1 A n xs) (hk : k ≤ n) : Reads w B 1 A k (xs.take k) := by
  have hl := h.1
  refine ⟨by rw [List.length_take]; omega, fun hp => ?_⟩
  obtain ⟨ad, e, h1, h2⟩ := h.2 (by omega)
  refine ⟨ad, e, h1, fun j u hj => h2 j u ?_⟩
  rw [List.getElem?_take] at hj
  split at hj
  · exact hj
  · cases hj
set_option maxHeartbeats 2000000 in
theorem begins_any (A1 A2 : Option Addr) (n1 n2 c1 c2 B1 B2 : Nat) (xs ys : List (List UInt8)) (w : World) (h1 : Reads w B1 1 A1 n1 (xs.map strV)) (h2 : Reads w B2 1 A2 n2 (ys.map strV)) (hn2 : n2 ≤ 1073741824) (hc : n1 ≤ c1) {r : Bool} (hr : beginsP xs ys = r) :
    Calls Tryd.prog 26 #[.slice A1 n1 c1, .slice A2 n2 c2] w fun e w' => e = .returned (.bool r) ∧ Drawn w w' := by
  have hl1 : xs.length = n1 := by have := h1.1; rw [List.length_map] at this; omega
  have hl2 : ys.length = n2 := by have := h2.1; rw [List.length_map] at this; omega
  subst hr
  unfold beginsP
  rw [hl1, hl2]
  by_cases hle : n2 ≤ n1
  · have hle' : (n2 : Int) ≤ (n1 : Int) := by omega
    have hm : ¬ (n1 : Int) < (n2 : Int) := by omega
    have hcc : n2 ≤ c1 := by omega
    have hk0 : (0 : Int) ≤ (n2 : Int) := by omega
    have hk1 : (n2 : Int) ≤ (c1 : Int) := by omega
    rw [decide_eq_true hle, Bool.true_and]
    have hcut := h1.cutN hle
    rw [← List.map_take] at hcut
    have HS := Lib.hid (same_any A1 A2 n2 n2 c1 c2 B1 B2 (xs.take n2) ys w hcut h2 hn2 hn2 rfl)
    clear h1 h2 hcut hl1 hl2
    cases A1 with
    | none =>
      go_enter Tryd.func26, Tryd.ntmps26
      go_wp2_with fail
      rw [show (min (n2 : Int) (n1 : Int)).toNat = n2 by omega]
      with_reducible refine HS.out.mono ?_
      rintro e w' ⟨rfl, hd⟩
      have HD := Lib.hid hd
      clear hd
      go_wp2_with fail
      go_ret
      exact ⟨rfl, HD.out⟩
    | some ad =>
      go_enter Tryd.func26, Tryd.ntmps26
      go_wp2_with fail
      rw [show (min (n2 : Int) (n1 : Int)).toNat = n2 by omega]
      with_reducible refine HS.out.mono ?_
      rintro e w' ⟨rfl, hd⟩
      have HD := Lib.hid hd
      clear hd
      go_wp2_with fail
      go_ret
      exact ⟨rfl, HD.out⟩
  · have hle' : ¬ (n2 : Int) ≤ (n1 : Int) := by omega
    have hle2 : (n1 : Int) < (n2 : Int) := by omega
    rw [decide_eq_false hle, Bool.false_and]
    clear h1 h2
    go_enter Tryd.func26, Tryd.ntmps26
    go_wp2_with fail
    go_ret
    exact ⟨rfl, 0, rfl⟩

theorem Safe.tr {own own' : Nat → Option Nat} {w w' : World} {A : Option Addr} {n : Nat} {xs : List Value} (s : Safe own A n) (r : Reads w w.heap.size 1 A n xs) (t : Tr (fun _ => True) w own own' w') : Reads w' w'.heap.size 1 A n xs := by
  refine ⟨r.1, fun hp => ?_⟩
  obtain ⟨ad, e, h1, h2⟩ := r.2 hp
  exact ⟨ad, e, Nat.lt_of_lt_of_le h1 t.size, fun j u hj => t.cell (h2 j u hj) (fun r' e' => by rw [block_of_add, s hp ad e] at e'; cases e')⟩
/-- Two rows of texts that the disk does not own. -/
structure Two (w : World) (own : Nat → Option Nat) (A1 : Option Addr) (l1 : List (List UInt8)) (A2 : Option Addr) (l2 : List (List UInt8)) : Prop where
  r1 : Reads w w.heap.size 1 A1 l1.length (l1.map strV)
  r2 : Reads w w.heap.size 1 A2 l2.length (l2.map strV)
  s1 : Safe own A1 l1.length
  s2 : Safe own A2 l2.length
theorem Two.tr {own own' : Nat → Option Nat} {w w' : World} {A1 A2 : Option Addr} {l1 l2 : List (List UInt8)} (h : Two w own A1 l1 A2 l2) (t : Tr (fun _ => True) w own own' w') : Two w' own' A1 l1 A2 l2 :=
  ⟨h.s1.tr h.r1 t, h.s2.tr h.r2 t, h.s1.kept h.r1 t, h.s2.kept h.r2 t⟩
theorem Two.go {own : Nat → Option Nat} {w w' : World} {A1 A2 : Option Addr} {l1 l2 : List (List UInt8)} (h : Two w own A1 l1 A2 l2) (hb : Below w.heap.size w w') : Two w' own A1 l1 A2 l2 :=
  ⟨(h.r1.below hb).more hb.size, (h.r2.below hb).more hb.size, h.s1, h.s2⟩
theorem Two.far {own own' oj oj' : Nat → Option Nat} {w w' : World} {A1 A2 : Option Addr} {l1 l2 : List (List UInt8)} (h : Two w own A1 l1 A2 l2) (k1 : Safe oj A1 l1.length) (k2 : Safe oj A2 l2.length) (f : Far w own oj w' own' oj') : Two w' own' A1 l1 A2 l2 ∧ Safe oj' A1 l1.length ∧ Safe oj' A2 l2.length := by
  obtain ⟨a1, a2, a3⟩ := h.s1.far k1 h.r1 f
  obtain ⟨b1, b2, b3⟩ := h.s2.far k2 h.r2 f
  exact ⟨⟨a3.more f.1, b3.more f.1, a1, b1⟩, a2, b2⟩
theorem alloc_below (w : World) (o : Obj) : Below w.heap.size w (w.alloc o) := (Below.refl w.heap.size w).alloc (Nat.le_refl _) o
/-- A list of texts in memory that has been made since W. -/
def Lst (W w : World) (v : Value) (n : Nat) (xs : List (List UInt8)) : Prop := w.ownsRow 0 9 1 v n (xs.map strV) ∧ (∀ g, v.ownBlock = some g → W.heap.size ≤ g) ∧ Below W.heap.size W w
theorem Lst.emp {W w : World} {g : Nat} (h : w.heap[g]? = some (.cells #[] 9 (0, 0))) (hg : W.heap.size ≤ g) (hb : Below W.heap.size W w) : Lst W w (.slice (some ⟨g, 0, none⟩) 0 0) 0 [] :=
  ⟨⟨by simp, .inr ⟨g, 0, #[], rfl, Nat.zero_le _, h, Nat.le_refl _, by unfold maxLen; omega, rfl, rfl⟩⟩, (fun g' e => by cases e; exact hg), hb⟩
theorem Lst.alloc {W w : World} {v : Value} {n : Nat} {xs : List (List UInt8)} (h : Lst W w v n xs) (o : Obj) : Lst W (w.alloc o) v n xs :=
  ⟨own_below h.1 (alloc_below w o) (fun g e => (h.1.lt g e).2), h.2.1, h.2.2.alloc h.2.2.size o⟩
theorem Lst.drew {W w : World} {v : Value} {n : Nat} {xs : List (List UInt8)} (h : Lst W w v n xs) : Lst W w.drew v n xs := ⟨h.1, h.2.1, h.2.2.drew⟩
theorem Lst.app {W w w' : World} {v v' : Value} {n m : Nat} {xs ys : List (List UInt8)} (h : Lst W w v n xs) (p1 : w'.ownsRow 0 9 1 v' (n + m) (xs.map strV ++ ys.map strV)) (p2 : w.grownBy w' v.ownBlock) (p3 : v'.ownBlock = v.ownBlock ∨ v'.ownBlock = some w.heap.size) : Lst W w' v' (n + m) (xs ++ ys) := by
  refine ⟨by rw [List.map_append]; exact p1, fun g e => ?_, h.2.2.trans ⟨p2.os, p2.tape, p2.output, p2.size, fun k hk => p2.block k (by have := h.2.2.size; omega) (fun e => by have := h.2.1 k (by first | exact e | exact e.symm); omega)⟩⟩
  rcases p3 with p3 | p3
  · exact h.2.1 g (p3 ▸ e)
  · rw [p3] at e
    cases e
    exact h.2.2.size
theorem one_at {w : World} {g B : Nat} {t : List UInt8} (h : w.heap[g]? = some (.cells #[.string (bStr t)] 9 (0, 0))) (hB : g < B) : Reads w B 1 (some ⟨g, 0, none⟩) 1 ([t].map strV) := by
  refine ⟨rfl, fun _ => ⟨_, rfl, hB, fun j u hj => ?_⟩⟩
  have hj0 : j = 0 := by
    have := (List.getElem?_eq_some_iff.1 hj).1
    simpa using this
  subst hj0
  have := cell_of_row w g 0 #[.string (bStr t)] 9 (0, 0) h
  cases hj
  exact this
theorem heap_two (w : World) (o o2 : Obj) : ((w.alloc o).alloc o2).heap[w.heap.size + 1]? = some o2 := by
  have := heap_alloc_new (w.alloc o) o2
  simpa using this
theorem heap_one (w : World) (o o2 : Obj) : ((w.alloc o).alloc o2).heap[w.heap.size]? = some o := ((alloc_below (w.alloc o) o2).block _ (by simp)).trans (heap_alloc_new w o)
theorem wpList_append_w {P : Program} (w : World) {ops : Array Oper} {rest : List Oper} {o : Oper} {a : Act} {Q : Exit → Act → World → Prop} (hw : Region.wanted o (yielded ops a.tmps) = true) (s x : Operand) (t : TypeId)
    (ho : o.op = .call { callee := .builtin .append, args := #[s, x], argTypes := #[t, t] })
    (base : Nat) (e : TypeId) (i : TypeInfo) (z : Value) (size bytes : Nat) (ht : P.underlying t = some (.slice e)) (hi : P.info? e = some i) (hz : i.zero = some z)
    (hsize : i.size = size) (hby : i.bytes = bytes) (hzs : z.cells.size = size) (hsz : 0 < size)
    (v : Value) (n : Nat) (xs : List Value) (hs : a.eval s = v) (hown : w.ownsRow base e size v n xs)
    (B : Nat) (A : Option Addr) (m c : Nat) (news : List Value) (hx : a.eval x = .slice A m c) (hr : Reads w B size A m news) (h1 : ∀ u ∈ news, u.oneCell' = true)
    (h63 : n + m ≤ maxLen) (hbytes : (n + m) * bytes ≤ 140737488355328) (hbase : base ≤ w.heap.size)
    (h : ∀ v' w', w'.ownsRow base e size v' (n + m) (xs ++ news) → w.grownBy w' v.ownBlock → (v'.ownBlock = v.ownBlock ∨ v'.ownBlock = some w.heap.size) → wpList P ops Q rest (a.put o.dst v') w') : wpList P ops Q (o :: rest) a w :=
  wpList_step fun K hK => by
    rw [if_pos hw]
    exact wp_append_any w s x t ho base e i z size bytes ht hi hz hsize hby hzs hsz v n xs hs hown B A m c news hx hr h1 h63 hbytes hbase fun v' w' h2 h3 h4 => hK _ _ (h v' w' h2 h3 h4)
theorem reads_grown {w w' : World} {row : Option Nat} {A : Option Addr} {n B : Nat} {xs : List Value} (h : Reads w B 1 A n xs) (hB : B ≤ w.heap.size) (g : w.grownBy w' row) (hne : 0 < n → ∀ ad, A = some ad → row ≠ some ad.block) : Reads w' B 1 A n xs := by
  refine ⟨h.1, fun hp => ?_⟩
  obtain ⟨ad, e, h1, h2⟩ := h.2 hp
  exact ⟨ad, e, h1, fun j u hj => (World.cell?_of_block (a := ad.add j) (by rw [block_of_add]; exact g.block ad.block (by omega) (fun e1 => hne hp ad e (by first | exact e1 | exact e1.symm)))).trans (h2 j u hj)⟩
theorem kept_two {w w' : World} {o o2 : Obj} {n c : Nat} (p : ((w.alloc o).alloc o2).drew.grownBy w' (Value.slice (some ⟨w.heap.size, 0, none⟩) n c).ownBlock) : w'.heap[w.heap.size + 1]? = some o2 :=
  (p.block (w.heap.size + 1) (by show _ < ((w.alloc o).alloc o2).heap.size; simp) (fun e => by simp [Value.ownBlock] at e)).trans (heap_two w o o2)
theorem kept_one {w w' : World} {o o2 : Obj} {n c : Nat} (p : ((w.alloc o).alloc o2).drew.grownBy w' (Value.slice (some ⟨w.heap.size + 1, 0, none⟩) n c).ownBlock) : w'.heap[w.heap.size]? = some o :=
  (p.block w.heap.size (by show _ < ((w.alloc o).alloc o2).heap.size; simp; omega) (fun e => by simp [Value.ownBlock] at e)).trans (heap_one w o o2)
theorem reads_row {w : World} {A : Option Addr} {n c : Nat} {xs : List Value} (h : w.ownsRow 0 9 1 (.slice A n c) n xs) : Reads w w.heap.size 1 A n xs := Reads.of_own h
theorem begins_take {l a : List (List UInt8)} {q : Nat} (h : l.take q = a) : beginsP l a = true := by
  subst h
  unfold beginsP
  rw [List.length_take, decide_eq_true (by omega), Bool.true_and]
  refine decide_eq_true ?_
  by_cases hq : q ≤ l.length
  · rw [Nat.min_eq_left hq]
  · rw [Nat.min_eq_right (by omega), List.take_length, List.take_of_length_le (by omega)]
theorem begins_app {l a u : List (List UInt8)} (h : l = a ++ u) : beginsP l a = true := begins_take (q := a.length) (by rw [h]; exact List.take_left' rfl)


set_option maxHeartbeats 8000000 in
theorem lasts_walk (A : Option Addr) (n c : Nat) (xs : List Oq) (A1 : Option Addr) (c1 : Nat) (keep : List Int) (w : World) (hT : Tab w)
    (h : OsIs w w.heap.size A n xs) (hn : n ≤ 9223372036854775807) (hF : ∀ x ∈ xs, x.Fits) (h1 : Reads w w.heap.size 1 A1 keep.length (inV keep)) (hn1 : keep.length ≤ 9223372036854775807) :
    Calls Tryd.prog 3 #[.slice A n c, .slice A1 keep.length c1] w fun e w' => e = .returned (.bool true) ∧ Below w.heap.size w w' := by
  have HS := Lib.hid (small_any w hT)
  have HFEW : Hid (∀ W, Below w.heap.size w W → Calls Tryd.prog 14 #[.slice A n c] W fun e w' => e = .returned (.bool (fewP xs)) ∧ W = w') := fun W hb => few_any A n c _ xs W (h.below hb) hn hF
  have HW := Lib.hid h
  have HFF := Lib.hid hF
  have H1R := Lib.hid h1
  clear h hF h1
  cases k1 : fewP xs with
  | false =>
    rw [k1] at HFEW
    clear k1
    go_enter Tryd.func3, Tryd.ntmps3
    go_wp2_with fail
    refine HS.out.mono ?_
    rintro e w1 ⟨rfl, b1⟩
    have HB := Lib.hid b1
    clear b1
    go_wp2_with fail
    refine (HFEW.out _ HB.out).mono ?_
    rintro e w' ⟨rfl, rfl⟩
    go_wp2_with fail
    go_ret
    exact ⟨rfl, HB.out⟩
  | true =>
    by_cases hlong : 50 < keep.length
    · have hlong' : (50 : Int) < (keep.length : Int) := by omega
      rw [k1] at HFEW
      clear k1
      go_enter Tryd.func3, Tryd.ntmps3
      go_wp2_with fail
      refine HS.out.mono ?_
      rintro e w1 ⟨rfl, b1⟩
      have HB := Lib.hid b1
      clear b1
      go_wp2_with fail
      refine (HFEW.out _ HB.out).mono ?_
      rintro e w' ⟨rfl, rfl⟩
      go_wp2_with fail
      go_ret
      exact ⟨rfl, HB.out⟩
    · have hlong' : ¬ (50 : Int) < (keep.length : Int) := by omega
      obtain ⟨hxl, hxo⟩ := few_ok k1
      have hn25 : n ≤ 25 := by rw [← HW.out.1]; exact hxl
      have HXO := Lib.hid hxo
      rw [k1] at HFEW
      have o0 : openP newD 3 = (settled newD 3, 0, []) := by rfl
      have OO := Lib.hid o0
      clear k1 hxl hxo o0
      go_enter Tryd.func3, Tryd.ntmps3
      go_wp2_with fail
      refine HS.out.mono ?_
      rintro e w1 ⟨rfl, b1⟩
      have HB := Lib.hid b1
      clear b1
      go_wp2_with fail
      refine (HFEW.out _ HB.out).mono ?_
      rintro e w' ⟨rfl, rfl⟩
      go_wp2_with fail
      refine (x_new HB.out).mono ?_
      rintro e w2 ⟨bd, o2, rfl, hx2, -, -⟩
      have H2 := Lib.hid hx2
      clear hx2 HB HFEW HS
      go_wp2_with fail
      refine (open_ok H2.out (by decide) (by decide) OO.out).mono ?_
      rintro e w3 ⟨o3, b3, j3, rfl, hx3, hj3, ap3, -⟩
      have H3 := Lib.hid hx3
      have J3 : Hid (JAs w w3 o3 bd 3 (.pointer (some ⟨b3, 0, none⟩)) (some ⟨[], false⟩) none 0 none 0) := ⟨b3, j3, rfl, hj3, ap3, Safe.nil _, Safe.nil _⟩
      clear hx3 hj3 ap3 H2 OO
      go_wp2_with fail
      go_loopw [7, 9, 10, 11] (fun v a s i wr => ∃ (k : Nat) (own : Nat → Option Nat) (S : Ds) (jo : Option Js) (all sure : List (List UInt8)) (Aa : Option Addr) (ca : Nat) (As : Option Addr) (cs : Nat), k ≤ n + 1 ∧ i = .int .i64 k ∧ a = .slice Aa all.length ca ∧ s = .slice As sure.length cs ∧ all.length ≤ ca ∧ Hid (Dx w wr own bd S) ∧ Hid (JAs w wr own bd 3 v jo Aa all.length As sure.length) ∧ Hid (La S jo all sure k) ∧ Hid (Two wr own Aa all As sure)) (fun _ _ _ i _ => n + 1 - (RowKit.intOf i).toNat)
      case atStart => exact ⟨0, o3, _, _, [], [], none, 0, none, 0, by omega, rfl, rfl, rfl, Nat.le_refl _, H3.out, J3.out, La.new, Reads.none_, Reads.none_, Safe.nil _, Safe.nil _⟩
      case round =>
        clear H3 J3
        obtain ⟨k, own, S, jo, all, sure, Aa, ca, As, cs, hk, rfl, rfl, rfl, hca, HD, HJ, HL, HR⟩ := hrel
        have hall : all.length ≤ 245 * 40 := by have h5 := HL.out.size; have h6 := list_len all; omega
        by_cases hend : n < k
        · have hend' : ¬ (k : Int) ≤ (n : Int) := by omega
          have HE := Lib.hid HD.out.below
          clear HD HJ HL HR
          go_wp2_with fail
          go_ret
          exact ⟨rfl, HE.out⟩
        · have hend' : (k : Int) ≤ (n : Int) := by omega
          by_cases hlast : k = n
          · obtain rfl := hlast
            have hlt' : ¬ (k : Int) < (k : Int) := by omega
            have HB := Lib.hid (alloc_below wr (.cells #[.int .i64 4, .string ⟨#[]⟩, .int .i64 0, .slice A1 keep.length c1] 34))
            have HDa := Lib.hid (HD.out.alloc (.cells #[.int .i64 4, .string ⟨#[]⟩, .int .i64 0, .slice A1 keep.length c1] 34))
            have HRa := Lib.hid (HR.out.go HB.out)
            have hz0 : (wr.alloc (.cells #[.int .i64 4, .string ⟨#[]⟩, .int .i64 0, .slice A1 keep.length c1] 34)).cell? ⟨wr.heap.size, 0, none⟩ = some (.int .i64 4) := cell_of_row _ _ 0 _ _ (0, 0) (heap_alloc_new wr _)
            have hz3 : (wr.alloc (.cells #[.int .i64 4, .string ⟨#[]⟩, .int .i64 0, .slice A1 keep.length c1] 34)).cell? ⟨wr.heap.size, 3, none⟩ = some (.slice A1 keep.length c1) := cell_of_row _ _ 3 _ _ (0, 0) (heap_alloc_new wr _)
            have hon : own wr.heap.size = none := own_none HD.out.da.inb (Nat.le_refl _)
            have HZ0 := Lib.hid hz0
            have HZ3 := Lib.hid hz3
            clear HB HD HJ HR hz0 hz3
            go_wp2_with fail
            refine (x_lose HDa.out (n := 0) (by unfold I64; omega)).mono ?_
            rintro v w4 ⟨o4, rfl, hx4, t4⟩
            have H4 := Lib.hid hx4
            have R4 := Lib.hid (HRa.out.tr t4)
            have Z0 := Lib.hid (t4.cell HZ0.out (fun r e => by rw [hon] at e; cases e))
            have Z3 := Lib.hid (t4.cell HZ3.out (fun r e => by rw [hon] at e; cases e))
            have hon4 : o4 wr.heap.size = none := (t4.kept _ (World.block_lt_of_cell? _ _ HZ0.out)).trans hon
            clear hx4 t4 HDa HRa HZ0 HZ3 hon
            go_wp2_with fail
            refine (x_arm H4.out (i := 0) (by unfold I64; omega) (Nums.nil _ _)).mono ?_
            rintro v w5 ⟨o5, rfl, hx5, t5⟩
            have HDa := Lib.hid hx5
            have HRa := Lib.hid (R4.out.tr t5)
            have z0 := t5.cell Z0.out (fun r e => by rw [hon4] at e; cases e)
            have z3 := t5.cell Z3.out (fun r e => by rw [hon4] at e; cases e)
            clear hx5 t5 H4 R4 Z0 Z3 hon4
            have HN := Lib.hid (Nums.low HDa.out H1R.out (by omega))
            have HLA := Lib.hid (La.crashP (La.same (S' := { S with lost := max 0 0, left := pos 0, keep := [] }) HL.out rfl rfl rfl) HDa.out.da.1 keep)
            go_wp2_with fail
            refine (x_crash HDa.out HN.out rfl).mono ?_
            rintro v w2 ⟨o2, rfl, hx2, t2⟩
            have H2 := Lib.hid hx2
            have R2 := Lib.hid (HRa.out.tr t2)
            clear hx2 t2 HDa HRa HN HL z0 z3
            go_wp2_with fail
            refine (x_start H2.out).mono ?_
            rintro v w4 ⟨o4, rfl, hx4, t4⟩
            have H4 := Lib.hid hx4
            have R4 := Lib.hid (R2.out.tr t4)
            clear hx4 t4 H2 R2
            rcases HLA.out.open H4.out.da.1 rfl with ⟨S', e, ho, he, hl, hne⟩ | ⟨S', q, us, ho, hus, hl⟩
            · exact absurd hne (by unfold Go.Proofs.YtjlndgkahmcfdaaDoor.crashP; split <;> simp [crashed, pos])
            · obtain ⟨now, hnow⟩ : ∃ z, all.take q = z := ⟨_, rfl⟩
              rw [hnow] at ho hus hl
              have HO := Lib.hid (x_open H4.out (f := 3) (by decide) (by decide))
              rw [ho] at HO
              have HL' := Lib.hid hl
              have hb1 := begins_take hnow
              have hb2 := begins_app hus
              have hsl : sure.length ≤ now.length := by rw [hus, List.length_append]; omega
              have hnl : now.length ≤ 245 * 40 := by have h5 := hl.size; have h6 := list_len now; omega
              clear ho hl hus hnow HLA
              go_wp2_with fail
              refine HO.out.mono ?_
              rintro v w6 ⟨o6, hx6, t6, ⟨h0, -⟩ | ⟨-, bj, oj, rfl, hj6, ap6⟩⟩
              · exact absurd rfl h0
              · have H6 := Lib.hid hx6
                have J6 := Lib.hid hj6
                have AP6 := Lib.hid ap6
                have R6 := Lib.hid (R4.out.tr t6)
                clear hx6 hj6 ap6 t6 R4 H4 HO
                go_wp2_with fail
                refine (x_all J6.out (show now.length ≤ 1073741824 by omega)).mono ?_
                rintro v w7 ⟨v7, rfl, ho7, b7, n7⟩
                obtain ⟨A7, c7, rfl, hc7, hc72⟩ := own_slice ho7
                have N7 := Lib.hid (Reads.of_own ho7)
                have S7 : Hid (Safe o6 A7 now.length ∧ Safe oj A7 now.length) := ⟨Safe.new ho7 n7 H6.out.da.inb, Safe.new ho7 n7 J6.out.inb⟩
                have H7 := Lib.hid (H6.out.go b7)
                have J7 := Lib.hid (J6.out.past b7)
                have R7 := Lib.hid (R6.out.go b7)
                clear ho7 b7 n7 H6 J6 R6 hc72
                go_wp2_with fail
                refine (begins_any Aa A7 all.length now.length ca c7 _ _ all now _ R7.out.r1 N7.out (by omega) hca hb1).mono ?_
                rintro v w8 ⟨rfl, d8⟩
                have H8 := Lib.hid (H7.out.go d8.below)
                have J8 := Lib.hid (J7.out.past d8.below)
                have R8 := Lib.hid (R7.out.go d8.below)
                have N8 := Lib.hid ((N7.out.below d8.below).more d8.below.size)
                clear d8 H7 J7 R7 N7 hb1
                go_wp2_with fail
                refine (begins_any A7 As now.length sure.length c7 cs _ _ now sure _ N8.out R8.out.r2 (by omega) hc7 hb2).mono ?_
                rintro v w9 ⟨rfl, d9⟩
                have H9 := Lib.hid (H8.out.go d9.below)
                have J9 := Lib.hid (J8.out.past d9.below)
                have N9 := Lib.hid ((N8.out.below d9.below).more d9.below.size)
                clear d9 H8 J8 R8 N8 hb2
                go_wp2_with fail
                go_roundw
                case rel => exact ⟨k + 1, o6, S', some ⟨now, false⟩, now, now, A7, c7, A7, c7, by omega, by go_num, rfl, rfl, hc7, H9, ⟨bj, oj, rfl, J9.out, AP6.out, S7.out.2, S7.out.2⟩, HL'.out.more (by omega), ⟨N9.out, N9.out, S7.out.1, S7.out.1⟩⟩
                case measure => first | (simp [RowKit.intOf]; done) | (simp [RowKit.intOf]; omega)

          · have hlt : k < n := by omega
            have hlt' : (k : Int) < (n : Int) := by omega
            have hk0 : 0 ≤ (k : Int) := by omega
            obtain ⟨ad, x, rfl, hadb, hx, Ak, ck, g0, g1, g2, g3, hr⟩ := (HW.out.below HD.out.below).at_ hlt
            have hmem := List.mem_of_getElem? hx
            have HFX := Lib.hid (HFF.out x hmem)
            obtain ⟨hsx, hkp⟩ := HXO.out x hmem
            obtain ⟨t, ht⟩ : ∃ t, x.s.data.toList = t := ⟨_, rfl⟩
            have hxs : x.s = bStr t := by rw [← ht]; exact bStr_of' _
            have htl2 : t.length ≤ 200 := by have := bStr_size t; rw [← hxs] at this; omega
            rw [hxs] at g1
            have HKR := Lib.hid hr
            have hxn := HFX.out.n
            have HXN := Lib.hid hxn
            obtain ⟨d, hd⟩ : ∃ d, x.d = d := ⟨_, rfl⟩
            rw [hd] at g0
            have hadn : ad.block ≠ wr.heap.size := by have := HD.out.below.size; omega
            clear hx hmem hr ht hxs hd hxn
            have hcs : d = 0 ∨ d = 1 ∨ d = 2 ∨ d = 3 ∨ d = 4 ∨ d = 5 ∨ (d ≠ 0 ∧ d ≠ 1 ∧ d ≠ 2 ∧ d ≠ 3 ∧ d ≠ 4 ∧ d ≠ 5) := by omega
            rcases hcs with rfl | rfl | rfl | rfl | rfl | rfl | ⟨d0, d1, d2, d3, d4, d5⟩
            · cases jo with
              | none =>
                obtain rfl : _ = Value.pointer none := HJ.out
                obtain ⟨L0, hL0⟩ : ∃ o : Obj, o = .cells #[.int .i64 4, .string ⟨#[]⟩, .int .i64 0, .slice A1 keep.length c1] 34 := ⟨_, rfl⟩
                have q0 := (World.cell?_alloc_some wr _ L0 (by rw [g0]; rfl)).trans g0
                have q1 := (World.cell?_alloc_some wr _ L0 (by rw [g1]; rfl)).trans g1
                have q2 := (World.cell?_alloc_some wr _ L0 (by rw [g2]; rfl)).trans g2
                have q3 := (World.cell?_alloc_some wr _ L0 (by rw [g3]; rfl)).trans g3
                subst hL0
                have HB := Lib.hid (alloc_below wr (.cells #[.int .i64 0, .string (bStr t), .int .i64 x.n, .slice Ak x.keep.length ck] 34))
                have HDa := Lib.hid (HD.out.alloc (.cells #[.int .i64 0, .string (bStr t), .int .i64 x.n, .slice Ak x.keep.length ck] 34))
                have HJa := Lib.hid (HJ.out.go HB.out)
                have HRa := Lib.hid (HR.out.go HB.out)
                have HKa := Lib.hid ((HKR.out.alloc HD.out.below.size (.cells #[.int .i64 0, .string (bStr t), .int .i64 x.n, .slice Ak x.keep.length ck] 34)))
                clear HB HD HJ HR HKR g0 g1 g2 g3
                clear HKa HJa
                go_wp2_with fail
                go_roundw
                case rel => exact ⟨k + 1, own, S, none, all, sure, Aa, ca, As, cs, by omega, by go_num, rfl, rfl, hca, HDa, rfl, HL.out.more (by omega), HRa⟩
                case measure => first | (simp [RowKit.intOf]; done) | (simp [RowKit.intOf]; omega)
              | some js =>
                obtain ⟨b, oj, rfl, hj, ap, y1, y2⟩ := HJ.out
                have hoa : own wr.heap.size = none := own_none HD.out.da.inb (Nat.le_refl _)
                have hob : oj wr.heap.size = none := own_none hj.inb (Nat.le_refl _)
                have HJ1 := Lib.hid (hj.past (alloc_below wr (.cells #[.int .i64 0, .string (bStr t), .int .i64 x.n, .slice Ak x.keep.length ck] 34)))
                have HAP := Lib.hid ap
                have HY : Hid (Safe oj Aa all.length ∧ Safe oj As sure.length) := ⟨y1, y2⟩
                have hz1 : (wr.alloc (.cells #[.int .i64 0, .string (bStr t), .int .i64 x.n, .slice Ak x.keep.length ck] 34)).cell? ⟨wr.heap.size, 1, none⟩ = some (.string (bStr t)) := cell_of_row _ _ 1 _ _ (0, 0) (heap_alloc_new wr _)
                have HZ1 := Lib.hid hz1
                have XS : Hid (0 < sure.length → ∀ ad, As = some ad → ad.block < wr.heap.size) := fun hp ad e => reads_block HR.out.r2 hp e
                obtain ⟨L0, hL0⟩ : ∃ o : Obj, o = .cells #[.int .i64 4, .string ⟨#[]⟩, .int .i64 0, .slice A1 keep.length c1] 34 := ⟨_, rfl⟩
                have q0 := (World.cell?_alloc_some wr _ L0 (by rw [g0]; rfl)).trans g0
                have q1 := (World.cell?_alloc_some wr _ L0 (by rw [g1]; rfl)).trans g1
                have q2 := (World.cell?_alloc_some wr _ L0 (by rw [g2]; rfl)).trans g2
                have q3 := (World.cell?_alloc_some wr _ L0 (by rw [g3]; rfl)).trans g3
                subst hL0
                have HB := Lib.hid (alloc_below wr (.cells #[.int .i64 0, .string (bStr t), .int .i64 x.n, .slice Ak x.keep.length ck] 34))
                have HDa := Lib.hid (HD.out.alloc (.cells #[.int .i64 0, .string (bStr t), .int .i64 x.n, .slice Ak x.keep.length ck] 34))
                have HJa := Lib.hid (HJ.out.go HB.out)
                have HRa := Lib.hid (HR.out.go HB.out)
                have HKa := Lib.hid ((HKR.out.alloc HD.out.below.size (.cells #[.int .i64 0, .string (bStr t), .int .i64 x.n, .slice Ak x.keep.length ck] 34)))
                clear HB HD HJ HR HKR g0 g1 g2 g3
                have hjz := list_len js.list
                have hjz2 := HL.out.jl js rfl
                have hszj : (formsP js.list).length ≤ 16777216 := by omega
                clear hj ap y1 y2 hz1 HKa HJa
                go_wp2_with fail
                refine (x_all HJ1.out (by omega)).mono ?_
                rintro v w3 ⟨v3, rfl, ho3, b3', n3⟩
                obtain ⟨A3, c3, rfl, hc3, -⟩ := own_slice ho3
                have O3 := Lib.hid ho3
                have X3 : Hid (∀ g, (Value.slice A3 js.list.length c3).ownBlock = some g → wr.heap.size < g) := fun g e => by have h9 := n3 g e; simp at h9; omega
                have F3 : Hid (∀ g, (Value.slice A3 js.list.length c3).ownBlock = some g → own g = none ∧ oj g = none ∧ w.heap.size ≤ g) := fun g e => ⟨own_none HDa.out.da.inb (n3 g e), own_none HJ1.out.inb (n3 g e), Nat.le_trans HDa.out.below.size (n3 g e)⟩
                have D3 := Lib.hid (HDa.out.go b3')
                have J3 := Lib.hid (HJ1.out.past b3')
                have R3 := Lib.hid (HRa.out.go b3')
                have z1 := (b3'.cell (p := ⟨wr.heap.size, 1, none⟩) (World.block_lt_of_cell? _ _ HZ1.out)).trans HZ1.out
                clear ho3 b3' n3 HDa HJ1 HRa HZ1 q0 q1 q2 q3
                have HA := Lib.hid (x_app D3.out J3.out HAP.out (hT.on D3.out.below) hszj t (by omega))
                rcases HL.out.app D3.out.da.1 (by omega) htl2 with ⟨hb, he⟩ | ⟨hb, S', he, hl⟩ | ⟨hb, S', he, hl⟩
                · rw [he] at HA
                  clear he hb
                  go_wp2_with fail
                  refine HA.out.mono ?_
                  rintro v w4 ⟨o4, j4, rfl, hx4, hj4, ap4, f4⟩
                  obtain ⟨a1, a2, a3⟩ := R3.out.far HY.out.1 HY.out.2 f4
                  obtain ⟨hr4, hf4⟩ := row_far (W := w) O3.out F3.out f4
                  have H4 := Lib.hid hx4
                  have J4 := Lib.hid hj4
                  have AP4 := Lib.hid ap4
                  have R4 := Lib.hid a1
                  have O4 := Lib.hid hr4
                  have F4 := Lib.hid hf4
                  have Y4 : Hid (Safe j4 Aa all.length ∧ Safe j4 As sure.length) := ⟨a2, a3⟩
                  have hgl := World.block_lt_of_cell? _ _ z1
                  have z4 : w4.cell? ⟨wr.heap.size, 1, none⟩ = some (.string (bStr t)) := (World.cell?_of_block (a := ⟨wr.heap.size, 1, none⟩) (f4.2 _ hgl hoa hob).1).trans z1
                  have hoa4 := (f4.2 _ hgl hoa hob).2.1
                  have hob4 := (f4.2 _ hgl hoa hob).2.2
                  clear hx4 hj4 ap4 f4 a1 a2 a3 hr4 hf4 z1 hoa hob hgl HY HA R3 O3 F3 D3 J3 HAP
                  go_wp2_with fail
                  refine (x_all J4.out (by omega)).mono ?_
                  rintro v w5 ⟨v5, rfl, ho5, b5, n5⟩
                  obtain ⟨A5, c5, rfl, hc5, -⟩ := own_slice ho5
                  have N5 := Lib.hid (Reads.of_own ho5)
                  have H5 := Lib.hid (H4.out.go b5)
                  have J5 := Lib.hid (J4.out.past b5)
                  have R5 := Lib.hid (R4.out.go b5)
                  have O5 := Lib.hid (own_below O4.out b5 (fun g e => (O4.out.lt g e).2))
                  have z5 := (b5.cell (p := ⟨wr.heap.size, 1, none⟩) (World.block_lt_of_cell? _ _ z4)).trans z4
                  clear ho5 b5 n5 H4 J4 R4 O4 z4
                  go_wp2_with fail
                  refine (disky_any _ _).mono ?_
                  rintro v w6 ⟨rfl, rfl⟩
                  go_wp2_with fail
                  refine (same_any A5 A3 js.list.length js.list.length c5 c3 _ _ js.list js.list _ N5.out (reads_row O5.out) (by omega) (by omega) (decide_eq_true rfl)).mono ?_
                  rintro v w7 ⟨rfl, d7⟩
                  have H7 := Lib.hid (H5.out.go d7.below)
                  have J7 := Lib.hid (J5.out.past d7.below)
                  have R7 := Lib.hid (R5.out.go d7.below)
                  clear d7 H5 J5 R5 N5 O5
                  go_wp2_with fail
                  go_roundw
                  case rel => exact ⟨k + 1, o4, S, some js, all, sure, Aa, ca, As, cs, by omega, by go_num, rfl, rfl, hca, H7, ⟨b, j4, rfl, J7.out, AP4.out, Y4.out.1, Y4.out.2⟩, HL.out.more (by omega), R7⟩
                  case measure => first | (simp [RowKit.intOf]; done) | (simp [RowKit.intOf]; omega)
                · rw [he] at HA
                  have HL' := Lib.hid hl
                  clear he hb hl
                  go_wp2_with fail
                  refine HA.out.mono ?_
                  rintro v w4 ⟨o4, j4, rfl, hx4, hj4, ap4, f4⟩
                  obtain ⟨a1, a2, a3⟩ := R3.out.far HY.out.1 HY.out.2 f4
                  obtain ⟨hr4, hf4⟩ := row_far (W := w) O3.out F3.out f4
                  have H4 := Lib.hid hx4
                  have J4 := Lib.hid hj4
                  have AP4 := Lib.hid ap4
                  have R4 := Lib.hid a1
                  have O4 := Lib.hid hr4
                  have F4 := Lib.hid hf4
                  have Y4 : Hid (Safe j4 Aa all.length ∧ Safe j4 As sure.length) := ⟨a2, a3⟩
                  have hgl := World.block_lt_of_cell? _ _ z1
                  have z4 : w4.cell? ⟨wr.heap.size, 1, none⟩ = some (.string (bStr t)) := (World.cell?_of_block (a := ⟨wr.heap.size, 1, none⟩) (f4.2 _ hgl hoa hob).1).trans z1
                  have hoa4 := (f4.2 _ hgl hoa hob).2.1
                  have hob4 := (f4.2 _ hgl hoa hob).2.2
                  clear hx4 hj4 ap4 f4 a1 a2 a3 hr4 hf4 z1 hoa hob hgl HY HA R3 O3 F3 D3 J3 HAP
                  go_wp2_with fail
                  refine (x_all J4.out (show (js.list ++ [t]).length ≤ 1073741824 by rw [List.length_append]; simp; omega)).mono ?_
                  rintro v w5 ⟨v5, rfl, ho5, b5, n5⟩
                  obtain ⟨A5, c5, rfl, hc5, -⟩ := own_slice ho5
                  have N5 := Lib.hid (Reads.of_own ho5)
                  have H5 := Lib.hid (H4.out.go b5)
                  have J5 := Lib.hid (J4.out.past b5)
                  have R5 := Lib.hid (R4.out.go b5)
                  have O5 := Lib.hid (own_below O4.out b5 (fun g e => (O4.out.lt g e).2))
                  have z5 := (b5.cell (p := ⟨wr.heap.size, 1, none⟩) (World.block_lt_of_cell? _ _ z4)).trans z4
                  have X4 : Hid (∀ g, (Value.slice A3 js.list.length c3).ownBlock = some g → g < w4.heap.size) := fun g e => (O4.out.lt g e).2
                  have X5 := Lib.hid n5
                  have hw45 := b5.size
                  clear ho5 b5 n5 H4 J4 R4 O4 z4
                  obtain ⟨i0, hi, hz0, hz1, hz2⟩ := info_parts infoStr
                  have hgz := World.block_lt_of_cell? _ _ z5
                  have B1 := Lib.hid (alloc_below w5 (.cells #[] 9))
                  have LE1 : Hid (Lst w5 (w5.alloc (.cells #[] 9)).drew (.slice (some ⟨w5.heap.size, 0, none⟩) 0 0) 0 []) := Lst.drew (Lst.emp (heap_alloc_new w5 _) (Nat.le_refl _) (alloc_below w5 _))
                  have LE2 : Hid (Lst w5 ((w5.alloc (.cells #[] 9)).alloc (.cells #[.string (bStr t)] 9)).drew (.slice (some ⟨w5.heap.size, 0, none⟩) 0 0) 0 []) := Lst.drew ((Lst.emp (heap_alloc_new w5 _) (Nat.le_refl _) (alloc_below w5 _)).alloc _)
                  have LE3 : Hid (Lst w5 ((w5.alloc (.cells #[.string (bStr t)] 9)).alloc (.cells #[] 9)).drew (.slice (some ⟨w5.heap.size + 1, 0, none⟩) 0 0) 0 []) := Lst.drew (Lst.emp (heap_two w5 _ _) (by omega) ((alloc_below w5 _).alloc (by simp) _))
                  have RE1 := Lib.hid (R5.out.r1.below LE1.out.2.2)
                  have RE2 := Lib.hid (R5.out.r1.below LE2.out.2.2)
                  have RE3 := Lib.hid (R5.out.r1.below LE3.out.2.2)
                  go_upto_region 27 with (fail)
                  go_cut [9] from 78 to 84 (fun v9 wc => ∃ (A8 : Option Addr) (c8 : Nat), v9 = .slice A8 (all.length + 1) c8 ∧ all.length + 1 ≤ c8 ∧ Hid (Lst w5 wc (.slice A8 (all.length + 1) c8) (all.length + 1) (all ++ [t])) ∧ wc.cell? ⟨wr.heap.size, 1, none⟩ = some (.string (bStr t)))
                  case first =>
                    go_region_held3 (fun w' => w'.cell? ⟨wr.heap.size, 1, none⟩ = some (.string (bStr t)))
                      (first | exact z5 | exact k1 | exact k2 | go_keep)
                      (first | (refine step_append_any _ rfl (.tmp 78) (.tmp 79) 32 rfl 0 9 i0 _ 1 16 Tryd.underlying32 hi hz0 hz1 hz2 rfl (by decide) (.slice (some ⟨w5.heap.size, 0, none⟩) 0 0) 0 [] rfl (by exact LE1.out.1) _ Aa all.length ca (all.map strV) rfl (by exact RE1.out) (strV_one _) (by unfold maxLen; omega) (by omega) (Nat.zero_le _) ?_; intro v' w' p1 p2 p3; have L1 : Hid (Lst w5 w' v' all.length all) := (by have h := LE1.out.app (xs := []) p1 p2 p3; rw [Nat.zero_add, List.nil_append] at h; exact h); have T1 := trivial; have k1 := (L1.out.2.2.cell (p := ⟨wr.heap.size, 1, none⟩) hgz).trans z5; obtain ⟨A6, c6, rfl, _, _⟩ := own_slice L1.out.1; clear p1 p2 p3) | (refine step_append_any _ rfl (.tmp 78) (.tmp 79) 32 rfl 0 9 i0 _ 1 16 Tryd.underlying32 hi hz0 hz1 hz2 rfl (by decide) (.slice (some ⟨w5.heap.size, 0, none⟩) 0 0) 0 [] rfl (by exact LE2.out.1) _ Aa all.length ca (all.map strV) rfl (by exact RE2.out) (strV_one _) (by unfold maxLen; omega) (by omega) (Nat.zero_le _) ?_; intro v' w' p1 p2 p3; have L1 : Hid (Lst w5 w' v' all.length all) := (by have h := LE2.out.app (xs := []) p1 p2 p3; rw [Nat.zero_add, List.nil_append] at h; exact h); have T1 : Hid (w'.heap[w5.heap.size + 1]? = some (.cells #[.string (bStr t)] 9 (0, 0))) := kept_two p2; have k1 := (L1.out.2.2.cell (p := ⟨wr.heap.size, 1, none⟩) hgz).trans z5; obtain ⟨A6, c6, rfl, _, _⟩ := own_slice L1.out.1; clear p1 p2 p3) | (refine step_append_any _ rfl (.tmp 78) (.tmp 79) 32 rfl 0 9 i0 _ 1 16 Tryd.underlying32 hi hz0 hz1 hz2 rfl (by decide) (.slice (some ⟨w5.heap.size + 1, 0, none⟩) 0 0) 0 [] rfl (by exact LE3.out.1) _ Aa all.length ca (all.map strV) rfl (by exact RE3.out) (strV_one _) (by unfold maxLen; omega) (by omega) (Nat.zero_le _) ?_; intro v' w' p1 p2 p3; have L1 : Hid (Lst w5 w' v' all.length all) := (by have h := LE3.out.app (xs := []) p1 p2 p3; rw [Nat.zero_add, List.nil_append] at h; exact h); have T1 : Hid (w'.heap[w5.heap.size]? = some (.cells #[.string (bStr t)] 9 (0, 0))) := kept_one p2; have k1 := (L1.out.2.2.cell (p := ⟨wr.heap.size, 1, none⟩) hgz).trans z5; obtain ⟨A6, c6, rfl, _, _⟩ := own_slice L1.out.1; clear p1 p2 p3) | (refine step_append_any _ rfl (.tmp 80) (.tmp 83) 32 rfl 0 9 i0 _ 1 16 Tryd.underlying32 hi hz0 hz1 hz2 rfl (by decide) (.slice A6 all.length c6) all.length (all.map strV) rfl (by exact L1.out.drew.1) _ (some ⟨w5.heap.size + 1, 0, none⟩) 1 1 ([t].map strV) rfl (by exact (one_at T1.out (Nat.lt_succ_self _))) (strV_one _) (by unfold maxLen; omega) (by omega) (Nat.zero_le _) ?_; intro v'' wc p1 p2 p3; have L2 := Lib.hid (L1.out.drew.app p1 p2 p3); have k2 := (L2.out.2.2.cell (p := ⟨wr.heap.size, 1, none⟩) hgz).trans z5; obtain ⟨A8, c8, rfl, hc8, _⟩ := own_slice p1; clear p1 p2 p3) | (refine step_append_any _ rfl (.tmp 80) (.tmp 83) 32 rfl 0 9 i0 _ 1 16 Tryd.underlying32 hi hz0 hz1 hz2 rfl (by decide) (.slice A6 all.length c6) all.length (all.map strV) rfl (by exact L1.out.drew.1) _ (some ⟨w5.heap.size, 0, none⟩) 1 1 ([t].map strV) rfl (by exact (one_at T1.out (Nat.lt_succ_self _))) (strV_one _) (by unfold maxLen; omega) (by omega) (Nat.zero_le _) ?_; intro v'' wc p1 p2 p3; have L2 := Lib.hid (L1.out.drew.app p1 p2 p3); have k2 := (L2.out.2.2.cell (p := ⟨wr.heap.size, 1, none⟩) hgz).trans z5; obtain ⟨A8, c8, rfl, hc8, _⟩ := own_slice p1; clear p1 p2 p3) | (refine step_append_any _ rfl (.tmp 80) (.tmp 83) 32 rfl 0 9 i0 _ 1 16 Tryd.underlying32 hi hz0 hz1 hz2 rfl (by decide) (.slice A6 all.length c6) all.length (all.map strV) rfl (by exact L1.out.1) _ (some ⟨w5.heap.size + 1, 0, none⟩) 1 1 ([t].map strV) rfl (by exact (one_at T1.out (Nat.lt_succ_self _))) (strV_one _) (by unfold maxLen; omega) (by omega) (Nat.zero_le _) ?_; intro v'' wc p1 p2 p3; have L2 := Lib.hid (L1.out.app p1 p2 p3); have k2 := (L2.out.2.2.cell (p := ⟨wr.heap.size, 1, none⟩) hgz).trans z5; obtain ⟨A8, c8, rfl, hc8, _⟩ := own_slice p1; clear p1 p2 p3) | (refine step_append_any _ rfl (.tmp 80) (.tmp 83) 32 rfl 0 9 i0 _ 1 16 Tryd.underlying32 hi hz0 hz1 hz2 rfl (by decide) (.slice A6 all.length c6) all.length (all.map strV) rfl (by exact L1.out.1) _ (some ⟨w5.heap.size, 0, none⟩) 1 1 ([t].map strV) rfl (by exact (one_at T1.out (Nat.lt_succ_self _))) (strV_one _) (by unfold maxLen; omega) (by omega) (Nat.zero_le _) ?_; intro v'' wc p1 p2 p3; have L2 := Lib.hid (L1.out.app p1 p2 p3); have k2 := (L2.out.2.2.cell (p := ⟨wr.heap.size, 1, none⟩) hgz).trans z5; obtain ⟨A8, c8, rfl, hc8, _⟩ := own_slice p1; clear p1 p2 p3) | (refine step_append_any _ rfl (.tmp 80) (.tmp 83) 32 rfl 0 9 i0 _ 1 16 Tryd.underlying32 hi hz0 hz1 hz2 rfl (by decide) (.slice A6 all.length c6) all.length (all.map strV) rfl (by exact (L1.out.alloc (.cells #[.string (bStr t)] 9)).drew.1) _ (some ⟨w'.heap.size, 0, none⟩) 1 1 ([t].map strV) rfl (by exact (one_new w' t)) (strV_one _) (by unfold maxLen; omega) (by omega) (Nat.zero_le _) ?_; intro v'' wc p1 p2 p3; have L2 := Lib.hid ((L1.out.alloc (.cells #[.string (bStr t)] 9)).drew.app p1 p2 p3); have k2 := (L2.out.2.2.cell (p := ⟨wr.heap.size, 1, none⟩) hgz).trans z5; obtain ⟨A8, c8, rfl, hc8, _⟩ := own_slice p1; clear p1 p2 p3) | (refine step_append_any _ rfl (.tmp 80) (.tmp 83) 32 rfl 0 9 i0 _ 1 16 Tryd.underlying32 hi hz0 hz1 hz2 rfl (by decide) (.slice A6 all.length c6) all.length (all.map strV) rfl (by exact (L1.out.alloc (.cells #[.string (bStr t)] 9)).1) _ (some ⟨w'.heap.size, 0, none⟩) 1 1 ([t].map strV) rfl (by exact (one_new w' t)) (strV_one _) (by unfold maxLen; omega) (by omega) (Nat.zero_le _) ?_; intro v'' wc p1 p2 p3; have L2 := Lib.hid ((L1.out.alloc (.cells #[.string (bStr t)] 9)).app p1 p2 p3); have k2 := (L2.out.2.2.cell (p := ⟨wr.heap.size, 1, none⟩) hgz).trans z5; obtain ⟨A8, c8, rfl, hc8, _⟩ := own_slice p1; clear p1 p2 p3) | (trace_state; fail))
                    all_goals ((try go_wp2_with fail); go_meet; exact ⟨A8, c8, rfl, hc8, L2, k2⟩)
                  obtain ⟨A8, c8, rfl, hc8, L2, k2⟩ := hcut
                  clear hgz
                  have X8 := Lib.hid L2.out.2.1
                  have H6 := Lib.hid (H5.out.go L2.out.2.2)
                  have J6 := Lib.hid (J5.out.past L2.out.2.2)
                  have R6 := Lib.hid (R5.out.go L2.out.2.2)
                  have N6 := Lib.hid ((N5.out.below L2.out.2.2).more L2.out.2.2.size)
                  have O6 := Lib.hid (own_below O5.out L2.out.2.2 (fun g e => (O5.out.lt g e).2))
                  have N8 := Lib.hid (reads_row L2.out.1)
                  have S8 : Hid (Safe o4 A8 (all.length + 1) ∧ Safe j4 A8 (all.length + 1)) := ⟨own_free (P := fun g => o4 g = none) L2.out.1 (fun g e => own_none H5.out.da.inb (L2.out.2.1 g e)), own_free (P := fun g => j4 g = none) L2.out.1 (fun g e => own_none J5.out.inb (L2.out.2.1 g e))⟩
                  clear LE1 LE2 LE3 RE1 RE2 RE3 L2 H5 J5 R5 N5 O5 z5
                  have H7 := Lib.hid (H6.out.alloc (.cells #[.string (bStr t)] 9))
                  have J7 := Lib.hid (J6.out.past (alloc_below wc (.cells #[.string (bStr t)] 9)))
                  have RS := Lib.hid (R6.out.r2.below (alloc_below wc (.cells #[.string (bStr t)] 9)))
                  have N6a := Lib.hid (N6.out.below (alloc_below wc (.cells #[.string (bStr t)] 9)))
                  have N8a := Lib.hid (N8.out.below (alloc_below wc (.cells #[.string (bStr t)] 9)))
                  have O7 := Lib.hid (own_below O6.out (alloc_below wc (.cells #[.string (bStr t)] 9)) (fun g e => (O6.out.lt g e).2))
                  have ON := Lib.hid (one_new wc t)
                  have RSS := Lib.hid R6.out.s2
                  clear H6 J6 R6 N6 N8 O6
                  go_wp2_with (at_builtin; refine wpList_append_w _ (by kernel_rfl) (.tmp 89) (.tmp 92) 32 rfl 0 9 i0 _ 1 16 Tryd.underlying32 hi hz0 hz1 hz2 rfl (by decide) (.slice A3 js.list.length c3) js.list.length (js.list.map strV) rfl O7.out _ (some ⟨wc.heap.size, 0, none⟩) 1 1 ([t].map strV) rfl ON.out (strV_one _) (by unfold maxLen; omega) (by omega) (Nat.zero_le _) ?_; intro v9 w9 p1 p2 p3; obtain ⟨A9, c9, rfl, _, _⟩ := own_slice p1; have P1 := Lib.hid p1; have P2 := Lib.hid p2; clear p1 p2 p3)
                  have hwa : wc.heap.size ≤ (wc.alloc (.cells #[.string (bStr t)] 9)).heap.size := (alloc_below wc (.cells #[.string (bStr t)] 9)).size
                  have H9 := Lib.hid (H7.out.grownN P2.out (fun g e => ⟨(F4.out g e).1, (F4.out g e).2.2⟩))
                  have J9 := Lib.hid (J7.out.grownN P2.out (fun g e => ⟨(F4.out g e).2.1, (F4.out g e).2.2⟩))
                  have N6b := Lib.hid (reads_grown N6a.out hwa P2.out (fun hp ad e e1 => by have h1 := X4.out _ e1; have h2 := X5.out ad.block (by rw [e]; rfl); omega))
                  have N8b := Lib.hid (reads_grown N8a.out hwa P2.out (fun hp ad e e1 => by have h1 := X4.out _ e1; have h2 := X8.out ad.block (by rw [e]; rfl); omega))
                  have RSb := Lib.hid (reads_grown RS.out hwa P2.out (fun hp ad e e1 => by have h1 := X3.out _ e1; have h2 := XS.out hp ad e; omega))
                  have hw9 : wc.heap.size ≤ w9.heap.size := Nat.le_trans hwa P2.out.size
                  clear H7 J7 N6a N8a RS X3 X4 X5 X8 O7 ON
                  refine (same_any A5 A9 (js.list.length + 1) (js.list.length + 1) c5 c9 _ _ (js.list ++ [t]) (js.list ++ [t]) w9 (by have h := N6b.out; rw [List.length_append] at h; exact h) (by have h := reads_row P1.out; rw [List.map_append]; exact h) (by omega) (by omega) (decide_eq_true rfl)).mono ?_
                  rintro v w10 ⟨rfl, d7⟩
                  have H10 := Lib.hid (H9.out.go d7.below)
                  have J10 := Lib.hid (J9.out.past d7.below)
                  have R10 := Lib.hid (((RSb.out.more hw9).below d7.below).more d7.below.size)
                  have N10 := Lib.hid (((N8b.out.more hw9).below d7.below).more d7.below.size)
                  clear d7 H9 J9 RSb N6b N8b P1 P2
                  go_wp2_with fail
                  go_roundw
                  case rel => exact ⟨k + 1, o4, S', some ⟨js.list ++ [t], false⟩, all ++ [t], sure, A8, c8, As, cs, by omega, by go_num, by rw [List.length_append]; rfl, rfl, by rw [List.length_append]; exact hc8, H10, ⟨b, j4, rfl, J10.out, AP4.out, by rw [List.length_append]; exact S8.out.2, Y4.out.2⟩, HL', ⟨by rw [List.length_append]; exact N10.out, R10.out, by rw [List.length_append]; exact S8.out.1, RSS.out⟩⟩
                  case measure => first | (simp [RowKit.intOf]; done) | (simp [RowKit.intOf]; omega)
                · rw [he] at HA
                  have HL' := Lib.hid hl
                  clear he hb hl
                  go_wp2_with fail
                  refine HA.out.mono ?_
                  rintro v w4 ⟨o4, j4, rfl, hx4, hj4, ap4, f4⟩
                  obtain ⟨a1, a2, a3⟩ := R3.out.far HY.out.1 HY.out.2 f4
                  obtain ⟨hr4, hf4⟩ := row_far (W := w) O3.out F3.out f4
                  have H4 := Lib.hid hx4
                  have J4 := Lib.hid hj4
                  have AP4 := Lib.hid ap4
                  have R4 := Lib.hid a1
                  have O4 := Lib.hid hr4
                  have F4 := Lib.hid hf4
                  have Y4 : Hid (Safe j4 Aa all.length ∧ Safe j4 As sure.length) := ⟨a2, a3⟩
                  have hgl := World.block_lt_of_cell? _ _ z1
                  have z4 : w4.cell? ⟨wr.heap.size, 1, none⟩ = some (.string (bStr t)) := (World.cell?_of_block (a := ⟨wr.heap.size, 1, none⟩) (f4.2 _ hgl hoa hob).1).trans z1
                  have hoa4 := (f4.2 _ hgl hoa hob).2.1
                  have hob4 := (f4.2 _ hgl hoa hob).2.2
                  clear hx4 hj4 ap4 f4 a1 a2 a3 hr4 hf4 z1 hoa hob hgl HY HA R3 O3 F3 D3 J3 HAP
                  go_wp2_with fail
                  refine (x_all J4.out (show js.list.length ≤ 1073741824 by omega)).mono ?_
                  rintro v w5 ⟨v5, rfl, ho5, b5, n5⟩
                  obtain ⟨A5, c5, rfl, hc5, -⟩ := own_slice ho5
                  have N5 := Lib.hid (Reads.of_own ho5)
                  have H5 := Lib.hid (H4.out.go b5)
                  have J5 := Lib.hid (J4.out.past b5)
                  have R5 := Lib.hid (R4.out.go b5)
                  have O5 := Lib.hid (own_below O4.out b5 (fun g e => (O4.out.lt g e).2))
                  have z5 := (b5.cell (p := ⟨wr.heap.size, 1, none⟩) (World.block_lt_of_cell? _ _ z4)).trans z4
                  clear ho5 b5 n5 H4 J4 R4 O4 z4
                  go_wp2_with fail
                  refine (disky_any _ _).mono ?_
                  rintro v w6 ⟨rfl, rfl⟩
                  obtain ⟨i0, hi, hz0, hz1, hz2⟩ := info_parts infoStr
                  have hgz := World.block_lt_of_cell? _ _ z5
                  have B1 := Lib.hid (alloc_below w5 (.cells #[] 9))
                  have LE1 : Hid (Lst w5 (w5.alloc (.cells #[] 9)).drew (.slice (some ⟨w5.heap.size, 0, none⟩) 0 0) 0 []) := Lst.drew (Lst.emp (heap_alloc_new w5 _) (Nat.le_refl _) (alloc_below w5 _))
                  have LE2 : Hid (Lst w5 ((w5.alloc (.cells #[] 9)).alloc (.cells #[.string (bStr t)] 9)).drew (.slice (some ⟨w5.heap.size, 0, none⟩) 0 0) 0 []) := Lst.drew ((Lst.emp (heap_alloc_new w5 _) (Nat.le_refl _) (alloc_below w5 _)).alloc _)
                  have LE3 : Hid (Lst w5 ((w5.alloc (.cells #[.string (bStr t)] 9)).alloc (.cells #[] 9)).drew (.slice (some ⟨w5.heap.size + 1, 0, none⟩) 0 0) 0 []) := Lst.drew (Lst.emp (heap_two w5 _ _) (by omega) ((alloc_below w5 _).alloc (by simp) _))
                  have RE1 := Lib.hid (R5.out.r1.below LE1.out.2.2)
                  have RE2 := Lib.hid (R5.out.r1.below LE2.out.2.2)
                  have RE3 := Lib.hid (R5.out.r1.below LE3.out.2.2)
                  go_upto_region 27 with (fail)
                  go_cut [9] from 78 to 84 (fun v9 wc => ∃ (A8 : Option Addr) (c8 : Nat), v9 = .slice A8 (all.length + 1) c8 ∧ all.length + 1 ≤ c8 ∧ Hid (Lst w5 wc (.slice A8 (all.length + 1) c8) (all.length + 1) (all ++ [t])) ∧ wc.cell? ⟨wr.heap.size, 1, none⟩ = some (.string (bStr t)))
                  case first =>
                    go_region_held3 (fun w' => w'.cell? ⟨wr.heap.size, 1, none⟩ = some (.string (bStr t)))
                      (first | exact z5 | exact k1 | exact k2 | go_keep)
                      (first | (refine step_append_any _ rfl (.tmp 78) (.tmp 79) 32 rfl 0 9 i0 _ 1 16 Tryd.underlying32 hi hz0 hz1 hz2 rfl (by decide) (.slice (some ⟨w5.heap.size, 0, none⟩) 0 0) 0 [] rfl (by exact LE1.out.1) _ Aa all.length ca (all.map strV) rfl (by exact RE1.out) (strV_one _) (by unfold maxLen; omega) (by omega) (Nat.zero_le _) ?_; intro v' w' p1 p2 p3; have L1 : Hid (Lst w5 w' v' all.length all) := (by have h := LE1.out.app (xs := []) p1 p2 p3; rw [Nat.zero_add, List.nil_append] at h; exact h); have T1 := trivial; have k1 := (L1.out.2.2.cell (p := ⟨wr.heap.size, 1, none⟩) hgz).trans z5; obtain ⟨A6, c6, rfl, _, _⟩ := own_slice L1.out.1; clear p1 p2 p3) | (refine step_append_any _ rfl (.tmp 78) (.tmp 79) 32 rfl 0 9 i0 _ 1 16 Tryd.underlying32 hi hz0 hz1 hz2 rfl (by decide) (.slice (some ⟨w5.heap.size, 0, none⟩) 0 0) 0 [] rfl (by exact LE2.out.1) _ Aa all.length ca (all.map strV) rfl (by exact RE2.out) (strV_one _) (by unfold maxLen; omega) (by omega) (Nat.zero_le _) ?_; intro v' w' p1 p2 p3; have L1 : Hid (Lst w5 w' v' all.length all) := (by have h := LE2.out.app (xs := []) p1 p2 p3; rw [Nat.zero_add, List.nil_append] at h; exact h); have T1 : Hid (w'.heap[w5.heap.size + 1]? = some (.cells #[.string (bStr t)] 9 (0, 0))) := kept_two p2; have k1 := (L1.out.2.2.cell (p := ⟨wr.heap.size, 1, none⟩) hgz).trans z5; obtain ⟨A6, c6, rfl, _, _⟩ := own_slice L1.out.1; clear p1 p2 p3) | (refine step_append_any _ rfl (.tmp 78) (.tmp 79) 32 rfl 0 9 i0 _ 1 16 Tryd.underlying32 hi hz0 hz1 hz2 rfl (by decide) (.slice (some ⟨w5.heap.size + 1, 0, none⟩) 0 0) 0 [] rfl (by exact LE3.out.1) _ Aa all.length ca (all.map strV) rfl (by exact RE3.out) (strV_one _) (by unfold maxLen; omega) (by omega) (Nat.zero_le _) ?_; intro v' w' p1 p2 p3; have L1 : Hid (Lst w5 w' v' all.length all) := (by have h := LE3.out.app (xs := []) p1 p2 p3; rw [Nat.zero_add, List.nil_append] at h; exact h); have T1 : Hid (w'.heap[w5.heap.size]? = some (.cells #[.string (bStr t)] 9 (0, 0))) := kept_one p2; have k1 := (L1.out.2.2.cell (p := ⟨wr.heap.size, 1, none⟩) hgz).trans z5; obtain ⟨A6, c6, rfl, _, _⟩ := own_slice L1.out.1; clear p1 p2 p3) | (refine step_append_any _ rfl (.tmp 80) (.tmp 83) 32 rfl 0 9 i0 _ 1 16 Tryd.underlying32 hi hz0 hz1 hz2 rfl (by decide) (.slice A6 all.length c6) all.length (all.map strV) rfl (by exact L1.out.drew.1) _ (some ⟨w5.heap.size + 1, 0, none⟩) 1 1 ([t].map strV) rfl (by exact (one_at T1.out (Nat.lt_succ_self _))) (strV_one _) (by unfold maxLen; omega) (by omega) (Nat.zero_le _) ?_; intro v'' wc p1 p2 p3; have L2 := Lib.hid (L1.out.drew.app p1 p2 p3); have k2 := (L2.out.2.2.cell (p := ⟨wr.heap.size, 1, none⟩) hgz).trans z5; obtain ⟨A8, c8, rfl, hc8, _⟩ := own_slice p1; clear p1 p2 p3) | (refine step_append_any _ rfl (.tmp 80) (.tmp 83) 32 rfl 0 9 i0 _ 1 16 Tryd.underlying32 hi hz0 hz1 hz2 rfl (by decide) (.slice A6 all.length c6) all.length (all.map strV) rfl (by exact L1.out.drew.1) _ (some ⟨w5.heap.size, 0, none⟩) 1 1 ([t].map strV) rfl (by exact (one_at T1.out (Nat.lt_succ_self _))) (strV_one _) (by unfold maxLen; omega) (by omega) (Nat.zero_le _) ?_; intro v'' wc p1 p2 p3; have L2 := Lib.hid (L1.out.drew.app p1 p2 p3); have k2 := (L2.out.2.2.cell (p := ⟨wr.heap.size, 1, none⟩) hgz).trans z5; obtain ⟨A8, c8, rfl, hc8, _⟩ := own_slice p1; clear p1 p2 p3) | (refine step_append_any _ rfl (.tmp 80) (.tmp 83) 32 rfl 0 9 i0 _ 1 16 Tryd.underlying32 hi hz0 hz1 hz2 rfl (by decide) (.slice A6 all.length c6) all.length (all.map strV) rfl (by exact L1.out.1) _ (some ⟨w5.heap.size + 1, 0, none⟩) 1 1 ([t].map strV) rfl (by exact (one_at T1.out (Nat.lt_succ_self _))) (strV_one _) (by unfold maxLen; omega) (by omega) (Nat.zero_le _) ?_; intro v'' wc p1 p2 p3; have L2 := Lib.hid (L1.out.app p1 p2 p3); have k2 := (L2.out.2.2.cell (p := ⟨wr.heap.size, 1, none⟩) hgz).trans z5; obtain ⟨A8, c8, rfl, hc8, _⟩ := own_slice p1; clear p1 p2 p3) | (refine step_append_any _ rfl (.tmp 80) (.tmp 83) 32 rfl 0 9 i0 _ 1 16 Tryd.underlying32 hi hz0 hz1 hz2 rfl (by decide) (.slice A6 all.length c6) all.length (all.map strV) rfl (by exact L1.out.1) _ (some ⟨w5.heap.size, 0, none⟩) 1 1 ([t].map strV) rfl (by exact (one_at T1.out (Nat.lt_succ_self _))) (strV_one _) (by unfold maxLen; omega) (by omega) (Nat.zero_le _) ?_; intro v'' wc p1 p2 p3; have L2 := Lib.hid (L1.out.app p1 p2 p3); have k2 := (L2.out.2.2.cell (p := ⟨wr.heap.size, 1, none⟩) hgz).trans z5; obtain ⟨A8, c8, rfl, hc8, _⟩ := own_slice p1; clear p1 p2 p3) | (refine step_append_any _ rfl (.tmp 80) (.tmp 83) 32 rfl 0 9 i0 _ 1 16 Tryd.underlying32 hi hz0 hz1 hz2 rfl (by decide) (.slice A6 all.length c6) all.length (all.map strV) rfl (by exact (L1.out.alloc (.cells #[.string (bStr t)] 9)).drew.1) _ (some ⟨w'.heap.size, 0, none⟩) 1 1 ([t].map strV) rfl (by exact (one_new w' t)) (strV_one _) (by unfold maxLen; omega) (by omega) (Nat.zero_le _) ?_; intro v'' wc p1 p2 p3; have L2 := Lib.hid ((L1.out.alloc (.cells #[.string (bStr t)] 9)).drew.app p1 p2 p3); have k2 := (L2.out.2.2.cell (p := ⟨wr.heap.size, 1, none⟩) hgz).trans z5; obtain ⟨A8, c8, rfl, hc8, _⟩ := own_slice p1; clear p1 p2 p3) | (refine step_append_any _ rfl (.tmp 80) (.tmp 83) 32 rfl 0 9 i0 _ 1 16 Tryd.underlying32 hi hz0 hz1 hz2 rfl (by decide) (.slice A6 all.length c6) all.length (all.map strV) rfl (by exact (L1.out.alloc (.cells #[.string (bStr t)] 9)).1) _ (some ⟨w'.heap.size, 0, none⟩) 1 1 ([t].map strV) rfl (by exact (one_new w' t)) (strV_one _) (by unfold maxLen; omega) (by omega) (Nat.zero_le _) ?_; intro v'' wc p1 p2 p3; have L2 := Lib.hid ((L1.out.alloc (.cells #[.string (bStr t)] 9)).app p1 p2 p3); have k2 := (L2.out.2.2.cell (p := ⟨wr.heap.size, 1, none⟩) hgz).trans z5; obtain ⟨A8, c8, rfl, hc8, _⟩ := own_slice p1; clear p1 p2 p3) | (trace_state; fail))
                    all_goals ((try go_wp2_with fail); go_meet; exact ⟨A8, c8, rfl, hc8, L2, k2⟩)
                  obtain ⟨A8, c8, rfl, hc8, L2, k2⟩ := hcut
                  clear hgz
                  have H6 := Lib.hid (H5.out.go L2.out.2.2)
                  have J6 := Lib.hid (J5.out.past L2.out.2.2)
                  have R6 := Lib.hid (R5.out.go L2.out.2.2)
                  have N6 := Lib.hid ((N5.out.below L2.out.2.2).more L2.out.2.2.size)
                  have O6 := Lib.hid (own_below O5.out L2.out.2.2 (fun g e => (O5.out.lt g e).2))
                  have N8 := Lib.hid (reads_row L2.out.1)
                  have S8 : Hid (Safe o4 A8 (all.length + 1) ∧ Safe j4 A8 (all.length + 1)) := ⟨own_free (P := fun g => o4 g = none) L2.out.1 (fun g e => own_none H5.out.da.inb (L2.out.2.1 g e)), own_free (P := fun g => j4 g = none) L2.out.1 (fun g e => own_none J5.out.inb (L2.out.2.1 g e))⟩
                  clear LE1 LE2 LE3 RE1 RE2 RE3 L2 H5 J5 R5 N5 O5 z5
                  go_wp2_with fail
                  refine (same_any A5 A3 js.list.length js.list.length c5 c3 _ _ js.list js.list _ N6.out (reads_row O6.out) (by omega) (by omega) (decide_eq_true rfl)).mono ?_
                  rintro v w7 ⟨rfl, d7⟩
                  have H7 := Lib.hid (H6.out.go d7.below)
                  have J7 := Lib.hid (J6.out.past d7.below)
                  have R7 := Lib.hid (R6.out.go d7.below)
                  have N7 := Lib.hid ((N8.out.below d7.below).more d7.below.size)
                  clear d7 H6 J6 R6 N6 O6 N8
                  go_wp2_with fail
                  go_roundw
                  case rel => exact ⟨k + 1, o4, S', some ⟨js.list, true⟩, all ++ [t], sure, A8, c8, As, cs, by omega, by go_num, by rw [List.length_append]; rfl, rfl, by rw [List.length_append]; exact hc8, H7, ⟨b, j4, rfl, J7.out, AP4.out, by rw [List.length_append]; exact S8.out.2, Y4.out.2⟩, HL', ⟨by rw [List.length_append]; exact N7.out, R7.out.r2, by rw [List.length_append]; exact S8.out.1, R7.out.s2⟩⟩
                  case measure => first | (simp [RowKit.intOf]; done) | (simp [RowKit.intOf]; omega)
            · cases jo with
              | none =>
                obtain rfl : _ = Value.pointer none := HJ.out
                obtain ⟨L0, hL0⟩ : ∃ o : Obj, o = .cells #[.int .i64 4, .string ⟨#[]⟩, .int .i64 0, .slice A1 keep.length c1] 34 := ⟨_, rfl⟩
                have q0 := (World.cell?_alloc_some wr _ L0 (by rw [g0]; rfl)).trans g0
                have q1 := (World.cell?_alloc_some wr _ L0 (by rw [g1]; rfl)).trans g1
                have q2 := (World.cell?_alloc_some wr _ L0 (by rw [g2]; rfl)).trans g2
                have q3 := (World.cell?_alloc_some wr _ L0 (by rw [g3]; rfl)).trans g3
                subst hL0
                have HB := Lib.hid (alloc_below wr (.cells #[.int .i64 1, .string (bStr t), .int .i64 x.n, .slice Ak x.keep.length ck] 34))
                have HDa := Lib.hid (HD.out.alloc (.cells #[.int .i64 1, .string (bStr t), .int .i64 x.n, .slice Ak x.keep.length ck] 34))
                have HJa := Lib.hid (HJ.out.go HB.out)
                have HRa := Lib.hid (HR.out.go HB.out)
                have HKa := Lib.hid ((HKR.out.alloc HD.out.below.size (.cells #[.int .i64 1, .string (bStr t), .int .i64 x.n, .slice Ak x.keep.length ck] 34)))
                clear HB HD HJ HR HKR g0 g1 g2 g3
                clear HKa HJa
                go_wp2_with fail
                go_roundw
                case rel => exact ⟨k + 1, own, S, none, all, sure, Aa, ca, As, cs, by omega, by go_num, rfl, rfl, hca, HDa, rfl, HL.out.more (by omega), HRa⟩
                case measure => first | (simp [RowKit.intOf]; done) | (simp [RowKit.intOf]; omega)
              | some js =>
                obtain ⟨b, oj, rfl, hj, ap, y1, y2⟩ := HJ.out
                obtain ⟨L0, hL0⟩ : ∃ o : Obj, o = .cells #[.int .i64 4, .string ⟨#[]⟩, .int .i64 0, .slice A1 keep.length c1] 34 := ⟨_, rfl⟩
                have q0 := (World.cell?_alloc_some wr _ L0 (by rw [g0]; rfl)).trans g0
                have q1 := (World.cell?_alloc_some wr _ L0 (by rw [g1]; rfl)).trans g1
                have q2 := (World.cell?_alloc_some wr _ L0 (by rw [g2]; rfl)).trans g2
                have q3 := (World.cell?_alloc_some wr _ L0 (by rw [g3]; rfl)).trans g3
                subst hL0
                have HB := Lib.hid (alloc_below wr (.cells #[.int .i64 1, .string (bStr t), .int .i64 x.n, .slice Ak x.keep.length ck] 34))
                have HDa := Lib.hid (HD.out.alloc (.cells #[.int .i64 1, .string (bStr t), .int .i64 x.n, .slice Ak x.keep.length ck] 34))
                have HJa := Lib.hid (HJ.out.go HB.out)
                have HRa := Lib.hid (HR.out.go HB.out)
                have HKa := Lib.hid ((HKR.out.alloc HD.out.below.size (.cells #[.int .i64 1, .string (bStr t), .int .i64 x.n, .slice Ak x.keep.length ck] 34)))
                clear HB HD HJ HR HKR g0 g1 g2 g3
                have hja := hj.past (alloc_below wr (.cells #[.int .i64 1, .string (bStr t), .int .i64 x.n, .slice Ak x.keep.length ck] 34))
                have HA := Lib.hid (x_jsync HDa.out hja ap)
                have HY : Hid (Safe oj Aa all.length ∧ Safe oj As sure.length) := ⟨y1, y2⟩
                obtain ⟨hjl, hcs2⟩ := HL.out.sync HDa.out.da.1
                have hjz := list_len js.list
                have hjz2 := HL.out.jl js rfl
                generalize (jsyncP S 3 js).1 = S' at *
                generalize (jsyncP S 3 js).2.1 = js' at *
                generalize (jsyncP S 3 js).2.2 = r' at *
                clear hj hja ap HJa HKa HL y1 y2
                rcases hcs2 with ⟨rfl, hal, hl⟩ | ⟨hr0, hl⟩
                · have HL' := Lib.hid hl
                  have e9 : js'.list = all := hjl.trans hal
                  clear hl
                  go_wp2_with fail
                  refine HA.out.mono ?_
                  rintro v w4 ⟨o4, j4, rfl, hx4, hj4, ap4, f4⟩
                  obtain ⟨a1, a2, a3⟩ := HRa.out.far HY.out.1 HY.out.2 f4
                  have H4 := Lib.hid hx4
                  have J4 := Lib.hid hj4
                  have AP4 := Lib.hid ap4
                  have R4 := Lib.hid a1
                  have Y4 : Hid (Safe j4 Aa all.length ∧ Safe j4 As sure.length) := ⟨a2, a3⟩
                  clear hx4 hj4 ap4 f4 a1 a2 a3 HY HA HRa HDa q0 q1 q2 q3
                  go_wp2_with fail
                  refine (x_all J4.out (by rw [e9]; omega)).mono ?_
                  rintro v w7 ⟨v7, rfl, ho7, b7, n7⟩
                  rw [e9] at ho7
                  obtain ⟨A7, c7, rfl, hc7, hc72⟩ := own_slice ho7
                  have N7 := Lib.hid (Reads.of_own ho7)
                  have S7 : Hid (Safe o4 A7 all.length ∧ Safe j4 A7 all.length) := ⟨Safe.new ho7 n7 H4.out.da.inb, Safe.new ho7 n7 J4.out.inb⟩
                  have H7 := Lib.hid (H4.out.go b7)
                  have J7 := Lib.hid (J4.out.past b7)
                  have R7 := Lib.hid (R4.out.go b7)
                  clear ho7 b7 n7 H4 J4 R4
                  go_wp2_with fail
                  go_roundw
                  case rel => exact ⟨k + 1, o4, S', some js', all, all, Aa, ca, A7, c7, by omega, by go_num, rfl, rfl, hca, H7, ⟨b, j4, rfl, J7.out, AP4.out, Y4.out.1, S7.out.2⟩, HL'.out.more (by omega), ⟨R7.out.r1, N7.out, R7.out.s1, S7.out.1⟩⟩
                  case measure => first | (simp [RowKit.intOf]; done) | (simp [RowKit.intOf]; omega)
                · have HL' := Lib.hid hl
                  have hr1 : (r' == 0) = false := by simpa using hr0
                  clear hl
                  go_wp2_with fail
                  refine HA.out.mono ?_
                  rintro v w4 ⟨o4, j4, rfl, hx4, hj4, ap4, f4⟩
                  obtain ⟨a1, a2, a3⟩ := HRa.out.far HY.out.1 HY.out.2 f4
                  have H4 := Lib.hid hx4
                  have J4 := Lib.hid hj4
                  have AP4 := Lib.hid ap4
                  have R4 := Lib.hid a1
                  have Y4 : Hid (Safe j4 Aa all.length ∧ Safe j4 As sure.length) := ⟨a2, a3⟩
                  clear hx4 hj4 ap4 f4 a1 a2 a3 HY HA HRa HDa q0 q1 q2 q3
                  go_wp2_with fail
                  go_roundw
                  case rel => exact ⟨k + 1, o4, S', some js', all, sure, Aa, ca, As, cs, by omega, by go_num, rfl, rfl, hca, H4, ⟨b, j4, rfl, J4.out, AP4.out, Y4.out.1, Y4.out.2⟩, HL'.out.more (by omega), R4⟩
                  case measure => first | (simp [RowKit.intOf]; done) | (simp [RowKit.intOf]; omega)
            · obtain ⟨L0, hL0⟩ : ∃ o : Obj, o = .cells #[.int .i64 4, .string ⟨#[]⟩, .int .i64 0, .slice A1 keep.length c1] 34 := ⟨_, rfl⟩
              have q0 := (World.cell?_alloc_some wr _ L0 (by rw [g0]; rfl)).trans g0
              have q1 := (World.cell?_alloc_some wr _ L0 (by rw [g1]; rfl)).trans g1
              have q2 := (World.cell?_alloc_some wr _ L0 (by rw [g2]; rfl)).trans g2
              have q3 := (World.cell?_alloc_some wr _ L0 (by rw [g3]; rfl)).trans g3
              subst hL0
              have HB := Lib.hid (alloc_below wr (.cells #[.int .i64 2, .string (bStr t), .int .i64 x.n, .slice Ak x.keep.length ck] 34))
              have HDa := Lib.hid (HD.out.alloc (.cells #[.int .i64 2, .string (bStr t), .int .i64 x.n, .slice Ak x.keep.length ck] 34))
              have HJa := Lib.hid (HJ.out.go HB.out)
              have HRa := Lib.hid (HR.out.go HB.out)
              have HKa := Lib.hid ((HKR.out.alloc HD.out.below.size (.cells #[.int .i64 2, .string (bStr t), .int .i64 x.n, .slice Ak x.keep.length ck] 34)))
              clear HB HD HJ HR HKR g0 g1 g2 g3
              clear HKa
              go_wp2_with fail
              refine (x_lose HDa.out HXN.out).mono ?_
              rintro v w4 ⟨o4, rfl, hx4, t4⟩
              have H4 := Lib.hid hx4
              have J4 := Lib.hid (HJa.out.other hx4.below t4)
              have R4 := Lib.hid (HRa.out.tr t4)
              clear hx4 t4 HDa HJa HRa q0 q1 q2 q3
              go_wp2_with fail
              go_roundw
              case rel => exact ⟨k + 1, o4, _, jo, all, sure, Aa, ca, As, cs, by omega, by go_num, rfl, rfl, hca, H4, J4, Lib.hid (La.more (La.same (S' := { S with lost := max x.n 0 }) HL.out rfl rfl rfl) (by omega)), R4⟩
              case measure => first | (simp [RowKit.intOf]; done) | (simp [RowKit.intOf]; omega)
            · obtain ⟨L0, hL0⟩ : ∃ o : Obj, o = .cells #[.int .i64 4, .string ⟨#[]⟩, .int .i64 0, .slice A1 keep.length c1] 34 := ⟨_, rfl⟩
              have q0 := (World.cell?_alloc_some wr _ L0 (by rw [g0]; rfl)).trans g0
              have q1 := (World.cell?_alloc_some wr _ L0 (by rw [g1]; rfl)).trans g1
              have q2 := (World.cell?_alloc_some wr _ L0 (by rw [g2]; rfl)).trans g2
              have q3 := (World.cell?_alloc_some wr _ L0 (by rw [g3]; rfl)).trans g3
              subst hL0
              have HB := Lib.hid (alloc_below wr (.cells #[.int .i64 3, .string (bStr t), .int .i64 x.n, .slice Ak x.keep.length ck] 34))
              have HDa := Lib.hid (HD.out.alloc (.cells #[.int .i64 3, .string (bStr t), .int .i64 x.n, .slice Ak x.keep.length ck] 34))
              have HJa := Lib.hid (HJ.out.go HB.out)
              have HRa := Lib.hid (HR.out.go HB.out)
              have HKa := Lib.hid ((HKR.out.alloc HD.out.below.size (.cells #[.int .i64 3, .string (bStr t), .int .i64 x.n, .slice Ak x.keep.length ck] 34)))
              clear HB HD HJ HR HKR g0 g1 g2 g3
              have HN : Hid (Nums _ own Ak x.keep.length x.keep) := ⟨HKa.out.more HDa.out.below.size, fun hp ad' e => by
                obtain ⟨ad2, e1, h2, _⟩ := HKa.out.2 hp
                rw [e] at e1
                cases e1
                cases e2 : own ad'.block with
                | none => rfl
                | some r => have := HDa.out.new _ _ e2; omega, by omega⟩
              clear HKa
              go_wp2_with fail
              refine (x_arm HDa.out HXN.out HN.out).mono ?_
              rintro v w4 ⟨o4, rfl, hx4, t4⟩
              have H4 := Lib.hid hx4
              have J4 := Lib.hid (HJa.out.other hx4.below t4)
              have R4 := Lib.hid (HRa.out.tr t4)
              clear hx4 t4 HDa HJa HRa HN q0 q1 q2 q3
              go_wp2_with fail
              go_roundw
              case rel => exact ⟨k + 1, o4, _, jo, all, sure, Aa, ca, As, cs, by omega, by go_num, rfl, rfl, hca, H4, J4, Lib.hid (La.more (La.same (S' := { S with left := pos x.n, keep := x.keep }) HL.out rfl rfl rfl) (by omega)), R4⟩
              case measure => first | (simp [RowKit.intOf]; done) | (simp [RowKit.intOf]; omega)
            · obtain ⟨L0, hL0⟩ : ∃ o : Obj, o = .cells #[.int .i64 4, .string ⟨#[]⟩, .int .i64 0, .slice A1 keep.length c1] 34 := ⟨_, rfl⟩
              have q0 := (World.cell?_alloc_some wr _ L0 (by rw [g0]; rfl)).trans g0
              have q1 := (World.cell?_alloc_some wr _ L0 (by rw [g1]; rfl)).trans g1
              have q2 := (World.cell?_alloc_some wr _ L0 (by rw [g2]; rfl)).trans g2
              have q3 := (World.cell?_alloc_some wr _ L0 (by rw [g3]; rfl)).trans g3
              subst hL0
              have HB := Lib.hid (alloc_below wr (.cells #[.int .i64 4, .string (bStr t), .int .i64 x.n, .slice Ak x.keep.length ck] 34))
              have HDa := Lib.hid (HD.out.alloc (.cells #[.int .i64 4, .string (bStr t), .int .i64 x.n, .slice Ak x.keep.length ck] 34))
              have HJa := Lib.hid (HJ.out.go HB.out)
              have HRa := Lib.hid (HR.out.go HB.out)
              have HKa := Lib.hid ((HKR.out.alloc HD.out.below.size (.cells #[.int .i64 4, .string (bStr t), .int .i64 x.n, .slice Ak x.keep.length ck] 34)))
              clear HB HD HJ HR HKR g0 g1 g2 g3
              have HN : Hid (Nums _ own Ak x.keep.length x.keep) := ⟨HKa.out.more HDa.out.below.size, fun hp ad' e => by
                obtain ⟨ad2, e1, h2, _⟩ := HKa.out.2 hp
                rw [e] at e1
                cases e1
                cases e2 : own ad'.block with
                | none => rfl
                | some r => have := HDa.out.new _ _ e2; omega, by omega⟩
              clear HKa
              have HLA := Lib.hid (HL.out.crashP HDa.out.da.1 x.keep)
              go_wp2_with fail
              refine (x_crash HDa.out HN.out rfl).mono ?_
              rintro v w2 ⟨o2, rfl, hx2, t2⟩
              have H2 := Lib.hid hx2
              have R2 := Lib.hid (HRa.out.tr t2)
              clear hx2 t2 HDa HJa HRa HN HL q0 q1 q2 q3
              go_wp2_with fail
              refine (x_start H2.out).mono ?_
              rintro v w4 ⟨o4, rfl, hx4, t4⟩
              have H4 := Lib.hid hx4
              have R4 := Lib.hid (R2.out.tr t4)
              clear hx4 t4 H2 R2
              rcases HLA.out.open H4.out.da.1 rfl with ⟨S', e, ho, he, hl, hne⟩ | ⟨S', q, us, ho, hus, hl⟩
              · have HO := Lib.hid (x_open H4.out (f := 3) (by decide) (by decide))
                rw [ho] at HO
                have HL' := Lib.hid hl
                clear ho hl hne HLA
                go_wp2_with fail
                refine HO.out.mono ?_
                rintro v w6 ⟨o6, hx6, t6, ⟨-, rfl⟩ | ⟨h0, -⟩⟩
                · have H6 := Lib.hid hx6
                  have R6 := Lib.hid (R4.out.tr t6)
                  clear hx6 t6 R4 H4 HO
                  rcases he with rfl | rfl
                  · go_wp2_with fail
                    refine (disky_any _ _).mono ?_
                    rintro v w7 ⟨rfl, rfl⟩
                    go_wp2_with fail
                    go_roundw
                    case rel => exact ⟨k + 1, o6, S', none, all, sure, Aa, ca, As, cs, by omega, by go_num, rfl, rfl, hca, H6, rfl, HL'.out.more (by omega), R6⟩
                    case measure => first | (simp [RowKit.intOf]; done) | (simp [RowKit.intOf]; omega)
                  · go_wp2_with fail
                    refine (disky_any _ _).mono ?_
                    rintro v w7 ⟨rfl, rfl⟩
                    go_wp2_with fail
                    go_roundw
                    case rel => exact ⟨k + 1, o6, S', none, all, sure, Aa, ca, As, cs, by omega, by go_num, rfl, rfl, hca, H6, rfl, HL'.out.more (by omega), R6⟩
                    case measure => first | (simp [RowKit.intOf]; done) | (simp [RowKit.intOf]; omega)
                · exact absurd h0 (by rcases he with rfl | rfl <;> decide)
              · obtain ⟨now, hnow⟩ : ∃ z, all.take q = z := ⟨_, rfl⟩
                rw [hnow] at ho hus hl
                have HO := Lib.hid (x_open H4.out (f := 3) (by decide) (by decide))
                rw [ho] at HO
                have HL' := Lib.hid hl
                have hb1 := begins_take hnow
                have hb2 := begins_app hus
                have hsl : sure.length ≤ now.length := by rw [hus, List.length_append]; omega
                have hnl : now.length ≤ 245 * 40 := by have h5 := hl.size; have h6 := list_len now; omega
                clear ho hl hus hnow HLA
                go_wp2_with fail
                refine HO.out.mono ?_
                rintro v w6 ⟨o6, hx6, t6, ⟨h0, -⟩ | ⟨-, bj, oj, rfl, hj6, ap6⟩⟩
                · exact absurd rfl h0
                · have H6 := Lib.hid hx6
                  have J6 := Lib.hid hj6
                  have AP6 := Lib.hid ap6
                  have R6 := Lib.hid (R4.out.tr t6)
                  clear hx6 hj6 ap6 t6 R4 H4 HO
                  go_wp2_with fail
                  refine (x_all J6.out (show now.length ≤ 1073741824 by omega)).mono ?_
                  rintro v w7 ⟨v7, rfl, ho7, b7, n7⟩
                  obtain ⟨A7, c7, rfl, hc7, hc72⟩ := own_slice ho7
                  have N7 := Lib.hid (Reads.of_own ho7)
                  have S7 : Hid (Safe o6 A7 now.length ∧ Safe oj A7 now.length) := ⟨Safe.new ho7 n7 H6.out.da.inb, Safe.new ho7 n7 J6.out.inb⟩
                  have H7 := Lib.hid (H6.out.go b7)
                  have J7 := Lib.hid (J6.out.past b7)
                  have R7 := Lib.hid (R6.out.go b7)
                  clear ho7 b7 n7 H6 J6 R6 hc72
                  go_wp2_with fail
                  refine (begins_any Aa A7 all.length now.length ca c7 _ _ all now _ R7.out.r1 N7.out (by omega) hca hb1).mono ?_
                  rintro v w8 ⟨rfl, d8⟩
                  have H8 := Lib.hid (H7.out.go d8.below)
                  have J8 := Lib.hid (J7.out.past d8.below)
                  have R8 := Lib.hid (R7.out.go d8.below)
                  have N8 := Lib.hid ((N7.out.below d8.below).more d8.below.size)
                  clear d8 H7 J7 R7 N7 hb1
                  go_wp2_with fail
                  refine (begins_any A7 As now.length sure.length c7 cs _ _ now sure _ N8.out R8.out.r2 (by omega) hc7 hb2).mono ?_
                  rintro v w9 ⟨rfl, d9⟩
                  have H9 := Lib.hid (H8.out.go d9.below)
                  have J9 := Lib.hid (J8.out.past d9.below)
                  have N9 := Lib.hid ((N8.out.below d9.below).more d9.below.size)
                  clear d9 H8 J8 R8 N8 hb2
                  go_wp2_with fail
                  go_roundw
                  case rel => exact ⟨k + 1, o6, S', some ⟨now, false⟩, now, now, A7, c7, A7, c7, by omega, by go_num, rfl, rfl, hc7, H9, ⟨bj, oj, rfl, J9.out, AP6.out, S7.out.2, S7.out.2⟩, HL'.out.more (by omega), ⟨N9.out, N9.out, S7.out.1, S7.out.1⟩⟩
                  case measure => first | (simp [RowKit.intOf]; done) | (simp [RowKit.intOf]; omega)
            · obtain ⟨L0, hL0⟩ : ∃ o : Obj, o = .cells #[.int .i64 4, .string ⟨#[]⟩, .int .i64 0, .slice A1 keep.length c1] 34 := ⟨_, rfl⟩
              have q0 := (World.cell?_alloc_some wr _ L0 (by rw [g0]; rfl)).trans g0
              have q1 := (World.cell?_alloc_some wr _ L0 (by rw [g1]; rfl)).trans g1
              have q2 := (World.cell?_alloc_some wr _ L0 (by rw [g2]; rfl)).trans g2
              have q3 := (World.cell?_alloc_some wr _ L0 (by rw [g3]; rfl)).trans g3
              subst hL0
              have HB := Lib.hid (alloc_below wr (.cells #[.int .i64 5, .string (bStr t), .int .i64 x.n, .slice Ak x.keep.length ck] 34))
              have HDa := Lib.hid (HD.out.alloc (.cells #[.int .i64 5, .string (bStr t), .int .i64 x.n, .slice Ak x.keep.length ck] 34))
              have HJa := Lib.hid (HJ.out.go HB.out)
              have HRa := Lib.hid (HR.out.go HB.out)
              have HKa := Lib.hid ((HKR.out.alloc HD.out.below.size (.cells #[.int .i64 5, .string (bStr t), .int .i64 x.n, .slice Ak x.keep.length ck] 34)))
              clear HB HD HJ HR HKR g0 g1 g2 g3
              have HLA := Lib.hid (La.drop (S' := { S with down := false }) HL.out rfl rfl)
              clear HKa
              go_wp2_with fail
              refine (x_start HDa.out).mono ?_
              rintro v w4 ⟨o4, rfl, hx4, t4⟩
              have H4 := Lib.hid hx4
              have R4 := Lib.hid (HRa.out.tr t4)
              clear hx4 t4 HDa HJa HRa HL q0 q1 q2 q3
              rcases HLA.out.open H4.out.da.1 rfl with ⟨S', e, ho, he, hl, hne⟩ | ⟨S', q, us, ho, hus, hl⟩
              · have HO := Lib.hid (x_open H4.out (f := 3) (by decide) (by decide))
                rw [ho] at HO
                have HL' := Lib.hid hl
                clear ho hl hne HLA
                go_wp2_with fail
                refine HO.out.mono ?_
                rintro v w6 ⟨o6, hx6, t6, ⟨-, rfl⟩ | ⟨h0, -⟩⟩
                · have H6 := Lib.hid hx6
                  have R6 := Lib.hid (R4.out.tr t6)
                  clear hx6 t6 R4 H4 HO
                  rcases he with rfl | rfl
                  · go_wp2_with fail
                    refine (disky_any _ _).mono ?_
                    rintro v w7 ⟨rfl, rfl⟩
                    go_wp2_with fail
                    go_roundw
                    case rel => exact ⟨k + 1, o6, S', none, all, sure, Aa, ca, As, cs, by omega, by go_num, rfl, rfl, hca, H6, rfl, HL'.out.more (by omega), R6⟩
                    case measure => first | (simp [RowKit.intOf]; done) | (simp [RowKit.intOf]; omega)
                  · go_wp2_with fail
                    refine (disky_any _ _).mono ?_
                    rintro v w7 ⟨rfl, rfl⟩
                    go_wp2_with fail
                    go_roundw
                    case rel => exact ⟨k + 1, o6, S', none, all, sure, Aa, ca, As, cs, by omega, by go_num, rfl, rfl, hca, H6, rfl, HL'.out.more (by omega), R6⟩
                    case measure => first | (simp [RowKit.intOf]; done) | (simp [RowKit.intOf]; omega)
                · exact absurd h0 (by rcases he with rfl | rfl <;> decide)
              · obtain ⟨now, hnow⟩ : ∃ z, all.take q = z := ⟨_, rfl⟩
                rw [hnow] at ho hus hl
                have HO := Lib.hid (x_open H4.out (f := 3) (by decide) (by decide))
                rw [ho] at HO
                have HL' := Lib.hid hl
                have hb1 := begins_take hnow
                have hb2 := begins_app hus
                have hsl : sure.length ≤ now.length := by rw [hus, List.length_append]; omega
                have hnl : now.length ≤ 245 * 40 := by have h5 := hl.size; have h6 := list_len now; omega
                clear ho hl hus hnow HLA
                go_wp2_with fail
                refine HO.out.mono ?_
                rintro v w6 ⟨o6, hx6, t6, ⟨h0, -⟩ | ⟨-, bj, oj, rfl, hj6, ap6⟩⟩
                · exact absurd rfl h0
                · have H6 := Lib.hid hx6
                  have J6 := Lib.hid hj6
                  have AP6 := Lib.hid ap6
                  have R6 := Lib.hid (R4.out.tr t6)
                  clear hx6 hj6 ap6 t6 R4 H4 HO
                  go_wp2_with fail
                  refine (x_all J6.out (show now.length ≤ 1073741824 by omega)).mono ?_
                  rintro v w7 ⟨v7, rfl, ho7, b7, n7⟩
                  obtain ⟨A7, c7, rfl, hc7, hc72⟩ := own_slice ho7
                  have N7 := Lib.hid (Reads.of_own ho7)
                  have S7 : Hid (Safe o6 A7 now.length ∧ Safe oj A7 now.length) := ⟨Safe.new ho7 n7 H6.out.da.inb, Safe.new ho7 n7 J6.out.inb⟩
                  have H7 := Lib.hid (H6.out.go b7)
                  have J7 := Lib.hid (J6.out.past b7)
                  have R7 := Lib.hid (R6.out.go b7)
                  clear ho7 b7 n7 H6 J6 R6 hc72
                  go_wp2_with fail
                  refine (begins_any Aa A7 all.length now.length ca c7 _ _ all now _ R7.out.r1 N7.out (by omega) hca hb1).mono ?_
                  rintro v w8 ⟨rfl, d8⟩
                  have H8 := Lib.hid (H7.out.go d8.below)
                  have J8 := Lib.hid (J7.out.past d8.below)
                  have R8 := Lib.hid (R7.out.go d8.below)
                  have N8 := Lib.hid ((N7.out.below d8.below).more d8.below.size)
                  clear d8 H7 J7 R7 N7 hb1
                  go_wp2_with fail
                  refine (begins_any A7 As now.length sure.length c7 cs _ _ now sure _ N8.out R8.out.r2 (by omega) hc7 hb2).mono ?_
                  rintro v w9 ⟨rfl, d9⟩
                  have H9 := Lib.hid (H8.out.go d9.below)
                  have J9 := Lib.hid (J8.out.past d9.below)
                  have N9 := Lib.hid ((N8.out.below d9.below).more d9.below.size)
                  clear d9 H8 J8 R8 N8 hb2
                  go_wp2_with fail
                  go_roundw
                  case rel => exact ⟨k + 1, o6, S', some ⟨now, false⟩, now, now, A7, c7, A7, c7, by omega, by go_num, rfl, rfl, hc7, H9, ⟨bj, oj, rfl, J9.out, AP6.out, S7.out.2, S7.out.2⟩, HL'.out.more (by omega), ⟨N9.out, N9.out, S7.out.1, S7.out.1⟩⟩
                  case measure => first | (simp [RowKit.intOf]; done) | (simp [RowKit.intOf]; omega)
            · have b0 : (d == 0) = false := by simpa using d0
              have b1 : (d == 1) = false := by simpa using d1
              have b2 : (d == 2) = false := by simpa using d2
              have b3 : (d == 3) = false := by simpa using d3
              have b4 : (d == 4) = false := by simpa using d4
              have b5 : (d == 5) = false := by simpa using d5
              obtain ⟨L0, hL0⟩ : ∃ o : Obj, o = .cells #[.int .i64 4, .string ⟨#[]⟩, .int .i64 0, .slice A1 keep.length c1] 34 := ⟨_, rfl⟩
              have q0 := (World.cell?_alloc_some wr _ L0 (by rw [g0]; rfl)).trans g0
              have q1 := (World.cell?_alloc_some wr _ L0 (by rw [g1]; rfl)).trans g1
              have q2 := (World.cell?_alloc_some wr _ L0 (by rw [g2]; rfl)).trans g2
              have q3 := (World.cell?_alloc_some wr _ L0 (by rw [g3]; rfl)).trans g3
              subst hL0
              have HB := Lib.hid (alloc_below wr (.cells #[.int .i64 d, .string (bStr t), .int .i64 x.n, .slice Ak x.keep.length ck] 34))
              have HDa := Lib.hid (HD.out.alloc (.cells #[.int .i64 d, .string (bStr t), .int .i64 x.n, .slice Ak x.keep.length ck] 34))
              have HJa := Lib.hid (HJ.out.go HB.out)
              have HRa := Lib.hid (HR.out.go HB.out)
              have HKa := Lib.hid ((HKR.out.alloc HD.out.below.size (.cells #[.int .i64 d, .string (bStr t), .int .i64 x.n, .slice Ak x.keep.length ck] 34)))
              clear HB HD HJ HR HKR g0 g1 g2 g3
              clear HKa
              go_wp2_with fail
              go_roundw
              case rel => exact ⟨k + 1, own, S, jo, all, sure, Aa, ca, As, cs, by omega, by go_num, rfl, rfl, hca, HDa, HJa, HL.out.more (by omega), HRa⟩
              case measure => first | (simp [RowKit.intOf]; done) | (simp [RowKit.intOf]; omega)

end Go.Proofs.YtjlndgkahmcfdaaDoor
