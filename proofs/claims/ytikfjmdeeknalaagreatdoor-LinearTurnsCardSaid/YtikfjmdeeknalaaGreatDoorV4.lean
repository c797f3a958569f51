/- Linear expressions plainly: right lists of terms, their values, sums and multiples. No condition but those that each theorem states. -/
import Derived.Test.YtikfjmdeeknalaaGreatDoorQO
namespace Go.Proofs.YtikfjmdeeknalaaGreatDoor
set_option maxRecDepth 8000

/-- A list of terms is right: the variables ascend behind m, below n, and no coefficient is 0. -/
def rightT (m n : Int) : List (Int × Rat) → Bool
  | [] => true
  | t :: l => decide (m < t.1) && decide (t.1 < n) && decide (t.2 ≠ 0) && rightT t.1 n l
/-- The value of terms. -/
def valT (x : Int → Rat) : List (Int × Rat) → Rat
  | [] => 0
  | t :: l => t.2 * x t.1 + valT x l
theorem rightT_cons {m n : Int} {t : Int × Rat} {l : List (Int × Rat)} : rightT m n (t :: l) = true ↔ m < t.1 ∧ t.1 < n ∧ t.2 ≠ 0 ∧ rightT t.1 n l = true := by
  simp [rightT, and_assoc]
theorem rightT_mono {m m' n n' : Int} {l : List (Int × Rat)} (h : rightT m n l = true) (hm : m' ≤ m) (hn : n ≤ n') : rightT m' n' l = true := by
  induction l generalizing m m' with
  | nil => rfl
  | cons t l ih =>
    obtain ⟨a, b, c, d⟩ := rightT_cons.1 h
    exact rightT_cons.2 ⟨by omega, by omega, c, ih d (Int.le_refl _)⟩
theorem valT_append (x : Int → Rat) (a b : List (Int × Rat)) : valT x (a ++ b) = valT x a + valT x b := by
  induction a with
  | nil => simp [valT, Rat.zero_add]
  | cons t l ih => simp only [List.cons_append, valT, ih]; grind
/-- A variable alone. -/
def one (v : Int) : Int → Rat := fun u => if u = v then 1 else 0
/-- The sum of two lists of terms. -/
def plusT : List (Int × Rat) → List (Int × Rat) → List (Int × Rat)
  | [], b => b
  | t :: a, [] => t :: a
  | t :: a, u :: b => if t.1 < u.1 then t :: plusT a (u :: b) else if u.1 < t.1 then u :: plusT (t :: a) b else if t.2 + u.2 = 0 then plusT a b else (t.1, t.2 + u.2) :: plusT a b
termination_by a b => a.length + b.length
theorem plusT_nil (a : List (Int × Rat)) : plusT a [] = a := by cases a <;> simp [plusT]
theorem nil_plusT (a : List (Int × Rat)) : plusT [] a = a := by simp [plusT]
theorem plusT_lt {t u : Int × Rat} {a b : List (Int × Rat)} (h : t.1 < u.1) : plusT (t :: a) (u :: b) = t :: plusT a (u :: b) := by rw [plusT, if_pos h]
theorem plusT_gt {t u : Int × Rat} {a b : List (Int × Rat)} (h : u.1 < t.1) : plusT (t :: a) (u :: b) = u :: plusT (t :: a) b := by rw [plusT, if_neg (by omega), if_pos h]
theorem plusT_zero {t u : Int × Rat} {a b : List (Int × Rat)} (h : t.1 = u.1) (h0 : t.2 + u.2 = 0) : plusT (t :: a) (u :: b) = plusT a b := by rw [plusT, if_neg (by omega), if_neg (by omega), if_pos h0]
theorem plusT_eq {t u : Int × Rat} {a b : List (Int × Rat)} (h : t.1 = u.1) (h0 : t.2 + u.2 ≠ 0) : plusT (t :: a) (u :: b) = (t.1, t.2 + u.2) :: plusT a b := by rw [plusT, if_neg (by omega), if_neg (by omega), if_neg h0]
/-- A multiple of a list of terms. -/
def timesT (f : Rat) (l : List (Int × Rat)) : List (Int × Rat) := if f = 0 then [] else l.map fun t => (t.1, t.2 * f)
theorem valT_times (x : Int → Rat) (f : Rat) (l : List (Int × Rat)) : valT x (timesT f l) = valT x l * f := by
  unfold timesT
  by_cases h : f = 0
  · rw [if_pos h, h, Rat.mul_zero]; rfl
  · rw [if_neg h]
    induction l with
    | nil => simp [valT, Rat.zero_mul]
    | cons t l ih => simp only [List.map_cons, valT, ih]; grind
theorem right_times {m n : Int} {f : Rat} {l : List (Int × Rat)} (h : rightT m n l = true) : rightT m n (timesT f l) = true := by
  unfold timesT
  by_cases hf : f = 0
  · rw [if_pos hf]; rfl
  · rw [if_neg hf]
    induction l generalizing m with
    | nil => rfl
    | cons t l ih =>
      obtain ⟨a1, a2, a3, a4⟩ := rightT_cons.1 h
      exact rightT_cons.2 ⟨a1, a2, fun e => by rcases Rat.mul_eq_zero.1 e with e | e; exact a3 e; exact hf e, ih a4⟩
section
variable {m n : Int} {a b c : List (Int × Rat)} {f g : Rat}
theorem times_zero (a : List (Int × Rat)) : timesT 0 a = [] := by unfold timesT; rw [if_pos rfl]
end
end Go.Proofs.YtikfjmdeeknalaaGreatDoor

/- Lists of fractions, of terms and of rows in memory, and lists that are being built. No condition. -/
namespace Go.Proofs.YtikfjmdeeknalaaGreatDoor
set_option maxRecDepth 8000
open Go.ChangeShapes Go.WideShapes Go.Deep Go.Joins Go.RowKit

theorem Reads.inj {w : World} {B B' n : Nat} {A : Option Addr} {xs ys : List Value} (h : Reads w B 1 A n xs) (h' : Reads w B' 1 A n ys) : xs = ys := by
  have e1 := h.1
  have e2 := h'.1
  apply List.ext_getElem? 
  intro j
  by_cases hj : j < n
  · obtain ⟨ad, ha, -, hc⟩ := h.2 (by omega)
    obtain ⟨ad', ha', -, hc'⟩ := h'.2 (by omega)
    rw [ha] at ha'
    cases ha'
    have k1 := hc j _ (List.getElem?_eq_getElem (show j < xs.length by omega))
    have k2 := hc' j _ (List.getElem?_eq_getElem (show j < ys.length by omega))
    rw [k1] at k2
    rw [List.getElem?_eq_getElem (show j < xs.length by omega), List.getElem?_eq_getElem (show j < ys.length by omega)]
    exact k2
  · rw [List.getElem?_eq_none (by omega), List.getElem?_eq_none (by omega)]
theorem Bg.back {w w' : World} {r : ArgR} {l : List Int} {k : Nat} {x : Int} (ha : BigArg w r l) (hb : Below w.heap.size w w') (h : Bg w' k x r.s r.A r.n) : Bg w k x r.s r.A r.n := by
  obtain ⟨hz, l', hl, hr, hm⟩ := h
  have e := Reads.inj hm (ha.rd.past hb)
  refine ⟨hz, l', hl, hr, ?_⟩
  rw [e]
  exact ha.rd
theorem FrArg.no {w w' : World} {r : FrR} {l1 l2 : List Int} (ha : FrArg w r l1 l2) (hb : Below w.heap.size w w') (hno : ∀ x, ¬ IsFr w r x) : ∀ x, ¬ IsFr w' r x :=
  fun x h => hno x ⟨Bg.back ha.p hb h.1, Bg.back ha.q hb h.2⟩
theorem FrArg.past {w w' : World} {r : FrR} {l1 l2 : List Int} (ha : FrArg w r l1 l2) (hb : Below w.heap.size w w') : FrArg w' r l1 l2 := ⟨ha.p.past hb, ha.q.past hb⟩
theorem cellsFrac : Tryz.prog.cellsOf 43 = 4 := by kernel_rfl

/-- A fraction in memory: its value; none where it is not right. -/
def Fo (w : World) (k : Nat) (x : Option Rat) (r : FrR) : Prop :=
  match x with
  | some x => Fg w k x r
  | none => r.n1 ≤ k ∧ r.n2 ≤ k ∧ ∃ l1 l2, FrArg w r l1 l2 ∧ ∀ x, ¬ IsFr w r x
section
variable {w w' : World} {j k : Nat} {x : Option Rat} {r : FrR}
theorem Fo.past (h : Fo w k x r) (hb : Below w.heap.size w w') : Fo w' k x r := by
  cases x with
  | some x => exact Fg.past h hb
  | none =>
    obtain ⟨h1, h2, l1, l2, h3, h4⟩ := h
    exact ⟨h1, h2, l1, l2, h3.past hb, h3.no hb h4⟩
theorem Fo.more (h : Fo w k x r) (hk : k ≤ j) : Fo w j x r := by
  cases x with
  | some x => exact Fg.more h hk
  | none =>
    obtain ⟨h1, h2, h3⟩ := h
    exact ⟨by omega, by omega, h3⟩
/-- A fraction that came in is a right one, or not. -/
theorem FrArg.fo {l1 l2 : List Int} (h : FrArg w r l1 l2) (h1 : r.n1 ≤ k) (h2 : r.n2 ≤ k) : ∃ x, Fo w (k + k) x r := by
  by_cases hx : ∃ x, IsFr w r x
  · obtain ⟨x, hx⟩ := hx
    exact ⟨some x, Fg.more hx (by omega)⟩
  · exact ⟨none, by omega, by omega, l1, l2, h, fun x hx2 => hx ⟨x, hx2⟩⟩
def sgnO : Option Rat → Int
  | some x => sgnR x
  | none => 0
theorem sign_O (r : FrR) (h : Fo w k x r) (hT : TabZ w) (hk : k ≤ 100000) {o : Int} (ho : sgnO x = o) :
    Calls Tryz.prog 69 #[frV r] w fun e w' => e = .returned (.int .i64 o) ∧ Below w.heap.size w w' := by
  cases x with
  | some x => exact sign_R r h hT hk ho
  | none =>
    obtain ⟨h1, h2, l1, l2, h3, h4⟩ := h
    subst ho
    exact sign_no r h3 hT (by omega) (by omega) fun W y hb => h3.no hb h4 y
theorem right_O (r : FrR) (h : Fo w k x r) (hT : TabZ w) (hk : k ≤ 100000) {o : Bool} (ho : x.isSome = o) :
    Calls Tryz.prog 58 #[frV r] w fun e w' => e = .returned (.bool o) ∧ Below w.heap.size w w' := by
  subst ho
  cases x with
  | some x => exact right_T r h hT (by omega)
  | none =>
    obtain ⟨h1, h2, l1, l2, h3, h4⟩ := h
    exact right_F r h3 hT (by omega) (by omega) h4
end
/-- A slice whose elements take sz cells each, and what each is. -/
def Els {α : Type} (El : World → α → List Value → Prop) (sz : Nat) (w : World) (A : Option Addr) (n : Nat) (l : List α) : Prop :=
  l.length = n ∧ (0 < n → ∃ ad, A = some ad ∧ ad.block < w.heap.size ∧ ∀ i a, l[i]? = some a → ∃ cs, cs.length = sz ∧ El w a cs ∧ ∀ j u, cs[j]? = some u → w.cell? (ad.add (i * sz + j)) = some u)
/-- What holds of an element lasts while no block turns. -/
def Keeps {α : Type} (El : World → α → List Value → Prop) : Prop := ∀ w w' a cs, El w a cs → Below w.heap.size w w' → El w' a cs
/-- .. while no block but g turns. -/
def Ap {α : Type} (El : World → α → List Value → Prop) (w : World) (g : Nat) (a : α) (cs : List Value) : Prop := ∀ w', w.grownBy w' (some g) → El w' a cs
theorem add_cell (ad : Addr) (m j : Nat) (hj : 0 < j) : (⟨(ad.add m).block, (ad.add m).off + j, none⟩ : Addr) = ad.add (m + j) := by
  unfold Addr.add
  by_cases hm : m = 0
  · subst hm; rw [if_pos rfl, if_neg (by omega), Nat.zero_add]
  · rw [if_neg hm, if_neg (by omega), Nat.add_assoc]
theorem add_zero (ad : Addr) : ad.add 0 = ad := by simp [Addr.add]
section
variable {α : Type} {El : World → α → List Value → Prop} {sz : Nat} {w w' : World} {A : Option Addr} {n : Nat} {l : List α}
theorem Els.len (h : Els El sz w A n l) : l.length = n := h.1
theorem Els.nil : Els El sz w none 0 [] := ⟨rfl, fun h => absurd h (by omega)⟩
theorem Els.nil_ (A : Option Addr) : Els El sz w A 0 [] := ⟨rfl, fun h => absurd h (by omega)⟩
theorem Els.past (hE : Keeps El) (h : Els El sz w A n l) (hb : Below w.heap.size w w') : Els El sz w' A n l :=
  ⟨h.1, fun hn => by
    obtain ⟨ad, e, hl, hc⟩ := h.2 hn
    refine ⟨ad, e, Nat.lt_of_lt_of_le hl hb.size, fun i a hi => ?_⟩
    obtain ⟨cs, h1, h2, h3⟩ := hc i a hi
    exact ⟨cs, h1, hE _ _ _ _ h2 hb, fun j u hj => (hb.cell (by rw [block_of_add]; exact hl)).trans (h3 j u hj)⟩⟩
theorem Els.cut (h : Els El sz w A n l) {k cap : Nat} (hk : k ≤ n) (hc : n ≤ cap) : Els El sz w (if cap = k then A else A.map (·.add (k * sz))) (n - k) (l.drop k) := by
  refine ⟨by rw [List.length_drop, h.1], fun hn => ?_⟩
  obtain ⟨ad, rfl, hb, hcell⟩ := h.2 (by omega)
  rw [if_neg (by omega)]
  refine ⟨ad.add (k * sz), rfl, by rw [block_of_add]; exact hb, fun i a hi => ?_⟩
  rw [List.getElem?_drop] at hi
  obtain ⟨cs, h1, h2, h3⟩ := hcell _ a hi
  refine ⟨cs, h1, h2, fun j u hj => ?_⟩
  rw [add_of_add, ← h3 j u hj, Nat.add_mul, Nat.add_assoc]
theorem Els.take (h : Els El sz w A n l) {k : Nat} (hk : k ≤ n) : Els El sz w A k (l.take k) := by
  refine ⟨by rw [List.length_take, h.1, Nat.min_eq_left hk], fun hn => ?_⟩
  obtain ⟨ad, rfl, hb, hcell⟩ := h.2 (by omega)
  refine ⟨ad, rfl, hb, fun i a hi => hcell i a ?_⟩
  rw [List.getElem?_take] at hi
  split at hi
  · exact hi
  · cases hi
/-- One element. -/
theorem Els.at_ (h : Els El sz w A n l) {i : Nat} (hi : i < n) : ∃ ad a cs, A = some ad ∧ ad.block < w.heap.size ∧ l[i]? = some a ∧ cs.length = sz ∧ El w a cs ∧ ∀ j u, cs[j]? = some u → w.cell? (ad.add (i * sz + j)) = some u := by
  obtain ⟨ad, e, hl, hc⟩ := h.2 (by omega)
  have hil : i < l.length := by have := h.1; omega
  obtain ⟨cs, h1, h2, h3⟩ := hc i _ (List.getElem?_eq_getElem hil)
  exact ⟨ad, _, cs, e, hl, List.getElem?_eq_getElem hil, h1, h2, h3⟩
theorem Ap.past {g : Nat} {a : α} {cs : List Value} (h : Ap El w g a cs) (hb : Below w.heap.size w w') : Ap El w' g a cs :=
  fun w2 hg => h w2 ((only_of_below hb _).trans hg)
/-- What is older than the block g. -/
theorem Ap.old {w0 : World} {g : Nat} {a : α} {cs : List Value} (hE : Keeps El) (h : El w0 a cs) (hb : Below w0.heap.size w0 w) (hg : w0.heap.size ≤ g) : Ap El w g a cs :=
  fun w2 h2 => hE _ _ _ _ h (hb.grown h2 hb.size (fun k e => by cases e; exact hg))
end
/-- A list that is being built in a block of its own, made since w0. -/
def Mk {α : Type} (El : World → α → List Value → Prop) (sz : Nat) (T : TypeId) (w0 w : World) (v : Value) (n : Nat) (l : List α) : Prop :=
  ∃ ps : List (List Value), w.ownsRow w0.heap.size T sz v n ps.flatten ∧ ps.length = n ∧ l.length = n ∧
    ∀ (i : Nat) (a : α), l[i]? = some a → ∃ cs, ps[i]? = some cs ∧ cs.length = sz ∧ El w a cs ∧ ∀ g, v.ownBlock = some g → Ap El w g a cs
theorem own_below {w w' : World} {base : Nat} {e : TypeId} {size n : Nat} {v : Value} {xs : List Value} {B : Nat} (h : w.ownsRow base e size v n xs) (hb : Below B w w') (hB : ∀ g, v.ownBlock = some g → g < B) : w'.ownsRow base e size v n xs := by
  refine ⟨h.1, ?_⟩
  rcases h.2 with hn | ⟨g, cap, cur, rfl, hb1, hgg, rest⟩
  · exact .inl hn
  · exact .inr ⟨g, cap, cur, rfl, hb1, (hb.block g (hB g rfl)).trans hgg, rest⟩
theorem own_on {w w' : World} {base : Nat} {e : TypeId} {size n : Nat} {v : Value} {xs : List Value} (h : w.ownsRow base e size v n xs) (hb : Below w.heap.size w w') : w'.ownsRow base e size v n xs :=
  own_below h hb (fun g e => (h.lt g e).2)
theorem own_slice {w : World} {base : Nat} {e : TypeId} {size n : Nat} {v : Value} {xs : List Value} (h : w.ownsRow base e size v n xs) : ∃ A c, v = .slice A n c ∧ n ≤ c ∧ c ≤ maxLen := by
  rcases h.2 with ⟨rfl, rfl⟩ | ⟨g, cap, cur, rfl, _, _, h1, h2, _⟩
  · exact ⟨_, _, rfl, Nat.le_refl _, by unfold maxLen; omega⟩
  · exact ⟨_, _, rfl, h1, h2⟩
theorem flat_at {sz : Nat} : ∀ (ps : List (List Value)) (i j : Nat) (cs : List Value) (u : Value), (∀ c ∈ ps, c.length = sz) → ps[i]? = some cs → cs[j]? = some u → ps.flatten[i * sz + j]? = some u := by
  intro ps
  induction ps with
  | nil => intro i j cs u _ h; simp at h
  | cons p ps ih =>
    intro i j cs u hl h hj
    have hp := hl p List.mem_cons_self
    rw [List.flatten_cons]
    cases i with
    | zero =>
      simp only [List.getElem?_cons_zero, Option.some.injEq] at h
      subst h
      rw [Nat.zero_mul, Nat.zero_add, List.getElem?_append_left (List.getElem?_eq_some_iff.1 hj).1]
      exact hj
    | succ i =>
      simp only [List.getElem?_cons_succ] at h
      rw [List.getElem?_append_right (by rw [hp, Nat.succ_mul]; omega), hp, Nat.succ_mul, show i * sz + sz + j - sz = i * sz + j from by omega]
      exact ih i j cs u (fun c hc => hl c (List.mem_cons_of_mem _ hc)) h hj
section
variable {α : Type} {El : World → α → List Value → Prop} {sz : Nat} {T : TypeId} {w0 w w' : World} {v : Value} {n : Nat} {l : List α}
theorem Mk.nil (w0 w : World) (T : TypeId) : Mk El sz T w0 w (.slice none 0 0) 0 [] := ⟨[], World.ownsRow_nil _ _ _ _, rfl, rfl, fun i a h => by simp at h⟩
theorem Mk.past (hE : Keeps El) (h : Mk El sz T w0 w v n l) (hb : Below w.heap.size w w') : Mk El sz T w0 w' v n l := by
  obtain ⟨ps, h1, h2, h3, h4⟩ := h
  refine ⟨ps, own_on h1 hb, h2, h3, fun i a hi => ?_⟩
  obtain ⟨cs, c1, c2, c3, c4⟩ := h4 i a hi
  exact ⟨cs, c1, c2, hE _ _ _ _ c3 hb, fun g hg => (c4 g hg).past hb⟩
theorem Mk.form (h : Mk El sz T w0 w v n l) : ∃ A c, v = .slice A n c ∧ n ≤ c ∧ c ≤ maxLen := by
  obtain ⟨ps, h1, -⟩ := h
  exact own_slice h1
theorem Mk.all_len {ps : List (List Value)} (h : ∀ (i : Nat) (a : α), l[i]? = some a → ∃ cs : List Value, ps[i]? = some cs ∧ cs.length = sz) (h2 : ps.length = n) (h3 : l.length = n) : ∀ c ∈ ps, c.length = sz := by
  intro c hc
  obtain ⟨i, hi⟩ := List.mem_iff_getElem?.1 hc
  have hil : i < l.length := by have := (List.getElem?_eq_some_iff.1 hi).1; omega
  obtain ⟨cs, h5, h6⟩ := h i _ (List.getElem?_eq_getElem hil)
  rw [hi] at h5
  cases h5
  exact h6
theorem Mk.els {A : Option Addr} {c : Nat} (h : Mk El sz T w0 w (.slice A n c) n l) : Els El sz w A n l := by
  obtain ⟨ps, h1, h2, h3, h4⟩ := h
  have hR := Reads.of_own h1
  have hl := Mk.all_len (fun i a hi => by obtain ⟨cs, c1, c2, -⟩ := h4 i a hi; exact ⟨cs, c1, c2⟩) h2 h3
  refine ⟨h3, fun hn => ?_⟩
  obtain ⟨ad, e, hb, hc⟩ := hR.2 hn
  refine ⟨ad, e, hb, fun i a hi => ?_⟩
  obtain ⟨cs, c1, c2, c3, -⟩ := h4 i a hi
  exact ⟨cs, c2, c3, fun j u hj => hc _ _ (flat_at ps i j cs u hl c1 hj)⟩
/-- One more element: behind an append. -/
theorem Mk.step (hE : Keeps El) {ps : List (List Value)} {v' : Value} {a : α} {cs : List Value} (h2 : ps.length = n) (h3 : l.length = n)
    (h4 : ∀ (i : Nat) (a : α), l[i]? = some a → ∃ cs, ps[i]? = some cs ∧ cs.length = sz ∧ El w a cs ∧ ∀ g, v.ownBlock = some g → Ap El w g a cs)
    (k1 : cs.length = sz) (k2 : El w a cs) (k3 : ∀ g, v.ownBlock = some g → Ap El w g a cs)
    (p1 : w'.ownsRow w0.heap.size T sz v' (n + 1) (ps.flatten ++ cs)) (p2 : w.grownBy w' v.ownBlock) (p3 : v'.ownBlock = v.ownBlock ∨ v'.ownBlock = some w.heap.size) : Mk El sz T w0 w' v' (n + 1) (l ++ [a]) := by
  have key : ∀ b ds, El w b ds → (∀ g, v.ownBlock = some g → Ap El w g b ds) → El w' b ds ∧ ∀ g, v'.ownBlock = some g → Ap El w' g b ds := by
    intro b ds d1 d2
    have e1 : El w' b ds := by
      cases hv : v.ownBlock with
      | none => rw [hv] at p2; exact hE _ _ _ _ d1 ((Below.refl _ _).grown p2 (Nat.le_refl _) (fun k e => by cases e))
      | some g => rw [hv] at p2; exact d2 g hv w' p2
    refine ⟨e1, fun g hg w2 hw2 => ?_⟩
    rcases p3 with p3 | p3
    · rw [p3] at hg
      rw [hg] at p2
      exact d2 g hg w2 (p2.trans hw2)
    · rw [p3] at hg
      cases hg
      cases hv : v.ownBlock with
      | none =>
        rw [hv] at p2
        exact hE _ _ _ _ d1 (((Below.refl _ _).grown p2 (Nat.le_refl _) (fun k e => by cases e)).grown hw2 p2.size (fun k e => by cases e; exact Nat.le_refl _))
      | some g =>
        rw [hv] at p2
        refine d2 g hv w2 ⟨hw2.os.trans p2.os, hw2.tape.trans p2.tape, hw2.output.trans p2.output, Nat.le_trans p2.size hw2.size, fun i hi hne => ?_⟩
        exact (hw2.block i (Nat.lt_of_lt_of_le hi p2.size) (fun e => by cases e; omega)).trans (p2.block i hi hne)
  refine ⟨ps ++ [cs], ?_, by simp [h2], by simp [h3], fun i b hi => ?_⟩
  · simpa using p1
  · rw [List.getElem?_append] at hi
    split at hi
    · obtain ⟨ds, d1, d2, d3, d4⟩ := h4 i b hi
      obtain ⟨e1, e2⟩ := key b ds d3 d4
      exact ⟨ds, by rw [List.getElem?_append_left (by omega)]; exact d1, d2, e1, e2⟩
    · have hil : i = l.length := by
        by_cases e : i - l.length = 0
        · omega
        · rw [List.getElem?_eq_none (by simp; omega)] at hi
          cases hi
      subst hil
      simp only [Nat.sub_self, List.getElem?_cons_zero, Option.some.injEq] at hi
      subst hi
      obtain ⟨e1, e2⟩ := key a cs k2 k3
      exact ⟨cs, by rw [List.getElem?_append_right (by omega), h2, h3]; simp, k1, e1, e2⟩
end
/-- The cells of a fraction. -/
def frL (r : FrR) : List Value := [.int .i64 r.s1, .slice r.A1 r.n1 r.c1, .int .i64 r.s2, .slice r.A2 r.n2 r.c2]
/-- A fraction as an element. -/
def FrEl (k : Nat) (w : World) (x : Option Rat) (cs : List Value) : Prop := ∃ r : FrR, cs = frL r ∧ r.n1 ≤ r.c1 ∧ r.n2 ≤ r.c2 ∧ Fo w k x r
/-- A term as an element. -/
def TmEl (k : Nat) (w : World) (t : Int × Option Rat) (cs : List Value) : Prop := ∃ r : FrR, cs = .int .i64 t.1 :: frL r ∧ r.n1 ≤ r.c1 ∧ r.n2 ≤ r.c2 ∧ Fo w k t.2 r
theorem FrEl.keeps (k : Nat) : Keeps (FrEl k) := fun _ _ _ _ ⟨r, e, c1, c2, h⟩ hb => ⟨r, e, c1, c2, h.past hb⟩
theorem TmEl.keeps (k : Nat) : Keeps (TmEl k) := fun _ _ _ _ ⟨r, e, c1, c2, h⟩ hb => ⟨r, e, c1, c2, h.past hb⟩
abbrev Xs (k : Nat) (w : World) (A : Option Addr) (n : Nat) (l : List (Option Rat)) : Prop := Els (FrEl k) 4 w A n l
abbrev Ts (k : Nat) (w : World) (A : Option Addr) (n : Nat) (l : List (Int × Option Rat)) : Prop := Els (TmEl k) 5 w A n l
/-- A row. -/
structure RowP where
  ts : List (Int × Option Rat)
  kind : Int
  val : Option Rat
def RwEl (k : Nat) (w : World) (r : RowP) (cs : List Value) : Prop := ∃ (A : Option Addr) (n c : Nat) (f : FrR), cs = .slice A n c :: .int .i64 r.kind :: frL f ∧ (n ≤ c ∧ n ≤ 64) ∧ f.n1 ≤ f.c1 ∧ f.n2 ≤ f.c2 ∧ Ts k w A n r.ts ∧ Fo w k r.val f
theorem RwEl.keeps (k : Nat) : Keeps (RwEl k) := fun _ _ _ _ ⟨A, n, c, f, e, c0, c1, c2, h, hv⟩ hb => ⟨A, n, c, f, e, c0, c1, c2, h.past (TmEl.keeps k) hb, hv.past hb⟩
abbrev Rs (k : Nat) (w : World) (A : Option Addr) (n : Nat) (l : List RowP) : Prop := Els (RwEl k) 6 w A n l
theorem Fo.apart {w w' : World} {k g : Nat} {x : Rat} {r : FrR} (h : Fg w k x r) (ho : Off r g) (hg : w.grownBy w' (some g)) : Fg w' k x r := ⟨h.1.apart hg ho.1, h.2.apart hg ho.2⟩
theorem FrEl.ap {w : World} {k g : Nat} {x : Rat} {r : FrR} (h : Fg w k x r) (c1 : r.n1 ≤ r.c1) (c2 : r.n2 ≤ r.c2) (ho : Off r g) : Ap (FrEl k) w g (some x) (frL r) :=
  fun _ hg => ⟨r, rfl, c1, c2, Fo.apart h ho hg⟩
theorem TmEl.ap {w : World} {k g : Nat} {v : Int} {x : Rat} {r : FrR} (h : Fg w k x r) (c1 : r.n1 ≤ r.c1) (c2 : r.n2 ≤ r.c2) (ho : Off r g) : Ap (TmEl k) w g (v, some x) (.int .i64 v :: frL r) :=
  fun _ hg => ⟨r, rfl, c1, c2, Fo.apart h ho hg⟩
theorem frL_one (r : FrR) : ∀ u ∈ frL r, u.oneCell' = true := by
  intro u hu
  simp [frL] at hu
  rcases hu with rfl | rfl | rfl | rfl <;> rfl
/-- Element i of a list of terms. -/
theorem tm_at {w : World} {k n i : Nat} {A : Option Addr} {l : List (Int × Option Rat)} (h : Ts k w A n l) (hi : i < n) :
    ∃ ad t r, A = some ad ∧ ad.block < w.heap.size ∧ l[i]? = some t ∧ r.n1 ≤ r.c1 ∧ r.n2 ≤ r.c2 ∧ Fo w k t.2 r ∧ w.cell? (ad.add (i * 5)) = some (.int .i64 t.1) ∧ w.cell? ⟨(ad.add (i * 5)).block, (ad.add (i * 5)).off + 1, none⟩ = some (.int .i64 r.s1) ∧ w.cell? ⟨(ad.add (i * 5)).block, (ad.add (i * 5)).off + 2, none⟩ = some (.slice r.A1 r.n1 r.c1) ∧
      w.cell? ⟨(ad.add (i * 5)).block, (ad.add (i * 5)).off + 3, none⟩ = some (.int .i64 r.s2) ∧ w.cell? ⟨(ad.add (i * 5)).block, (ad.add (i * 5)).off + 4, none⟩ = some (.slice r.A2 r.n2 r.c2) := by
  obtain ⟨ad, t, cs, e, hb, hl, -, ⟨r, rfl, c1, c2, hf⟩, hc⟩ := h.at_ hi
  refine ⟨ad, t, r, e, hb, hl, c1, c2, hf, hc 0 _ rfl, ?_, ?_, ?_, ?_⟩ <;> rw [add_cell _ _ _ (by omega)]
  · exact hc 1 _ rfl
  · exact hc 2 _ rfl
  · exact hc 3 _ rfl
  · exact hc 4 _ rfl
/-- Element i of a list of fractions. -/
theorem fr_at {w : World} {k n i : Nat} {A : Option Addr} {l : List (Option Rat)} (h : Xs k w A n l) (hi : i < n) :
    ∃ ad x r, A = some ad ∧ ad.block < w.heap.size ∧ l[i]? = some x ∧ r.n1 ≤ r.c1 ∧ r.n2 ≤ r.c2 ∧ Fo w k x r ∧ w.cell? (ad.add (i * 4)) = some (.int .i64 r.s1) ∧ w.cell? ⟨(ad.add (i * 4)).block, (ad.add (i * 4)).off + 1, none⟩ = some (.slice r.A1 r.n1 r.c1) ∧
      w.cell? ⟨(ad.add (i * 4)).block, (ad.add (i * 4)).off + 2, none⟩ = some (.int .i64 r.s2) ∧ w.cell? ⟨(ad.add (i * 4)).block, (ad.add (i * 4)).off + 3, none⟩ = some (.slice r.A2 r.n2 r.c2) := by
  obtain ⟨ad, x, cs, e, hb, hl, -, ⟨r, rfl, c1, c2, hf⟩, hc⟩ := h.at_ hi
  refine ⟨ad, x, r, e, hb, hl, c1, c2, hf, hc 0 _ rfl, ?_, ?_, ?_⟩ <;> rw [add_cell _ _ _ (by omega)]
  · exact hc 1 _ rfl
  · exact hc 2 _ rfl
  · exact hc 3 _ rfl
end Go.Proofs.YtikfjmdeeknalaaGreatDoor

/- Lists of terms whose coefficients may be no fractions: when they are right, what they are worth; rows and systems, plainly. No condition. -/
namespace Go.Proofs.YtikfjmdeeknalaaGreatDoor
set_option maxRecDepth 8000

/-- What RightTerms says of terms behind a variable m. -/
def goT (m n : Int) : List (Int × Option Rat) → Bool
  | [] => decide (0 ≤ n)
  | t :: l => if t.1 ≤ m ∨ n ≤ t.1 ∨ sgnO t.2 = 0 then false else goT t.1 n l
def up (l : List (Int × Rat)) : List (Int × Option Rat) := l.map fun t => (t.1, some t.2)
def down (l : List (Int × Option Rat)) : List (Int × Rat) := l.map fun t => (t.1, t.2.getD 0)
theorem down_up (l : List (Int × Rat)) : down (up l) = l := by
  unfold down up
  rw [List.map_map]
  conv => rhs; rw [← List.map_id l]
  exact List.map_congr_left fun t _ => rfl
theorem up_len (l : List (Int × Rat)) : (up l).length = l.length := by unfold up; rw [List.length_map]
theorem sgnR_zero {x : Rat} : sgnR x = 0 ↔ x = 0 := by
  rcases sgnR_cases x with ⟨a, e⟩ | ⟨a, e⟩ | ⟨a, e⟩
  all_goals rw [e]; constructor <;> intro h
  all_goals first | omega | grind
theorem sgnO_ne {x : Option Rat} (h : sgnO x ≠ 0) : ∃ y, x = some y ∧ y ≠ 0 := by
  cases x with
  | none => exact absurd rfl h
  | some y => exact ⟨y, rfl, fun e => h (sgnR_zero.2 e)⟩
theorem goT_is {n : Int} : ∀ {m : Int} {l : List (Int × Option Rat)}, goT m n l = true ↔ 0 ≤ n ∧ l = up (down l) ∧ rightT m n (down l) = true := by
  intro m l
  induction l generalizing m with
  | nil => simp [goT, up, down, rightT]
  | cons t l ih =>
    rw [goT]
    have hd : down (t :: l) = (t.1, t.2.getD 0) :: down l := rfl
    have hu : up ((t.1, t.2.getD 0) :: down l) = (t.1, some (t.2.getD 0)) :: up (down l) := rfl
    rw [hd, hu, rightT_cons]
    by_cases hc : t.1 ≤ m ∨ n ≤ t.1 ∨ sgnO t.2 = 0
    · rw [if_pos hc]
      refine ⟨fun h => (by cases h), fun h => ?_⟩
      obtain ⟨h0, h1, h2, h3, h4, -⟩ := h
      obtain ⟨h5, -⟩ := List.cons.inj h1
      rcases hc with hc | hc | hc
      · dsimp only at h2; omega
      · dsimp only at h3; omega
      · rw [h5] at hc
        exact absurd (sgnR_zero.1 hc) h4
    · rw [if_neg hc, ih]
      have hc1 : ¬ t.1 ≤ m := fun e => hc (.inl e)
      have hc2 : ¬ n ≤ t.1 := fun e => hc (.inr (.inl e))
      have hc3 : sgnO t.2 ≠ 0 := fun e => hc (.inr (.inr e))
      obtain ⟨y, hy, hy0⟩ := sgnO_ne hc3
      obtain ⟨v, c⟩ := t
      dsimp only at *
      subst hy
      constructor
      · rintro ⟨h0, h1, h2⟩
        exact ⟨h0, by rw [← h1]; rfl, by omega, by omega, hy0, h2⟩
      · rintro ⟨h0, h1, -, -, -, h2⟩
        exact ⟨h0, (List.cons.inj h1).2, h2⟩
theorem goT_up {m n : Int} (hn : 0 ≤ n) {l : List (Int × Rat)} : goT m n (up l) = rightT m n l := by
  have h := @goT_is n m (up l)
  rw [down_up] at h
  cases hr : rightT m n l
  · cases hg : goT m n (up l)
    · rfl
    · have := (h.1 hg).2.2
      rw [hr] at this
      cases this
  · exact h.2 ⟨hn, rfl, hr⟩
/-- A list of fractions at a variable. -/
def atX (xs : List (Option Rat)) (v : Int) : Rat := (xs.getD v.toNat none).getD 0
/-- The value of terms at a list of fractions. -/
def valO (xs : List (Option Rat)) (l : List (Int × Option Rat)) : Rat := valT (atX xs) (down l)
theorem valO_up (xs : List (Option Rat)) (l : List (Int × Rat)) : valO xs (up l) = valT (atX xs) l := by unfold valO; rw [down_up]
theorem down_app (a b : List (Int × Option Rat)) : down (a ++ b) = down a ++ down b := List.map_append
theorem valO_app (xs : List (Option Rat)) (a b : List (Int × Option Rat)) : valO xs (a ++ b) = valO xs a + valO xs b := by
  unfold valO; rw [down_app, valT_append]
/-- What RightTerms and Point ask together. -/
def canV (xs : List (Option Rat)) (l : List (Int × Option Rat)) : Bool := goT (-1) (xs.length : Int) l && xs.all (·.isSome)
/-- What linear.Right says. -/
def rowR (n : Int) (r : RowP) : Bool := decide (0 ≤ r.kind) && (decide (r.kind < 3) && (r.val.isSome && goT (-1) n r.ts))
def sysR (n : Int) (rows : List RowP) : Bool := !(decide (n < 0) || (decide (1500 < n) || decide (6000 < (rows.length : Int)))) && rows.all (rowR n)
def posO (x : Option Rat) : Bool := x.isSome && decide (0 ≤ sgnO x)
/-- How a kind of row takes an order. -/
def ordK (k o : Int) : Bool := if k = 0 then decide (0 ≤ o) else if k = 1 then decide (o ≤ 0) else decide (o = 0)
def rowH (xs : List (Option Rat)) (r : RowP) : Bool := ordK r.kind (ordR (valO xs r.ts) (r.val.getD 0))
/-- What Holds says. -/
def sysH (n : Int) (rows : List RowP) (xs : List (Option Rat)) : Bool := decide ((xs.length : Int) = n) && (sysR n rows && (xs.all posO && rows.all (rowH xs)))
end Go.Proofs.YtikfjmdeeknalaaGreatDoor

/- Fractions, lists of fractions, terms and rows, and systems, as arguments of a law: what they read as. No condition. -/
namespace Go.Proofs.YtikfjmdeeknalaaGreatDoor
set_option maxRecDepth 8000
open Go.ChangeShapes Go.WideShapes Go.Deep Go.Joins Go.RowKit

/-- Raw elements: fractions, terms, rows, right or not. -/
def rFr (w : World) (r : FrR) (cs : List Value) : Prop := cs = frL r ∧ r.n1 ≤ r.c1 ∧ r.n2 ≤ r.c2 ∧ ∃ l1 l2, FrArg w r l1 l2
def rTm (w : World) (t : Int × FrR) (cs : List Value) : Prop := cs = .int .i64 t.1 :: frL t.2 ∧ t.2.n1 ≤ t.2.c1 ∧ t.2.n2 ≤ t.2.c2 ∧ (-9223372036854775808 ≤ t.1 ∧ t.1 ≤ 9223372036854775807) ∧ ∃ l1 l2, FrArg w t.2 l1 l2
structure RawR where
  A : Option Addr
  n : Nat
  c : Nat
  ts : List (Int × FrR)
  kind : Int
  f : FrR
def rRw (w : World) (r : RawR) (cs : List Value) : Prop := cs = .slice r.A r.n r.c :: .int .i64 r.kind :: frL r.f ∧ r.n ≤ r.c ∧ r.f.n1 ≤ r.f.c1 ∧ r.f.n2 ≤ r.f.c2 ∧ (-9223372036854775808 ≤ r.kind ∧ r.kind ≤ 9223372036854775807) ∧ Els rTm 5 w r.A r.n r.ts ∧ ∃ l1 l2, FrArg w r.f l1 l2
theorem rFr.keeps : Keeps rFr := fun _ _ _ _ ⟨e, c1, c2, l1, l2, h⟩ hb => ⟨e, c1, c2, l1, l2, h.past hb⟩
theorem rTm.keeps : Keeps rTm := fun _ _ _ _ ⟨e, c1, c2, c3, l1, l2, h⟩ hb => ⟨e, c1, c2, c3, l1, l2, h.past hb⟩
theorem rRw.keeps : Keeps rRw := fun _ _ _ _ ⟨e, c0, c1, c2, c3, h, l1, l2, h2⟩ hb => ⟨e, c0, c1, c2, c3, h.past rTm.keeps hb, l1, l2, h2.past hb⟩
/-- Elements that are each something are a list of that. -/
theorem pick_list {α β : Type} {P : Nat → β → α → Prop} : ∀ (l : List β), (∀ i b, l[i]? = some b → ∃ a, P i b a) → ∃ m : List α, m.length = l.length ∧ ∀ i a, m[i]? = some a → ∃ b, l[i]? = some b ∧ P i b a := by
  intro l h
  have : ∀ n, n ≤ l.length → ∃ m : List α, m.length = n ∧ ∀ i a, m[i]? = some a → ∃ b, l[i]? = some b ∧ P i b a := by
    intro n
    induction n with
    | zero => exact fun _ => ⟨[], rfl, fun i a h => by simp at h⟩
    | succ n ih =>
      intro hn
      obtain ⟨m, hm, hm2⟩ := ih (by omega)
      obtain ⟨a, ha⟩ := h n _ (List.getElem?_eq_getElem (by omega))
      refine ⟨m ++ [a], by simp [hm], fun i b hi => ?_⟩
      rw [List.getElem?_append] at hi
      split at hi
      · exact hm2 i b hi
      · have hil : i = n := by
          by_cases e : i - m.length = 0
          · omega
          · rw [List.getElem?_eq_none (by simp; omega)] at hi
            cases hi
        subst hil
        rw [hm, Nat.sub_self] at hi
        cases hi
        exact ⟨_, List.getElem?_eq_getElem (by omega), ha⟩
  exact this _ (Nat.le_refl _)
/-- A list by what its elements are besides. -/
theorem Els.map_ {α β : Type} {El : World → α → List Value → Prop} {El' : World → β → List Value → Prop} {sz : Nat} {w : World} {A : Option Addr} {n : Nat} {l : List α} (h : Els El sz w A n l)
    (hx : ∀ (i : Nat) (a : α) (cs : List Value), l[i]? = some a → El w a cs → ∃ b, El' w b cs) : ∃ m, Els El' sz w A n m := by
  rcases Nat.eq_zero_or_pos n with h0 | h0
  · subst h0
    exact ⟨[], Els.nil_ A⟩
  obtain ⟨ad, e, hb, hc⟩ := h.2 h0
  obtain ⟨m, hm, hm2⟩ := pick_list (P := fun i a b => ∃ cs, cs.length = sz ∧ El' w b cs ∧ ∀ j u, cs[j]? = some u → w.cell? (ad.add (i * sz + j)) = some u) l (fun i a hi => by
    obtain ⟨cs, h1, h2, h3⟩ := hc i a hi
    obtain ⟨b, hb⟩ := hx i a cs hi h2
    exact ⟨b, cs, h1, hb, h3⟩)
  refine ⟨m, by rw [hm, h.1], fun _ => ⟨ad, e, hb, fun i a hi => ?_⟩⟩
  obtain ⟨b, -, cs, h1, h2, h3⟩ := hm2 i a hi
  exact ⟨cs, h1, h2, h3⟩
section
variable {w : World} {A : Option Addr} {n k : Nat}
theorem xs_of {l : List FrR} (h : Els rFr 4 w A n l) (hk : ∀ r ∈ l, r.n1 ≤ k ∧ r.n2 ≤ k) : ∃ m, Xs (k + k) w A n m :=
  h.map_ fun i r cs hi ⟨e, c1, c2, l1, l2, ha⟩ => by
    obtain ⟨h1, h2⟩ := hk r (List.mem_of_getElem? hi)
    obtain ⟨x, hx⟩ := ha.fo h1 h2
    exact ⟨x, r, e, c1, c2, hx⟩
theorem ts_of {l : List (Int × FrR)} (h : Els rTm 5 w A n l) (hk : ∀ t ∈ l, t.2.n1 ≤ k ∧ t.2.n2 ≤ k) : ∃ m, Ts (k + k) w A n m :=
  h.map_ fun i t cs hi ⟨e, c1, c2, _, l1, l2, ha⟩ => by
    obtain ⟨h1, h2⟩ := hk t (List.mem_of_getElem? hi)
    obtain ⟨x, hx⟩ := ha.fo h1 h2
    exact ⟨(t.1, x), t.2, e, c1, c2, hx⟩
end
theorem cellsTerm : Tryz.prog.cellsOf 142 = 5 := by kernel_rfl
theorem cellsRow : Tryz.prog.cellsOf 77 = 6 := by kernel_rfl
theorem cellsSt : Tryz.prog.cellsOf 59 = 1 := by kernel_rfl
section
variable {H : Type} {enc : TypeId × Value → H} {W : World}
/-- A slice as an argument, by what its elements open as. -/
theorem els_in {α : Type} {El : World → α → List Value → Prop} {sz : Nat} {t e : TypeId} {fuel : Nat} {v : Value} {x : DataW H × List MemPlace} (ht : Tryz.prog.underlying t = some (.slice e)) (hc : Tryz.prog.cellsOf e = sz) (hsz : 0 < sz)
    (hone : ∀ cs n y, cs.length = sz → DataW.trod enc Tryz.prog W 0 (fun _ => true) true n e cs = some y → ∃ a, El W a cs) (h : DataW.trod enc Tryz.prog W 0 (fun _ => true) true fuel t [v] = some x) :
    ∃ (A : Option Addr) (n c : Nat) (l : List α), v = .slice A n c ∧ n ≤ c ∧ c ≤ 9223372036854775807 ∧ Els El sz W A n l := by
  rcases open_slice ht h with ⟨hcs, _⟩ | ⟨a, len, cap, m, n, D, Pl, hcs, _, hl, hm, hmm, _, hi⟩
  · simp only [List.cons.injEq, and_true] at hcs
    exact ⟨none, 0, 0, [], hcs, by omega, by omega, Els.nil⟩
  · simp only [List.cons.injEq, and_true] at hcs
    have hm' : m = cap := by simpa using hmm
    unfold maxLen at hm
    rw [hc] at hi
    obtain ⟨l, hl1, hl2⟩ := pick_list (P := fun i (_ : Nat) b => ∃ cs, cs.length = sz ∧ El W b cs ∧ ∀ j u, cs[j]? = some u → W.cell? (a.add (i * sz + j)) = some u) (List.range len) (fun i b hb => by
      have hil : i < len := by have := (List.getElem?_eq_some_iff.1 hb).1; simpa using this
      obtain ⟨cs', h1, h2⟩ := hi i (by omega)
      obtain ⟨_, h3, h4⟩ := World.cells?_some h1
      obtain ⟨b, hb⟩ := hone cs' n _ h3 h2
      refine ⟨b, cs', h3, hb, fun j u hj => ?_⟩
      have hjl : j < sz := by have := (List.getElem?_eq_some_iff.1 hj).1; omega
      rw [← add_of_add, h4 j hjl, hj])
    refine ⟨some a, len, cap, l, hcs, hl, by omega, by rw [hl1, List.length_range], fun hn => ⟨a, rfl, ?_, fun i b hb => ?_⟩⟩
    · obtain ⟨b, -, cs, k1, -, k2⟩ := hl2 0 _ (List.getElem?_eq_getElem (by rw [hl1, List.length_range]; omega))
      have hj : cs[0]? = some (cs[0]'(by omega)) := List.getElem?_eq_getElem (by omega)
      have := World.block_lt_of_cell? W _ (k2 0 _ hj)
      rwa [block_of_add] at this
    · obtain ⟨_, -, cs, k1, k2, k3⟩ := hl2 i b hb
      exact ⟨cs, k1, k2, k3⟩
theorem bigCells_in {fuel : Nat} {c0 c1 : Value} {y : DataW H × List MemPlace} (h : DataW.trod enc Tryz.prog W 0 (fun _ => true) true fuel 24 [c0, c1] = some y) :
    ∃ (s : Int) (A : Option Addr) (l : List Int) (c : Nat), c0 = .int .i64 s ∧ c1 = .slice A l.length c ∧ BigArg W ⟨s, A, l.length, c⟩ l ∧ l.length ≤ c ∧ c ≤ 9223372036854775807 := by
  obtain ⟨xs, n, _, hx, _, hlen, hg⟩ := DataW.trod_struct Tryz.underlying24 h
  match xs, hlen with
  | [y0, y1], _ =>
    have h0 : DataW.trod enc Tryz.prog W 0 (fun _ => true) true n 3 [c0] = some y0 := by simpa [cellsI] using hg 0 _ rfl
    have h1 : DataW.trod enc Tryz.prog W 0 (fun _ => true) true n 22 [c1] = some y1 := by simpa [show Tryz.prog.cellsOf 22 = 1 from by kernel_rfl] using hg 1 _ rfl
    obtain ⟨s, e0, _, ws⟩ := DataW.trod_int Tryz.underlying3 h0
    obtain ⟨A, l, c, e1, hr, hz, hlc, hc⟩ := digits_in (v := c1) h1
    simp only [List.cons.injEq, and_true] at e0
    exact ⟨s, A, l, c, e0, e1, ⟨hr, hz, wfI64 ws⟩, hlc, hc⟩
/-- The cells of a fraction. -/
theorem fracCells_in {fuel : Nat} {cs : List Value} {y : DataW H × List MemPlace} (hs : cs.length = 4) (h : DataW.trod enc Tryz.prog W 0 (fun _ => true) true fuel 43 cs = some y) : ∃ r, rFr W r cs := by
  match cs, hs with
  | [c0, c1, c2, c3], _ =>
    obtain ⟨xs, n, _, hx, _, hlen, hg⟩ := DataW.trod_struct Tryz.underlying43 h
    match xs, hlen with
    | [y0, y1], _ =>
      have h0 : DataW.trod enc Tryz.prog W 0 (fun _ => true) true n 24 [c0, c1] = some y0 := by simpa [cellsBig] using hg 0 _ rfl
      have h1 : DataW.trod enc Tryz.prog W 0 (fun _ => true) true n 24 [c2, c3] = some y1 := by simpa [cellsBig] using hg 1 _ rfl
      obtain ⟨s1, A1, l1, k1, e0, e1, ha, hc1, -⟩ := bigCells_in (c0 := c0) (c1 := c1) h0
      obtain ⟨s2, A2, l2, k2, e2, e3, hb, hc2, -⟩ := bigCells_in (c0 := c2) (c1 := c3) h1
      subst e0 e1 e2 e3
      exact ⟨⟨s1, A1, l1.length, k1, s2, A2, l2.length, k2⟩, rfl, hc1, hc2, l1, l2, ha, hb⟩
theorem termCells_in {fuel : Nat} {cs : List Value} {y : DataW H × List MemPlace} (hs : cs.length = 5) (h : DataW.trod enc Tryz.prog W 0 (fun _ => true) true fuel 142 cs = some y) : ∃ t, rTm W t cs := by
  match cs, hs with
  | [c0, c1, c2, c3, c4], _ =>
    obtain ⟨xs, n, _, hx, _, hlen, hg⟩ := DataW.trod_struct Tryz.underlying142 h
    match xs, hlen with
    | [y0, y1], _ =>
      have h0 : DataW.trod enc Tryz.prog W 0 (fun _ => true) true n 3 [c0] = some y0 := by simpa [cellsI] using hg 0 _ rfl
      have h1 : DataW.trod enc Tryz.prog W 0 (fun _ => true) true n 43 [c1, c2, c3, c4] = some y1 := by simpa [cellsFrac] using hg 1 _ rfl
      obtain ⟨s, e0, _, ws⟩ := DataW.trod_int Tryz.underlying3 h0
      obtain ⟨r, e1, k1, k2, ha⟩ := fracCells_in rfl h1
      simp only [List.cons.injEq, and_true] at e0
      subst e0
      exact ⟨(s, r), by rw [e1], k1, k2, wfI64 ws, ha⟩
theorem terms_in {fuel : Nat} {v : Value} {y : DataW H × List MemPlace} (h : DataW.trod enc Tryz.prog W 0 (fun _ => true) true fuel 59 [v] = some y) :
    ∃ (A : Option Addr) (n c : Nat) (l : List (Int × FrR)), v = .slice A n c ∧ n ≤ c ∧ c ≤ 9223372036854775807 ∧ Els rTm 5 W A n l :=
  els_in Tryz.underlying59 cellsTerm (by decide) (fun _ _ _ => termCells_in) h
theorem fracs_in {fuel : Nat} {v : Value} {y : DataW H × List MemPlace} (h : DataW.trod enc Tryz.prog W 0 (fun _ => true) true fuel 60 [v] = some y) :
    ∃ (A : Option Addr) (n c : Nat) (l : List FrR), v = .slice A n c ∧ n ≤ c ∧ c ≤ 9223372036854775807 ∧ Els rFr 4 W A n l :=
  els_in Tryz.underlying60 cellsFrac (by decide) (fun _ _ _ => fracCells_in) h
theorem rowCells_in {fuel : Nat} {cs : List Value} {y : DataW H × List MemPlace} (hs : cs.length = 6) (h : DataW.trod enc Tryz.prog W 0 (fun _ => true) true fuel 77 cs = some y) : ∃ r, rRw W r cs := by
  match cs, hs with
  | [c0, c1, c2, c3, c4, c5], _ =>
    obtain ⟨xs, n, _, hx, _, hlen, hg⟩ := DataW.trod_struct Tryz.underlying77 h
    match xs, hlen with
    | [y0, y1, y2], _ =>
      have h0 : DataW.trod enc Tryz.prog W 0 (fun _ => true) true n 59 [c0] = some y0 := by simpa [cellsSt] using hg 0 _ rfl
      have h1 : DataW.trod enc Tryz.prog W 0 (fun _ => true) true n 3 [c1] = some y1 := by simpa [cellsI] using hg 1 _ rfl
      have h2 : DataW.trod enc Tryz.prog W 0 (fun _ => true) true n 43 [c2, c3, c4, c5] = some y2 := by simpa [cellsFrac] using hg 2 _ rfl
      obtain ⟨A, m, c, l, rfl, k0, -, hl⟩ := terms_in h0
      obtain ⟨s, e1, _, ws⟩ := DataW.trod_int Tryz.underlying3 h1
      obtain ⟨r, e2, k1, k2, ha⟩ := fracCells_in rfl h2
      simp only [List.cons.injEq, and_true] at e1
      subst e1
      exact ⟨⟨A, m, c, l, s, r⟩, by rw [e2], k0, k1, k2, wfI64 ws, hl, ha⟩
/-- A fraction, a row, a system as a law's argument. -/
theorem frac_in {r : Reach} {b0 : Nat} {v : Value} {d : DataW H} {p : List MemPlace} (hv : Value.okWide Tryz.prog W r b0 43 v) (h : DataW.Trod enc Tryz.prog W 0 (fun _ => true) true 43 v d p) :
    ∃ q : FrR, v = frV q ∧ q.n1 ≤ q.c1 ∧ q.n2 ≤ q.c2 ∧ ∃ l1 l2, FrArg W q l1 l2 := by
  obtain ⟨cs, rfl, hsz⟩ := okWide_struct Tryz.underlying43 hv
  obtain ⟨l⟩ := cs
  obtain ⟨fuel, hf⟩ := h
  obtain ⟨q, e, k1, k2, ha⟩ := fracCells_in (cs := l) (by simpa [cellsFrac] using hsz) hf
  exact ⟨q, by rw [e]; rfl, k1, k2, ha⟩
theorem row_in {r : Reach} {b0 : Nat} {v : Value} {d : DataW H} {p : List MemPlace} (hv : Value.okWide Tryz.prog W r b0 77 v) (h : DataW.Trod enc Tryz.prog W 0 (fun _ => true) true 77 v d p) :
    ∃ (q : RawR) (cs : List Value), v = .agg cs.toArray ∧ rRw W q cs := by
  obtain ⟨cs, rfl, hsz⟩ := okWide_struct Tryz.underlying77 hv
  obtain ⟨l⟩ := cs
  obtain ⟨fuel, hf⟩ := h
  obtain ⟨q, hq⟩ := rowCells_in (cs := l) (by simpa [cellsRow] using hsz) hf
  exact ⟨q, l, rfl, hq⟩
end
end Go.Proofs.YtikfjmdeeknalaaGreatDoor
