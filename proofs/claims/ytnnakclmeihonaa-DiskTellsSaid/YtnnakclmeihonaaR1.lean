/- The reference's disk in memory, in the words of the disk's own texts; its small methods. No condition but what each says. -/
import Derived.Test.YtnnakclmeihonaaLa
import Derived.Lib.Strings
namespace Go.Proofs.Ytnnakclmeihonaa
open Go.RowKit Go.ChangeMaps

/-- A file of the reference: its number, its bytes, its durable bytes. -/
structure Fl where
  no : Int
  now : List UInt8
  last : List UInt8
/-- The reference's disk, plainly. -/
structure Rs where
  files : List Fl
  queue : List (Int × Int)
  lost : Int
  down : Bool
  armed : Int
  keep : List Int
def flV (x : Fl) : Value := .agg #[.int .i64 x.no, .string (bStr x.now), .string (bStr x.last)]
def flC (l : List Fl) : List Value := l.flatMap fun x => [.int .i64 x.no, .string (bStr x.now), .string (bStr x.last)]
theorem flC_len (l : List Fl) : (flC l).length = l.length * 3 := by
  induction l with
  | nil => rfl
  | cons p l ih =>
    show ([Value.int .i64 p.no, .string (bStr p.now), .string (bStr p.last)] ++ flC l).length = _
    rw [List.length_append, ih]
    simp
    omega
theorem flC_app (l r : List Fl) : flC (l ++ r) = flC l ++ flC r := by simp [flC]
theorem flC_at {l : List Fl} {i : Nat} {p : Fl} (h : l[i]? = some p) : (flC l)[i * 3]? = some (.int .i64 p.no) ∧ (flC l)[i * 3 + 1]? = some (.string (bStr p.now)) ∧ (flC l)[i * 3 + 2]? = some (.string (bStr p.last)) := by
  induction l generalizing i with
  | nil => simp at h
  | cons q l ih =>
    have e : flC (q :: l) = .int .i64 q.no :: .string (bStr q.now) :: .string (bStr q.last) :: flC l := rfl
    cases i with
    | zero =>
      simp at h
      subst h
      exact ⟨rfl, rfl, rfl⟩
    | succ i =>
      have h2 := ih (i := i) (by simpa using h)
      rw [e]
      refine ⟨?_, ?_, ?_⟩
      · rw [show (i + 1) * 3 = i * 3 + 1 + 1 + 1 from by omega]
        simpa using h2.1
      · rw [show (i + 1) * 3 + 1 = i * 3 + 1 + 1 + 1 + 1 from by omega]
        simpa using h2.2.1
      · rw [show (i + 1) * 3 + 2 = i * 3 + 2 + 1 + 1 + 1 from by omega]
        simpa using h2.2.2
theorem flC_one (l : List Fl) : ∀ u ∈ flC l, u.oneCell' = true := fun u hu => by
  obtain ⟨p, _, hp⟩ := List.mem_flatMap.1 hu
  simp at hp
  rcases hp with rfl | rfl | rfl <;> rfl

structure Rk (w : World) (own : Nat → Option Nat) (b : Nat) (fv qv kv : Value) (s : Rs) : Prop where
  blk : Blk w b 60 #[fv, qv, .int .i64 s.lost, .bool s.down, .int .i64 s.armed, kv]
  ob : own b = some 0
  files : Row w own 1 66 3 fv s.files.length (flC s.files)
  queue : Row w own 2 83 2 qv s.queue.length (secC s.queue)
  keep : Row w own 3 3 1 kv s.keep.length (inV s.keep)
  inb : ∀ g r, own g = some r → g < w.heap.size

/-- The file with a number, or an empty one. -/
def getR (l : List Fl) (f : Int) : Fl := (l.find? fun x => x.no == f).getD ⟨f, [], []⟩
theorem getR_yes {l : List Fl} {f : Int} {k : Nat} {x : Fl} (h : l[k]? = some x) (hx : x.no = f) (hn : ∀ y ∈ l.take k, y.no ≠ f) : getR l f = x := by
  have e : l = l.take k ++ x :: l.drop (k + 1) := by
    obtain ⟨hk, rfl⟩ := List.getElem?_eq_some_iff.1 h
    rw [← List.drop_eq_getElem_cons hk, List.take_append_drop]
  unfold getR
  rw [e, List.find?_append, List.find?_eq_none.2 (fun y hy => by simpa using hn y hy)]
  simp [hx]
theorem getR_no {l : List Fl} {f : Int} (hn : ∀ y ∈ l, y.no ≠ f) : getR l f = ⟨f, [], []⟩ := by
  unfold getR
  rw [List.find?_eq_none.2 (fun y hy => by simpa using hn y hy)]
  rfl

set_option maxHeartbeats 400000 in
theorem r_down (w : World) (own : Nat → Option Nat) (b : Nat) (fv qv kv : Value) (s : Rs) (h : Rk w own b fv qv kv s) : Calls Try.prog 15 #[.pointer (some ⟨b, 0, none⟩)] w fun e w' => e = .returned (.bool s.down) ∧ w = w' := by
  have c3 := h.blk.cell 3
  clear h
  go_enter Try.func15, Try.ntmps15
  go_wp2
  go_ret
  exact ⟨rfl, rfl⟩

set_option maxHeartbeats 400000 in
theorem r_may (w : World) (own : Nat → Option Nat) (b : Nat) (fv qv kv : Value) (s : Rs) (f : Int) (h : Rk w own b fv qv kv s) : Calls Try.prog 48 #[.pointer (some ⟨b, 0, none⟩), .int .i64 f] w fun e w' => e = .returned (.int .i64 (if s.down = true then 8 else if isF f = false then 1 else 0)) ∧ w = w' := by
  have c3 := h.blk.cell 3
  clear h
  cases hd : s.down with
  | true =>
    rw [hd] at c3
    rw [if_pos rfl]
    go_enter Try.func48, Try.ntmps48
    go_wp2
    go_ret
    exact ⟨rfl, rfl⟩
  | false =>
    rw [hd] at c3
    rw [if_neg (by decide)]
    by_cases h0 : f < 0
    · rw [if_pos (show isF f = false by unfold isF; simp; omega)]
      go_enter Try.func48, Try.ntmps48
      go_wp2
      go_ret
      exact ⟨rfl, rfl⟩
    · by_cases h1 : 15 < f
      · rw [if_pos (show isF f = false by unfold isF; simp; omega)]
        go_enter Try.func48, Try.ntmps48
        go_wp2
        go_ret
        exact ⟨rfl, rfl⟩
      · rw [if_neg (show ¬ isF f = false by unfold isF; simp; omega)]
        go_enter Try.func48, Try.ntmps48
        go_wp2
        go_ret
        exact ⟨rfl, rfl⟩

end Go.Proofs.Ytnnakclmeihonaa

/- The walk of the reference's get. No condition. -/
namespace Go.Proofs.Ytnnakclmeihonaa
open Go.RowKit Go.ChangeMaps

theorem Row.flCell {w : World} {own : Nat → Option Nat} {r g n c k : Nat} {l : List Fl} {x : Fl} (h : Row w own r 66 3 (.slice (some ⟨g, 0, none⟩) n c) n (flC l)) (hx : l[k]? = some x) :
    w.cell? ⟨g, k * 3, none⟩ = some (.int .i64 x.no) ∧ w.cell? ⟨g, k * 3 + 1, none⟩ = some (.string (bStr x.now)) ∧ w.cell? ⟨g, k * 3 + 2, none⟩ = some (.string (bStr x.last)) := by
  obtain ⟨q0, q1, q2⟩ := flC_at hx
  have hl := h.1.1
  rw [flC_len] at hl
  have hk : k < l.length := (List.getElem?_eq_some_iff.1 hx).1
  refine ⟨?_, ?_, ?_⟩
  · rw [h.1.cellAt (k * 3) (by omega), q0]
  · rw [h.1.cellAt (k * 3 + 1) (by omega), q1]
  · rw [h.1.cellAt (k * 3 + 2) (by omega), q2]

set_option maxRecDepth 4000 in
set_option maxHeartbeats 1000000 in
theorem r_get (w : World) (own : Nat → Option Nat) (b : Nat) (fv qv kv : Value) (s : Rs) (f : Int) (h : Rk w own b fv qv kv s) (hn : s.files.length ≤ 1000000) :
    Calls Try.prog 39 #[.pointer (some ⟨b, 0, none⟩), .int .i64 f] w fun e w' => e = .returned (flV (getR s.files f)) ∧ Below w.heap.size w w' := by
  obtain ⟨Af, cf, rfl, _, _⟩ := own_slice h.files.1
  have c0 := h.blk.cell 0
  have hbl := h.blk.lt
  have HF := Lib.hid h.files
  have HI := Lib.hid h.inb
  generalize hL : s.files.length = L at *
  have HL := Lib.hid hL
  clear h hL
  go_enter Try.func39, Try.ntmps39
  go_wp2_with fail
  have hz : Blk (w.alloc (.cells #[.int .i64 0, .string ⟨#[]⟩, .string ⟨#[]⟩] 66)) w.heap.size 66 _ := Blk.new w _ _
  have hB : Below w.heap.size w (w.alloc (.cells #[.int .i64 0, .string ⟨#[]⟩, .string ⟨#[]⟩] 66)) := (Below.refl _ _).alloc (Nat.le_refl _) _
  have d0 := (hB.cell (p := ⟨b, 0, none⟩) hbl).trans c0
  have HF1 := Lib.hid (HF.out.keep ((Tr.refl (fun _ => False) HI.out).alloc (.cells #[.int .i64 0, .string ⟨#[]⟩, .string ⟨#[]⟩] 66)) (fun h => h))
  have HB := Lib.hid hB
  have HZ := Lib.hid hz
  clear c0 hB hz HF HI
  generalize w.alloc (.cells #[.int .i64 0, .string ⟨#[]⟩, .string ⟨#[]⟩] 66) = W1 at *
  go_loopw [5] (fun i wr => ∃ k : Nat, k ≤ L ∧ i = .int .i64 k ∧ Hid (∀ y ∈ s.files.take k, y.no ≠ f) ∧ W1 = wr) (fun i _ => L - (RowKit.intOf i).toNat)
  case atStart => exact ⟨0, Nat.zero_le _, rfl, (fun y hy => by simp at hy), rfl⟩
  case round =>
    obtain ⟨k, hk, rfl, hno, rfl⟩ := hrel
    by_cases hlt : k < L
    · obtain ⟨x, hx⟩ : ∃ x, s.files[k]? = some x := ⟨_, List.getElem?_eq_getElem (by rw [HL.out]; exact hlt)⟩
      obtain ⟨g, c', hv, _, _⟩ := own_some HF1.out.1 rfl (show 0 < L by omega)
      injection hv with hA2 _ hC
      subst hA2
      subst hC
      obtain ⟨q0, q1, q2⟩ := HF1.out.flCell hx
      have hlt' : (k : Int) < (L : Int) := by omega
      have hk0 : 0 ≤ (k : Int) := by omega
      have z0 := HZ.out.cell 0
      have z1 := HZ.out.cell 1
      have z2 := HZ.out.cell 2
      have y0 := HZ.out.frozen 0
      have y1 := HZ.out.frozen 1
      have y2 := HZ.out.frozen 2
      by_cases hxf : x.no = f
      · have hres := getR_yes hx hxf hno.out
        have HE := Lib.hid hres
        clear hres hx hno
        have HW := Lib.hid (((HZ.out.set_ 0 (.int .i64 f)).set_ 1 (.string (bStr x.now))).set_ 2 (.string (bStr x.last)))
        have HBE := Lib.hid (((HB.out.setCell (p := ⟨w.heap.size, 0, none⟩) (Nat.le_refl _) (.int .i64 f)).setCell (p := ⟨w.heap.size, 1, none⟩) (Nat.le_refl _) (.string (bStr x.now))).setCell (p := ⟨w.heap.size, 2, none⟩) (Nat.le_refl _) (.string (bStr x.last)))
        go_wp2_with fail
        refine bodyPost_ret (results_cell_row (fn := Try.f39) (p := 4) (ty := 66) rfl _ _ w.heap.size 66 _ (0, 0) _ rfl HW.out Try.underlying66 rfl (by kernel_rfl)) rfl ?_
        refine ⟨?_, HBE.out⟩
        rw [HE.out, ← hxf]
        rfl
      · have HN : Hid (∀ y ∈ s.files.take (k + 1), y.no ≠ f) := fun y hy => by
          rw [take_snoc_ hx, List.mem_append] at hy
          rcases hy with hy | hy
          · exact hno.out y hy
          · simp at hy; rw [hy]; exact hxf
        clear hx hno
        go_wp2_with fail
        go_roundw
        case rel => exact ⟨k + 1, by omega, by go_num, HN, trivial⟩
        case measure => simp [RowKit.intOf]; omega
    · obtain rfl : k = L := by omega
      have hres := getR_no (l := s.files) (f := f) (fun y hy => hno.out y (by rw [List.take_of_length_le (by rw [HL.out]; exact Nat.le_refl _)]; exact hy))
      have HE := Lib.hid hres
      have z0 := HZ.out.cell 0
      have z1 := HZ.out.cell 1
      have z2 := HZ.out.cell 2
      have y0 := HZ.out.frozen 0
      have y1 := HZ.out.frozen 1
      have y2 := HZ.out.frozen 2
      have HW := Lib.hid (((HZ.out.set_ 0 (.int .i64 f)).set_ 1 (.string ⟨#[]⟩)).set_ 2 (.string ⟨#[]⟩))
      have HBE := Lib.hid (((HB.out.setCell (p := ⟨w.heap.size, 0, none⟩) (Nat.le_refl _) (.int .i64 f)).setCell (p := ⟨w.heap.size, 1, none⟩) (Nat.le_refl _) (.string ⟨#[]⟩)).setCell (p := ⟨w.heap.size, 2, none⟩) (Nat.le_refl _) (.string ⟨#[]⟩))
      clear hres hno
      go_wp2_with fail
      refine bodyPost_ret (results_cell_row (fn := Try.f39) (p := 4) (ty := 66) rfl _ _ w.heap.size 66 _ (0, 0) _ rfl HW.out Try.underlying66 rfl (by kernel_rfl)) rfl ?_
      refine ⟨?_, HBE.out⟩
      rw [HE.out]
      rfl

end Go.Proofs.Ytnnakclmeihonaa

/- The walks of the reference's pending, fits, Size, Start, Lose. No condition but sizes. -/
namespace Go.Proofs.Ytnnakclmeihonaa
open Go.RowKit Go.ChangeMaps

theorem Row.secCellR {w : World} {own : Nat → Option Nat} {r g c n : Nat} {l : List (Int × Int)} {j : Nat} {p : Int × Int} (h : Row w own r 83 2 (.slice (some ⟨g, 0, none⟩) n c) n (secC l)) (hj : l[j]? = some p) :
    w.cell? ⟨g, j * 2, none⟩ = some (.int .i64 p.1) ∧ w.cell? ⟨g, j * 2 + 1, none⟩ = some (.int .i64 p.2) := by
  obtain ⟨h1, h2⟩ := secC_at hj
  have q1 := h.1.cells (g := g) rfl _ _ h1
  have q2 := h.1.cells (g := g) rfl _ _ h2
  rw [Addr.add_lit] at q1 q2
  simp only [Nat.zero_add] at q1 q2
  exact ⟨q1, q2⟩
/-- It is among the list. -/
def inQ (l : List (Int × Int)) (f n : Int) : Bool := decide ((f, n) ∈ l)

set_option maxRecDepth 4000 in
set_option maxHeartbeats 1000000 in
theorem r_pending (w : World) (own : Nat → Option Nat) (b : Nat) (fv qv kv : Value) (s : Rs) (f n : Int) (h : Rk w own b fv qv kv s) (hn : s.queue.length ≤ 40000000) :
    Calls Try.prog 65 #[.pointer (some ⟨b, 0, none⟩), .int .i64 f, .int .i64 n] w fun e w' => e = .returned (.bool (inQ s.queue f n)) ∧ w = w' := by
  obtain ⟨Aq, cq, rfl, _, _⟩ := own_slice h.queue.1
  have c1 := h.blk.cell 1
  have HF := Lib.hid h.queue
  generalize hL : s.queue.length = L at *
  have HL := Lib.hid hL
  clear h hL
  go_enter Try.func65, Try.ntmps65
  go_wp2_with fail
  go_loopw [7] (fun i wr => ∃ k : Nat, k ≤ L ∧ i = .int .i64 k ∧ Hid ((f, n) ∉ s.queue.take k) ∧ w = wr) (fun i _ => L - (RowKit.intOf i).toNat)
  case atStart => exact ⟨0, Nat.zero_le _, rfl, (fun hy => by simp at hy), rfl⟩
  case round =>
    obtain ⟨k, hk, rfl, hno, rfl⟩ := hrel
    by_cases hlt : k < L
    · obtain ⟨x, hx⟩ : ∃ x, s.queue[k]? = some x := ⟨_, List.getElem?_eq_getElem (by rw [HL.out]; exact hlt)⟩
      obtain ⟨g, c', hv, _, _⟩ := own_some HF.out.1 rfl (show 0 < L by omega)
      injection hv with hA2 _ hC
      subst hA2
      subst hC
      obtain ⟨q0, q1⟩ := HF.out.secCellR hx
      have hlt' : (k : Int) < (L : Int) := by omega
      have hk0 : 0 ≤ (k : Int) := by omega
      obtain ⟨x1, x2⟩ := x
      simp only at q0 q1
      by_cases h1 : x1 = f
      · by_cases h2 : x2 = n
        · have hres : inQ s.queue f n = true := by unfold inQ; exact decide_eq_true (by rw [← h1, ← h2]; exact List.mem_of_getElem? hx)
          have HE := Lib.hid hres
          clear hres hx hno
          go_wp2_with fail
          go_ret
          exact ⟨ret_b HE.out.symm, rfl⟩
        · have HN : Hid ((f, n) ∉ s.queue.take (k + 1)) := fun hy => by
            rw [take_snoc_ hx, List.mem_append] at hy
            rcases hy with hy | hy
            · exact hno.out hy
            · simp at hy; exact h2 hy.2.symm
          clear hx hno
          go_wp2_with fail
          go_roundw
          case rel => exact ⟨k + 1, by omega, by go_num, HN, trivial⟩
          case measure => simp [RowKit.intOf]; omega
      · have HN : Hid ((f, n) ∉ s.queue.take (k + 1)) := fun hy => by
          rw [take_snoc_ hx, List.mem_append] at hy
          rcases hy with hy | hy
          · exact hno.out hy
          · simp at hy; exact h1 hy.1.symm
        clear hx hno
        go_wp2_with fail
        go_roundw
        case rel => exact ⟨k + 1, by omega, by go_num, HN, trivial⟩
        case measure => simp [RowKit.intOf]; omega
    · obtain rfl : k = L := by omega
      have hres : inQ s.queue f n = false := by unfold inQ; exact decide_eq_false (by have := hno.out; rwa [List.take_of_length_le (by rw [HL.out]; exact Nat.le_refl _)] at this)
      have HE := Lib.hid hres
      clear hres hno
      go_wp2_with fail
      go_ret
      exact ⟨ret_b HE.out.symm, rfl⟩

def fitsP (a n : Int) : Bool := decide (0 ≤ a) && decide (a ≤ 16777216) && decide (a + n ≤ 16777216)
set_option maxHeartbeats 400000 in
theorem r_fits (a : Int) (t : ByteArray) (w : World) (ht : t.size ≤ 16777216) : Calls Try.prog 56 #[.int .i64 a, .string t] w fun e w' => e = .returned (.bool (fitsP a t.size)) ∧ w = w' := by
  by_cases h0 : 0 ≤ a
  · by_cases h1 : a ≤ 16777216
    · have e : fitsP a t.size = decide (a + (t.size : Int) ≤ 16777216) := by simp [fitsP, h0, h1]
      rw [e]
      go_enter Try.func56, Try.ntmps56
      go_wp2
      go_ret
      exact ⟨rfl, rfl⟩
    · have e : fitsP a t.size = false := by simp [fitsP, h0, h1]
      rw [e]
      go_enter Try.func56, Try.ntmps56
      go_wp2
      go_ret
      exact ⟨rfl, rfl⟩
  · have e : fitsP a t.size = false := by simp [fitsP, h0]
    rw [e]
    go_enter Try.func56, Try.ntmps56
    go_wp2
    go_ret
    exact ⟨rfl, rfl⟩

set_option maxHeartbeats 400000 in
theorem r_size (w : World) (own : Nat → Option Nat) (b : Nat) (fv qv kv : Value) (s : Rs) (f : Int) (h : Rk w own b fv qv kv s) (hn : s.files.length ≤ 1000000) :
    Calls Try.prog 17 #[.pointer (some ⟨b, 0, none⟩), .int .i64 f] w fun e w' => e = .returned (.int .i64 ((getR s.files f).now.length : Nat)) ∧ Below w.heap.size w w' := by
  have HG := Lib.hid (r_get w own b fv qv kv s f h hn)
  generalize getR s.files f = x at *
  have q := bStr_size x.now
  have hq : ∀ (w : World) (a b c : Value), (Instr.field 66 (.agg #[a, b, c]) 1).run Try.prog w = .ok b w := fun w a b c => by kernel_rfl
  clear h
  go_enter Try.func17, Try.ntmps17
  go_wp2_with fail
  refine HG.out.mono ?_
  rintro e w1 ⟨rfl, b1⟩
  have HB := Lib.hid b1
  clear b1
  unfold flV
  go_wp2
  go_ret
  exact ⟨rfl, HB.out⟩

end Go.Proofs.Ytnnakclmeihonaa

/- The walk of the reference's set. Conditions: the number of files. -/
namespace Go.Proofs.Ytnnakclmeihonaa
open Go.RowKit Go.ChangeMaps

theorem infoFl : (Try.prog.info? 66).map (fun i => (i.zero, i.size, i.bytes)) = some (some (.agg #[.int .i64 0, .string ⟨#[]⟩, .string ⟨#[]⟩]), 3, 40) := by kernel_rfl
def notNo (f : Int) (l : List Fl) : List Fl := l.filter fun y => y.no != f
def setR (l : List Fl) (x : Fl) : List Fl := notNo x.no l ++ [x]
theorem notNo_yes {f : Int} {l : List Fl} {k : Nat} {x : Fl} (h : l[k]? = some x) (hx : x.no ≠ f) : notNo f (l.take (k + 1)) = notNo f (l.take k) ++ [x] := by
  unfold notNo
  rw [take_snoc_ h, List.filter_append]
  simp [hx]
theorem notNo_no {f : Int} {l : List Fl} {k : Nat} {x : Fl} (h : l[k]? = some x) (hx : x.no = f) : notNo f (l.take (k + 1)) = notNo f (l.take k) := by
  unfold notNo
  rw [take_snoc_ h, List.filter_append]
  simp [hx]
theorem notNo_len (f : Int) (l : List Fl) : (notNo f l).length ≤ l.length := List.length_filter_le _ _

/-- How a method ends, of the reference. -/
def REnd2 (w : World) (own : Nat → Option Nat) (b : Nat) (s : Rs) (v : Value) (e : Ending) (w' : World) : Prop := e = .returned v ∧ ∃ own' fv qv kv, Rk w' own' b fv qv kv s ∧ Tr (fun _ => True) w own own' w'

/-- How a method ends that turns the files alone. -/
def REnd3 (w : World) (own : Nat → Option Nat) (b : Nat) (qv kv : Value) (s : Rs) (v : Value) (e : Ending) (w' : World) : Prop := e = .returned v ∧ ∃ own' fv, Rk w' own' b fv qv kv s ∧ Tr (fun r => r = 0) w own own' w'

set_option maxRecDepth 4000 in
set_option maxHeartbeats 2000000 in
theorem r_set3 (w : World) (own : Nat → Option Nat) (b : Nat) (fv qv kv : Value) (s : Rs) (x : Fl) (h : Rk w own b fv qv kv s) (hn : s.files.length ≤ 1000000) :
    Calls Try.prog 63 #[.pointer (some ⟨b, 0, none⟩), flV x] w (REnd3 w own b qv kv { s with files := setR s.files x } (.tuple #[])) := by
  obtain ⟨i0, hi, hz0, hz1, hz2⟩ := info_parts infoFl
  obtain ⟨Af, cf, rfl, _, _⟩ := own_slice h.files.1
  have c0 := h.blk.cell 0
  have f0 := h.blk.frozen 0
  have hbl := h.blk.lt
  have HF := Lib.hid h.files
  have HK := Lib.hid h
  have T1 := (Tr.refl (fun _ => False) h.inb).alloc (.cells #[.int .i64 x.no, .string (bStr x.now), .string (bStr x.last)] 66)
  have B1 : Blk (w.alloc (.cells #[.int .i64 x.no, .string (bStr x.now), .string (bStr x.last)] 66)) w.heap.size 66 _ := Blk.new w _ _
  have HT1 := Lib.hid T1
  have HB1 := Lib.hid B1
  generalize hL : s.files.length = L at *
  have HL := Lib.hid hL
  clear h T1 B1 hL
  unfold flV
  go_enter Try.func63, Try.ntmps63
  go_wp2_with fail
  generalize w.alloc (.cells #[.int .i64 x.no, .string (bStr x.now), .string (bStr x.last)] 66) = W1 at *
  go_loopw [4, 5] (fun o i wr => ∃ (k m : Nat) (Ao : Option Addr) (co : Nat), k ≤ L ∧ m ≤ k ∧ i = .int .i64 k ∧ o = .slice Ao m co ∧ Hid (wr.ownsRow 0 66 3 (.slice Ao m co) m (flC (notNo x.no (s.files.take k)))) ∧ Hid (∀ g, (Value.slice Ao m co).ownBlock = some g → w.heap.size < g) ∧ Hid (Tr (fun _ => False) w own own wr) ∧ Hid (Blk wr w.heap.size 66 #[.int .i64 x.no, .string (bStr x.now), .string (bStr x.last)])) (fun _ i _ => L - (RowKit.intOf i).toNat)
  case atStart => exact ⟨0, 0, none, 0, Nat.zero_le _, Nat.le_refl _, rfl, rfl, World.ownsRow_nil _ _ _ _, (fun g e => by cases e), HT1.out, HB1.out⟩
  case round =>
    clear HT1 HB1
    obtain ⟨k, m, Ao, co, hk, hmk, rfl, rfl, HO, HFR, HT, HBX⟩ := hrel
    have d0 : wr.cell? ⟨b, 0, none⟩ = some (.slice Af L cf) := HT.out.cell (a := ⟨b, 0, none⟩) c0 (fun _ _ h => h)
    have HF1 := Lib.hid (HF.out.keep HT.out (fun h => h))
    by_cases hlt : k < L
    · obtain ⟨y, hy⟩ : ∃ y, s.files[k]? = some y := ⟨_, List.getElem?_eq_getElem (by rw [HL.out]; exact hlt)⟩
      obtain ⟨g, c', hv, _, _⟩ := own_some HF1.out.1 rfl (show 0 < L by omega)
      injection hv with hA2 _ hC
      subst hA2
      subst hC
      obtain ⟨q0, q1, q2⟩ := HF1.out.flCell hy
      have x0 := HBX.out.cell 0
      have hlt' : (k : Int) < (L : Int) := by omega
      have hk0 : 0 ≤ (k : Int) := by omega
      by_cases hxy : y.no = x.no
      · have HN := Lib.hid (notNo_no hy hxy)
        clear hy
        go_wp2_with fail
        go_quiet (fail)
        clear q0 q1 q2 x0 d0 HF1
        go_wp2_with fail
        go_roundw
        case rel => exact ⟨k + 1, m, Ao, co, by omega, by omega, by go_num, rfl, by rw [HN.out]; exact HO.out, HFR, HT.out.trans ⟨rfl, rfl, rfl, Nat.le_refl _, fun _ _ _ => rfl, fun _ _ => rfl, HT.out.inb⟩, HBX.out.drewN _⟩
        case measure => simp [RowKit.intOf]; omega
      · have HN := Lib.hid (notNo_yes hy hxy)
        clear hy
        go_wp2_with fail
        go_quiet (fail)
        have hdr : Tr (fun _ => False) w own own (wr.drewN nq) := HT.out.trans ⟨rfl, rfl, rfl, Nat.le_refl _, fun _ _ _ => rfl, fun _ _ => rfl, HT.out.inb⟩
        have HO2 : Hid ((wr.drewN nq).ownsRow 0 66 3 (.slice Ao m co) m (flC (notNo x.no (s.files.take k)))) := HO.out
        have HB2 := Lib.hid (HBX.out.drewN nq)
        have q0 : (wr.drewN nq).cell? ⟨g, k * 3, none⟩ = some (.int .i64 y.no) := q0
        have q1 : (wr.drewN nq).cell? ⟨g, k * 3 + 1, none⟩ = some (.string (bStr y.now)) := q1
        have q2 : (wr.drewN nq).cell? ⟨g, k * 3 + 2, none⟩ = some (.string (bStr y.last)) := q2
        have d0 : (wr.drewN nq).cell? ⟨b, 0, none⟩ = some (.slice (some ⟨g, 0, none⟩) L cf) := d0
        have HT2 := Lib.hid hdr
        clear hdr HO HBX HF1 HT x0
        generalize wr.drewN nq = W2 at *
        have HT3 := Lib.hid (HT2.out.alloc (.cells #[.int .i64 y.no, .string (bStr y.now), .string (bStr y.last)] 66))
        have HB3 := Lib.hid (HB2.out.alloc (.cells #[.int .i64 y.no, .string (bStr y.now), .string (bStr y.last)] 66))
        have HO3 := Lib.hid (own_below HO2.out ((Below.refl W2.heap.size W2).alloc (Nat.le_refl _) (.cells #[.int .i64 y.no, .string (bStr y.now), .string (bStr y.last)] 66)) (fun g e => (HO2.out.lt g e).2))
        have HR3 : Hid (Reads (W2.alloc (.cells #[.int .i64 y.no, .string (bStr y.now), .string (bStr y.last)] 66)) (W2.heap.size + 1) 3 (some ⟨W2.heap.size, 0, none⟩) 1 (flC [y])) := by
          refine ⟨by rw [flC_len]; rfl, fun _ => ⟨_, rfl, by simp, fun j u hj => ?_⟩⟩
          have hc := cell_of_row (W2.alloc (.cells #[.int .i64 y.no, .string (bStr y.now), .string (bStr y.last)] 66)) W2.heap.size j _ _ (0, 0) (heap_alloc_new W2 _)
          rw [show (Addr.mk W2.heap.size 0 none).add j = ⟨W2.heap.size, j, none⟩ from by simp [Addr.add]; omega, hc]
          simpa [flC] using hj
        have hsz : w.heap.size < W2.heap.size := HB2.out.lt
        clear HO2 HT2 HB2
        go_wp2_with (at_builtin; refine wpList_append_any _ rfl (.tmp 26) (.tmp 34) 57 rfl 0 66 i0 _ 3 40 Try.underlying57 hi hz0 hz1 hz2 rfl (by decide) (.slice Ao m co) m _ rfl HO3.out _ (some ⟨W2.heap.size, 0, none⟩) 1 1 (flC [y]) rfl HR3.out (flC_one _) (by unfold maxLen; omega) (by omega) (Nat.zero_le _) ?_; intro v' w' p1 p2 p3)
        obtain ⟨A5, c5, rfl, _, _⟩ := own_slice p1
        have HO5 : Hid (w'.ownsRow 0 66 3 (.slice A5 (m + 1) c5) (m + 1) (flC (notNo x.no (s.files.take (k + 1))))) := by
          rw [HN.out, flC_app]
          exact p1
        have HFR5 : Hid (∀ g, (Value.slice A5 (m + 1) c5).ownBlock = some g → w.heap.size < g) := fun g e => by
          rcases p3 with p3 | p3
          · exact HFR.out g (p3 ▸ e)
          · rw [p3] at e; cases e; simp; omega
        have HT5 := Lib.hid (HT3.out.grown p2 (fun g e => .inl (Nat.le_of_lt (HFR.out g e))))
        have HB5 := Lib.hid (HB3.out.grown p2 (fun e => by have := HFR.out _ e.symm; omega))
        clear p1 p2 p3 HO3 HR3 HT3 HB3 HN HFR q0 q1 q2 d0
        go_wp2_with fail
        go_roundw
        case rel => exact ⟨k + 1, m + 1, A5, c5, by omega, by omega, by go_num, rfl, HO5, HFR5, HT5, HB5⟩
        case measure => simp [RowKit.intOf]; omega
    · obtain rfl : k = L := by omega
      have htk : s.files.take k = s.files := List.take_of_length_le (by rw [HL.out]; exact Nat.le_refl _)
      rw [htk] at HO
      have x0 := HBX.out.cell 0
      have x1 := HBX.out.cell 1
      have x2 := HBX.out.cell 2
      have hsz : w.heap.size < wr.heap.size := HBX.out.lt
      have hm1 : m ≤ 1000000 := by omega
      have HT3 := Lib.hid (HT.out.alloc (.cells #[.int .i64 x.no, .string (bStr x.now), .string (bStr x.last)] 66))
      have HO3 := Lib.hid (own_below HO.out ((Below.refl wr.heap.size wr).alloc (Nat.le_refl _) (.cells #[.int .i64 x.no, .string (bStr x.now), .string (bStr x.last)] 66)) (fun g e => (HO.out.lt g e).2))
      have HR3 : Hid (Reads (wr.alloc (.cells #[.int .i64 x.no, .string (bStr x.now), .string (bStr x.last)] 66)) (wr.heap.size + 1) 3 (some ⟨wr.heap.size, 0, none⟩) 1 (flC [x])) := by
        refine ⟨by rw [flC_len]; rfl, fun _ => ⟨_, rfl, by simp, fun j u hj => ?_⟩⟩
        have hc := cell_of_row (wr.alloc (.cells #[.int .i64 x.no, .string (bStr x.now), .string (bStr x.last)] 66)) wr.heap.size j _ _ (0, 0) (heap_alloc_new wr _)
        rw [show (Addr.mk wr.heap.size 0 none).add j = ⟨wr.heap.size, j, none⟩ from by simp [Addr.add]; omega, hc]
        simpa [flC] using hj
      clear HT HO HF1 htk
      go_wp2_with (at_builtin; refine wpList_append_any _ rfl (.tmp 37) (.tmp 39) 57 rfl 0 66 i0 _ 3 40 Try.underlying57 hi hz0 hz1 hz2 rfl (by decide) (.slice Ao m co) m _ rfl HO3.out _ (some ⟨wr.heap.size, 0, none⟩) 1 1 (flC [x]) rfl HR3.out (flC_one _) (by unfold maxLen; omega) (by omega) (Nat.zero_le _) ?_; intro v' w' p1 p2 p3; obtain ⟨A5, c5, rfl, _, _⟩ := own_slice p1; have HT5 := Lib.hid (HT3.out.grown p2 (fun g e => .inl (Nat.le_of_lt (HFR.out g e)))); have hb5 := HT5.out.blk HK.out.blk (fun _ _ h => h); have d5 := hb5.cell 0; have f5 := hb5.frozen 0; have HB5 := Lib.hid hb5; have P1 := Lib.hid p1; have P3 := Lib.hid p3; clear p1 p2 p3 hb5)
      have hlen : (setR s.files x).length = m + 1 := by
        have h2 := HO3.out.1
        rw [flC_len] at h2
        unfold setR
        rw [List.length_append]
        show _ + 1 = _
        omega
      have hnew : ∀ g, (Value.slice A5 (m + 1) c5).ownBlock = some g → w.heap.size ≤ g ∧ g < w'.heap.size := fun g e => by
        refine ⟨?_, (P1.out.lt g e).2⟩
        rcases P3.out with p3 | p3
        · exact Nat.le_of_lt (HFR.out g (p3 ▸ e))
        · rw [p3] at e; cases e; simp; omega
      have TG := HT5.out.giveV (v := .slice A5 (m + 1) c5) hnew 1
      have ob5 := TG.role hbl HK.out.ob
      have S5 := (Tr.refl (fun r => r = 0) TG.inb).setOwn (p := ⟨b, 0, none⟩) ob5 rfl (.slice A5 (m + 1) c5)
      have HE : Hid (REnd3 w own b qv kv { s with files := setR s.files x } (.tuple #[]) (.returned (.tuple #[])) (w'.setCell ⟨b, 0, none⟩ (.slice A5 (m + 1) c5))) := by
        refine ⟨rfl, _, .slice A5 (m + 1) c5, ⟨HB5.out.set_ 0 (.slice A5 (m + 1) c5), ob5, ?_, ?_, ?_, S5.inb⟩, (TG.weak (fun _ h => h.elim)).trans S5⟩
        · have hr : Row w' (giveV own (.slice A5 (m + 1) c5) 1) 1 66 3 (.slice A5 (m + 1) c5) (setR s.files x).length (flC (setR s.files x)) := by
            rw [hlen]
            refine ⟨?_, fun g e => giveV_same e⟩
            unfold setR
            rw [flC_app]
            exact P1.out
          exact hr.keep S5 (by decide)
        · exact (HK.out.queue.keep TG (fun h => h)).keep S5 (by decide)
        · exact (HK.out.keep.keep TG (fun h => h)).keep S5 (by decide)
      clear TG ob5 S5 HK HT5 HB5 P1 P3
      go_wp2_with fail
      go_end0
      exact HE.out

theorem r_set (w : World) (own : Nat → Option Nat) (b : Nat) (fv qv kv : Value) (s : Rs) (x : Fl) (h : Rk w own b fv qv kv s) (hn : s.files.length ≤ 1000000) :
    Calls Try.prog 63 #[.pointer (some ⟨b, 0, none⟩), flV x] w (REnd2 w own b { s with files := setR s.files x } (.tuple #[])) := by
  refine (r_set3 w own b fv qv kv s x h hn).mono ?_
  rintro e w' ⟨rfl, own', fv', h1, t⟩
  exact ⟨rfl, own', fv', qv, kv, h1, t.weak (fun _ _ => trivial)⟩

end Go.Proofs.Ytnnakclmeihonaa

/- The walk of the reference's settle: a file and its durable part become one string; its sectors are pending no more. Conditions: sizes. -/
namespace Go.Proofs.Ytnnakclmeihonaa
open Go.RowKit Go.ChangeMaps

theorem infoSecR : (Try.prog.info? 83).map (fun i => (i.zero, i.size, i.bytes)) = some (some (.agg #[.int .i64 0, .int .i64 0]), 2, 16) := by kernel_rfl
theorem keepL_yes {f : Int} {l : List (Int × Int)} {k : Nat} {p : Int × Int} (h : l[k]? = some p) (hp : p.1 ≠ f) : keepL f (l.take (k + 1)) = keepL f (l.take k) ++ [p] := by
  unfold keepL
  rw [take_snoc_ h, List.filter_append]
  simp [hp]
theorem keepL_no {f : Int} {l : List (Int × Int)} {k : Nat} {p : Int × Int} (h : l[k]? = some p) (hp : p.1 = f) : keepL f (l.take (k + 1)) = keepL f (l.take k) := by
  unfold keepL
  rw [take_snoc_ h, List.filter_append]
  simp [hp]

def settleR (s : Rs) (f : Int) (t : List UInt8) : Rs := { s with files := setR s.files ⟨f, t, t⟩, queue := keepL f s.queue }

set_option maxRecDepth 4000 in
set_option maxHeartbeats 2000000 in
theorem r_settle (w : World) (own : Nat → Option Nat) (b : Nat) (fv qv kv : Value) (s : Rs) (f : Int) (t : List UInt8) (h : Rk w own b fv qv kv s) (hn : s.files.length ≤ 1000000) (hq : s.queue.length ≤ 40000000) :
    Calls Try.prog 54 #[.pointer (some ⟨b, 0, none⟩), .int .i64 f, .string (bStr t)] w (REnd2 w own b (settleR s f t) (.tuple #[])) := by
  obtain ⟨i0, hi, hz0, hz1, hz2⟩ := info_parts infoSecR
  have HS := Lib.hid (r_set w own b fv qv kv s ⟨f, t, t⟩ h hn)
  have HB0 := Lib.hid h.blk.lt
  clear h
  go_enter Try.func54, Try.ntmps54
  go_wp2_with fail
  refine HS.out.mono ?_
  rintro e w1 ⟨rfl, own1, fv1, qv1, kv1, hk1, tr1⟩
  obtain ⟨Aq, cq, rfl, _, _⟩ := own_slice hk1.queue.1
  have c1 := hk1.blk.cell 1
  have hbl := hk1.blk.lt
  have HQ := Lib.hid hk1.queue
  have HK := Lib.hid hk1
  have HTR := Lib.hid tr1
  simp only [] at HQ c1
  generalize hL : s.queue.length = L at *
  have HL := Lib.hid hL
  have HI := Lib.hid hk1.inb
  clear hk1 tr1 hL HS
  go_wp2_with fail
  obtain ⟨W1, rfl⟩ : ∃ x, x = w1 := ⟨_, rfl⟩
  go_loopw [6, 7] (fun o i wr => ∃ (k m : Nat) (Ao : Option Addr) (co : Nat), k ≤ L ∧ m ≤ k ∧ i = .int .i64 k ∧ o = .slice Ao m co ∧ Hid (wr.ownsRow 0 83 2 (.slice Ao m co) m (secC (keepL f (s.queue.take k)))) ∧ Hid (∀ g, (Value.slice Ao m co).ownBlock = some g → W1.heap.size ≤ g) ∧ Hid (Tr (fun _ => False) W1 own1 own1 wr)) (fun _ i _ => L - (RowKit.intOf i).toNat)
  case atStart => exact ⟨0, 0, none, 0, Nat.zero_le _, Nat.le_refl _, rfl, rfl, World.ownsRow_nil _ _ _ _, (fun g e => by cases e), Tr.refl _ HI.out⟩
  case round =>
    obtain ⟨k, m, Ao, co, hk, hmk, rfl, rfl, HO, HFR, HT⟩ := hrel
    have d1 : wr.cell? ⟨b, 1, none⟩ = some (.slice Aq L cq) := HT.out.cell (a := ⟨b, 1, none⟩) c1 (fun _ _ h => h)
    have HQ1 := Lib.hid (HQ.out.keep HT.out (fun h => h))
    by_cases hlt : k < L
    · obtain ⟨p, hp⟩ : ∃ p, s.queue[k]? = some p := ⟨_, List.getElem?_eq_getElem (by rw [HL.out]; exact hlt)⟩
      obtain ⟨g, c', hv, _, _⟩ := own_some HQ1.out.1 rfl (show 0 < L by omega)
      injection hv with hA2 _ hC
      subst hA2
      subst hC
      obtain ⟨q0, q1⟩ := HQ1.out.secCellR hp
      obtain ⟨p1, p2⟩ := p
      simp only at q0 q1
      have hlt' : (k : Int) < (L : Int) := by omega
      have hk0 : 0 ≤ (k : Int) := by omega
      by_cases hpf : p1 = f
      · have HN := Lib.hid (keepL_no hp hpf)
        clear hp
        go_wp2_with fail
        clear q0 q1 d1 HQ1
        go_roundw
        case rel => exact ⟨k + 1, m, Ao, co, by omega, by omega, by go_num, rfl, by rw [HN.out]; exact HO.out, HFR, HT⟩
        case measure => simp [RowKit.intOf]; omega
      · have HN := Lib.hid (keepL_yes hp hpf)
        clear hp
        have HT3 := Lib.hid (HT.out.alloc (.cells #[.int .i64 p1, .int .i64 p2] 83))
        have HO3 := Lib.hid (own_below HO.out ((Below.refl wr.heap.size wr).alloc (Nat.le_refl _) (.cells #[.int .i64 p1, .int .i64 p2] 83)) (fun g e => (HO.out.lt g e).2))
        have HR3 : Hid (Reads (wr.alloc (.cells #[.int .i64 p1, .int .i64 p2] 83)) (wr.heap.size + 1) 2 (some ⟨wr.heap.size, 0, none⟩) 1 (secC [(p1, p2)])) := by
          refine ⟨by rw [secC_len]; rfl, fun _ => ⟨_, rfl, by simp, fun j u hj => ?_⟩⟩
          have hc := cell_of_row (wr.alloc (.cells #[.int .i64 p1, .int .i64 p2] 83)) wr.heap.size j _ _ (0, 0) (heap_alloc_new wr _)
          rw [show (Addr.mk wr.heap.size 0 none).add j = ⟨wr.heap.size, j, none⟩ from by simp [Addr.add]; omega, hc]
          simpa [secC] using hj
        have hsz := HT.out.size
        clear HO HT HQ1
        go_wp2_with (at_builtin; refine wpList_append_any _ rfl (.tmp 33) (.tmp 41) 58 rfl 0 83 i0 _ 2 16 Try.underlying58 hi hz0 hz1 hz2 rfl (by decide) (.slice Ao m co) m _ rfl HO3.out _ (some ⟨wr.heap.size, 0, none⟩) 1 1 (secC [(p1, p2)]) rfl HR3.out (secC_one _) (by unfold maxLen; omega) (by omega) (Nat.zero_le _) ?_; intro v' w' u1 u2 u3)
        obtain ⟨A5, c5, rfl, _, _⟩ := own_slice u1
        have HO5 : Hid (w'.ownsRow 0 83 2 (.slice A5 (m + 1) c5) (m + 1) (secC (keepL f (s.queue.take (k + 1))))) := by
          rw [HN.out, secC_app]
          exact u1
        have HFR5 : Hid (∀ g, (Value.slice A5 (m + 1) c5).ownBlock = some g → W1.heap.size ≤ g) := fun g e => by
          rcases u3 with u3 | u3
          · exact HFR.out g (u3 ▸ e)
          · rw [u3] at e; cases e; simp; omega
        have HT5 := Lib.hid (HT3.out.grown u2 (fun g e => .inl (HFR.out g e)))
        clear u1 u2 u3 HO3 HR3 HT3 HN HFR q0 q1 d1
        go_wp2_with fail
        go_roundw
        case rel => exact ⟨k + 1, m + 1, A5, c5, by omega, by omega, by go_num, rfl, HO5, HFR5, HT5⟩
        case measure => simp [RowKit.intOf]; omega
    · obtain rfl : k = L := by omega
      have htk : s.queue.take k = s.queue := List.take_of_length_le (by rw [HL.out]; exact Nat.le_refl _)
      rw [htk] at HO
      have hb5 := HT.out.blk HK.out.blk (fun _ _ h => h)
      have f1 := hb5.frozen 1
      have hlen : (keepL f s.queue).length = m := by
        have h2 := HO.out.1
        rw [secC_len] at h2
        omega
      have hnew : ∀ g, (Value.slice Ao m co).ownBlock = some g → W1.heap.size ≤ g ∧ g < wr.heap.size := fun g e => ⟨HFR.out g e, (HO.out.lt g e).2⟩
      have TG := HT.out.giveV (v := .slice Ao m co) hnew 2
      have ob5 := TG.role hbl HK.out.ob
      have S5 := (Tr.refl (fun r => r = 0) TG.inb).setOwn (p := ⟨b, 1, none⟩) ob5 rfl (.slice Ao m co)
      have HE : Hid (REnd2 w own b (settleR s f t) (.tuple #[]) (.returned (.tuple #[])) (wr.setCell ⟨b, 1, none⟩ (.slice Ao m co))) := by
        refine ⟨rfl, _, fv1, .slice Ao m co, kv1, ⟨hb5.set_ 1 (.slice Ao m co), ob5, ?_, ?_, ?_, S5.inb⟩, HTR.out.trans ((TG.weak (fun _ _ => trivial)).trans (S5.weak (fun _ _ => trivial)))⟩
        · exact (HK.out.files.keep TG (fun h => h)).keep S5 (by decide)
        · have hr : Row wr (giveV own1 (.slice Ao m co) 2) 2 83 2 (.slice Ao m co) (keepL f s.queue).length (secC (keepL f s.queue)) := by
            rw [hlen]
            exact ⟨HO.out, fun g e => giveV_same e⟩
          exact hr.keep S5 (by decide)
        · exact (HK.out.keep.keep TG (fun h => h)).keep S5 (by decide)
      clear TG ob5 S5 HK hb5 HO HT HQ1 htk hlen hnew
      go_wp2_with fail
      go_end0
      exact HE.out

end Go.Proofs.Ytnnakclmeihonaa

/- The walks of the reference's New, Start, Lose, Arm. Conditions: sizes. -/
namespace Go.Proofs.Ytnnakclmeihonaa
open Go.RowKit Go.ChangeMaps

section
variable {w : World} {own : Nat → Option Nat} {b : Nat} {fv qv kv : Value} {s : Rs}
/-- The struct's own cells have turned, not its slices. -/
theorem Rk.struct (h : Rk w own b fv qv kv s) {w' : World} (t : Tr (fun r => r = 0) w own own w') (lost armed : Int) (down : Bool) (hb : Blk w' b 60 #[fv, qv, .int .i64 lost, .bool down, .int .i64 armed, kv]) : Rk w' own b fv qv kv { s with lost := lost, armed := armed, down := down } :=
  ⟨hb, h.ob, h.files.keep t (by decide), h.queue.keep t (by decide), h.keep.keep t (by decide), t.inb⟩
theorem Rk.set0 (h : Rk w own b fv qv kv s) (i : Nat) (u : Value) : Tr (fun r => r = 0) w own own (w.setCell ⟨b, i, none⟩ u) := (Tr.refl (fun r => r = 0) h.inb).setOwn (p := ⟨b, i, none⟩) (r := 0) h.ob rfl u

set_option maxHeartbeats 400000 in
theorem r_start (h : Rk w own b fv qv kv s) : Calls Try.prog 37 #[.pointer (some ⟨b, 0, none⟩)] w (REnd2 w own b { s with down := false } (.tuple #[])) := by
  have c3 := h.blk.cell 3
  have f3 := h.blk.frozen 3
  have HE : Hid (REnd2 w own b { s with down := false } (.tuple #[]) (.returned (.tuple #[])) (w.setCell ⟨b, 3, none⟩ (.bool false))) := ⟨rfl, own, fv, qv, kv, h.struct (h.set0 3 (.bool false)) s.lost s.armed false (h.blk.set_ 3 (.bool false)), (h.set0 3 (.bool false)).weak (fun _ _ => trivial)⟩
  clear h
  go_enter Try.func37, Try.ntmps37
  go_wp2
  go_end0
  exact HE.out

set_option maxHeartbeats 400000 in
theorem r_lose (h : Rk w own b fv qv kv s) (n : Int) : Calls Try.prog 34 #[.pointer (some ⟨b, 0, none⟩), .int .i64 n] w (REnd2 w own b { s with lost := max n 0 } (.tuple #[])) := by
  have c2 := h.blk.cell 2
  have f2 := h.blk.frozen 2
  by_cases hn : n < 0
  · have e : max n 0 = 0 := by omega
    rw [e]
    have HE : Hid (REnd2 w own b { s with lost := 0 } (.tuple #[]) (.returned (.tuple #[])) (w.setCell ⟨b, 2, none⟩ (.int .i64 0))) := ⟨rfl, own, fv, qv, kv, h.struct (h.set0 2 (.int .i64 0)) 0 s.armed s.down (h.blk.set_ 2 (.int .i64 0)), (h.set0 2 (.int .i64 0)).weak (fun _ _ => trivial)⟩
    clear h e
    go_enter Try.func34, Try.ntmps34
    go_wp2
    go_end0
    exact HE.out
  · have e : max n 0 = n := by omega
    rw [e]
    have HE : Hid (REnd2 w own b { s with lost := n } (.tuple #[]) (.returned (.tuple #[])) (w.setCell ⟨b, 2, none⟩ (.int .i64 n))) := ⟨rfl, own, fv, qv, kv, h.struct (h.set0 2 (.int .i64 n)) n s.armed s.down (h.blk.set_ 2 (.int .i64 n)), (h.set0 2 (.int .i64 n)).weak (fun _ _ => trivial)⟩
    clear h e
    go_enter Try.func34, Try.ntmps34
    go_wp2
    go_end0
    exact HE.out
end

def newR : Rs := ⟨[], [], 0, false, 0, []⟩
set_option maxHeartbeats 400000 in
theorem r_new (w : World) : Calls Try.prog 11 #[] w fun e w' => ∃ b own fv qv kv, e = .returned (.pointer (some ⟨b, 0, none⟩)) ∧ Rk w' own b fv qv kv newR ∧ Below w.heap.size w w' ∧ ∀ g r, own g = some r → w.heap.size ≤ g := by
  have HE : Hid (∃ b own fv qv kv, Ending.returned (.pointer (some ⟨w.heap.size, 0, none⟩)) = Ending.returned (.pointer (some ⟨b, 0, none⟩)) ∧ Rk (w.alloc (.cells #[.slice none 0 0, .slice none 0 0, .int .i64 0, .bool false, .int .i64 0, .slice none 0 0] 60)) own b fv qv kv newR ∧ Below w.heap.size w (w.alloc (.cells #[.slice none 0 0, .slice none 0 0, .int .i64 0, .bool false, .int .i64 0, .slice none 0 0] 60)) ∧ ∀ g r, own g = some r → w.heap.size ≤ g) := by
    have hone : ∀ g r, give (fun _ => none) w.heap.size 0 g = some r → g = w.heap.size := fun g r e => by
      by_cases h1 : g = w.heap.size
      · exact h1
      · rw [give_other h1] at e; cases e
    refine ⟨w.heap.size, give (fun _ => none) w.heap.size 0, _, _, _, rfl, ⟨Blk.new w _ _, give_same _ _ _, Row.nil _ _ _ _ _, Row.nil _ _ _ _ _, Row.nil _ _ _ _ _, fun g r e => ?_⟩, (Below.refl _ _).alloc (Nat.le_refl _) _, fun g r e => ?_⟩
    · rw [hone g r e]; simp
    · rw [hone g r e]; exact Nat.le_refl _
  go_enter Try.func11, Try.ntmps11
  go_wp2
  go_ret
  exact HE.out

end Go.Proofs.Ytnnakclmeihonaa

/- The walk of the reference's Read. Conditions: sizes. -/
namespace Go.Proofs.Ytnnakclmeihonaa
open Go.RowKit Go.ChangeMaps

def readR (s : Rs) (f a n : Int) : List UInt8 × Int :=
  if s.down = true then ([], 8) else if isF f = false then ([], 1) else if a < 0 ∨ n < 0 then ([], 1) else (((getR s.files f).now.drop a.toNat).take n.toNat, 0)
theorem bStr_cutR (D : List UInt8) (i j : Nat) : (bStr D).extract i j = bStr ((D.drop i).take (j - i)) := by
  have h : ((bStr D).extract i j).data = (bStr ((D.drop i).take (j - i))).data := by
    apply Array.toList_inj.1
    simp [bStr, ByteArray.data_extract, List.extract_eq_take_drop]
  cases h1 : (bStr D).extract i j with
  | mk d1 =>
    rw [h1] at h
    cases h2 : bStr ((D.drop i).take (j - i)) with
    | mk d2 =>
      rw [h2] at h
      simp only at h
      rw [h]

set_option maxRecDepth 4000 in
set_option maxHeartbeats 1000000 in
theorem r_read (w : World) (own : Nat → Option Nat) (b : Nat) (fv qv kv : Value) (s : Rs) (f a n : Int) (h : Rk w own b fv qv kv s) (hfl : s.files.length ≤ 1000000) (hz : (getR s.files f).now.length ≤ 16777216) :
    Calls Try.prog 21 #[.pointer (some ⟨b, 0, none⟩), .int .i64 f, .int .i64 a, .int .i64 n] w fun e w' => e = .returned (.tuple #[.string (bStr (readR s f a n).1), .int .i64 (readR s f a n).2]) ∧ Below w.heap.size w w' := by
  have HM := Lib.hid (r_may w own b fv qv kv s f h)
  have HG := Lib.hid (r_get w own b fv qv kv s f h hfl)
  clear h
  unfold readR
  by_cases hd : s.down = true
  · rw [if_pos hd] at HM
    rw [if_pos hd]
    go_enter Try.func21, Try.ntmps21
    go_wp2_with fail
    refine HM.out.mono ?_
    rintro e w1 ⟨rfl, rfl⟩
    go_wp2_with fail
    go_ret2
    exact ⟨rfl, Below.refl _ _⟩
  · rw [if_neg hd] at HM
    rw [if_neg hd]
    by_cases hf : isF f = false
    · rw [if_pos hf] at HM
      rw [if_pos hf]
      go_enter Try.func21, Try.ntmps21
      go_wp2_with fail
      refine HM.out.mono ?_
      rintro e w1 ⟨rfl, rfl⟩
      go_wp2_with fail
      go_ret2
      exact ⟨rfl, Below.refl _ _⟩
    · rw [if_neg hf] at HM
      rw [if_neg hf]
      have hcs : a < 0 ∨ (¬ a < 0 ∧ n < 0) ∨ (¬ a < 0 ∧ ¬ n < 0) := by omega
      rcases hcs with h1 | ⟨h1, h2⟩ | ⟨h1, h2⟩
      · rw [if_pos (.inl h1)]
        go_enter Try.func21, Try.ntmps21
        go_wp2_with fail
        refine HM.out.mono ?_
        rintro e w1 ⟨rfl, rfl⟩
        go_wp2_with fail
        go_ret2
        exact ⟨rfl, Below.refl _ _⟩
      · rw [if_pos (.inr h2)]
        go_enter Try.func21, Try.ntmps21
        go_wp2_with fail
        refine HM.out.mono ?_
        rintro e w1 ⟨rfl, rfl⟩
        go_wp2_with fail
        go_ret2
        exact ⟨rfl, Below.refl _ _⟩
      · rw [if_neg (by omega)]
        obtain ⟨x, rfl⟩ := Int.eq_ofNat_of_zero_le (show 0 ≤ a by omega)
        obtain ⟨y, rfl⟩ := Int.eq_ofNat_of_zero_le (show 0 ≤ n by omega)
        rw [Int.toNat_natCast, Int.toNat_natCast]
        generalize getR s.files f = g at *
        unfold flV at HG
        have hq : ∀ (w : World) (a b c : Value), (Instr.field 66 (.agg #[a, b, c]) 1).run Try.prog w = .ok b w := fun w a b c => by kernel_rfl
        obtain ⟨D, hD⟩ : ∃ D, g.now = D := ⟨_, rfl⟩
        rw [hD] at HG hz
        rw [hD]
        have q1 := bStr_size D
        have q2 := fun i j => bStr_cutR D i j
        have HQ2 := Lib.hid q2
        clear q2
        by_cases hx : D.length ≤ x
        · have hx' : (D.length : Int) ≤ (x : Int) := by omega
          have hr : (D.drop x).take y = [] := by rw [List.drop_eq_nil_of_le hx, List.take_nil]
          rw [hr]
          clear hr
          go_enter Try.func21, Try.ntmps21
          go_wp2_with fail
          refine HM.out.mono ?_
          rintro e w1 ⟨rfl, rfl⟩
          go_wp2_with fail
          refine HG.out.mono ?_
          rintro e w2 ⟨rfl, b2⟩
          have HB := Lib.hid b2
          clear b2
          go_wp2_with fail
          go_ret2
          exact ⟨rfl, HB.out⟩
        · have hx' : ¬ (D.length : Int) ≤ (x : Int) := by omega
          by_cases hy : D.length - x < y
          · have hy' : ((D.length : Int) - (x : Int)) < (y : Int) := by omega
            have hr : (D.drop x).take y = (D.drop x).take (x + (D.length - x) - x) := by rw [List.take_of_length_le (by rw [List.length_drop]; omega), List.take_of_length_le (by rw [List.length_drop]; omega)]
            rw [hr, ← HQ2.out x (x + (D.length - x))]
            clear hr
            go_enter Try.func21, Try.ntmps21
            go_wp2_with fail
            refine HM.out.mono ?_
            rintro e w1 ⟨rfl, rfl⟩
            go_wp2_with fail
            refine HG.out.mono ?_
            rintro e w2 ⟨rfl, b2⟩
            have HB := Lib.hid b2
            clear b2
            go_wp2_with fail
            go_ret2
            exact ⟨by first | rfl | (rw [show x + (D.length - x) = D.length from by omega]; rfl), HB.out⟩
          · have hy' : ¬ ((D.length : Int) - (x : Int)) < (y : Int) := by omega
            have hr : (D.drop x).take y = (D.drop x).take (x + y - x) := by rw [show x + y - x = y from by omega]
            rw [hr, ← HQ2.out x (x + y)]
            clear hr
            go_enter Try.func21, Try.ntmps21
            go_wp2_with fail
            refine HM.out.mono ?_
            rintro e w1 ⟨rfl, rfl⟩
            go_wp2_with fail
            refine HG.out.mono ?_
            rintro e w2 ⟨rfl, b2⟩
            have HB := Lib.hid b2
            clear b2
            go_wp2_with fail
            go_ret2
            exact ⟨rfl, HB.out⟩

end Go.Proofs.Ytnnakclmeihonaa
