/- The walks of lexer's Quote, name, number. Conditions: the variables that the calls read; lengths. -/
import Derived.Test.YtkhkdgkafocpoaaDoorL4
import Derived.Laws.NewBlocks
namespace Go.Proofs.YtkhkdgkafocpoaaDoor
set_option maxRecDepth 8000
open Go.RowKit

/-- How Quote ends. -/
def QuoteEnd (l : List UInt8) (w : World) (e : Ending) (w' : World) : Prop :=
  e = .returned (if valueP l then .tuple #[.string ⟨(quoP l).toArray⟩, .bool true] else .tuple #[.string ⟨#[]⟩, .bool false]) ∧ Below w.heap.size w w'
set_option maxHeartbeats 1000000 in
theorem Quote_any (s : ByteArray) (w : World) (hs : s.size ≤ 268435456) (hE : Hid (Env w)) :
    Calls Tryd.prog 15 #[.string s] w (QuoteEnd s.data.toList w) := by
  have HB : Hid (Below w.heap.size w w) := Below.refl _ _
  have c1 := isValue_any s w (by omega)
  cases hv : valueP s.data.toList
  · have HV := Lib.hid hv
    rw [hv] at c1
    have C1 := Lib.hid c1
    clear c1 hv
    go_enter Tryd.func15, Tryd.ntmps15
    go_wp2_with (go_at_call 34; refine C1.out.mono ?_; rintro e w' ⟨rfl, rfl⟩)
    go_ret2
    exact ⟨by rw [HV.out]; rfl, HB.out⟩
  · have HV := Lib.hid hv
    rw [hv] at c1
    have C1 := Lib.hid c1
    have C2 := Lib.hid (inQuotes_any s w hs hE)
    clear c1 hv
    go_enter Tryd.func15, Tryd.ntmps15
    go_wp2_with (first | (go_at_call 34; refine C1.out.mono ?_; rintro e w' ⟨rfl, rfl⟩) | (go_at_call 35; refine C2.out.mono ?_; rintro e w' ⟨rfl, hb⟩; have HBB := Lib.hid hb; clear hb))
    go_ret2
    exact ⟨by rw [HV.out]; rfl, HBB.out⟩

/-- A token as a value. -/
def tokV (k : Int) (s : ByteArray) (n p : Int) : Value := .agg #[.int .i64 k, .string s, .int .i64 n, .int .i64 p]
def zeroTok : Value := .agg #[.int .i64 0, .string ⟨#[]⟩, .int .i64 0, .int .i64 0]
/-- How a function that reads the first token ends. -/
def FirstEnd (f : First) (w : World) (e : Ending) (w' : World) : Prop :=
  e = .returned (match f with
    | .tok t n => .tuple #[tokV t.kind ⟨t.text.toArray⟩ t.n 0, .int .i64 (n : Int), .int .i64 0]
    | .bad x => .tuple #[zeroTok, .int .i64 0, .int .i64 x]) ∧ Below w.heap.size w w'
theorem FirstEnd.no {f : First} {x : Int} {w w' : World} {e : Ending} (h : Hid (f = .bad x)) (he : e = .returned (.tuple #[zeroTok, .int .i64 0, .int .i64 x])) (hb : Below w.heap.size w w') : FirstEnd f w e w' := by
  refine ⟨?_, hb⟩
  rw [h.out]; exact he
theorem str_mk (s : ByteArray) : (⟨s.data.toList.toArray⟩ : ByteArray) = s := by cases s; simp
theorem FirstEnd.yes {f : First} {k n : Int} {s : ByteArray} {m : Nat} {w w' : World} {e : Ending} (h : Hid (f = .tok ⟨k, s.data.toList, n, 0⟩ m)) (he : e = .returned (.tuple #[tokV k s n 0, .int .i64 (m : Int), .int .i64 0])) (hb : Below w.heap.size w w') : FirstEnd f w e w' := by
  refine ⟨?_, hb⟩
  rw [h.out, he]
def nameF (l : List UInt8) : First := if nameP l then .tok ⟨0, l, 0, 0⟩ l.length else .bad 3
set_option maxHeartbeats 1000000 in
theorem name_any (s : ByteArray) (w : World) (hs : s.size ≤ 268435456) :
    Calls Tryd.prog 42 #[.string s] w (FirstEnd (nameF s.data.toList) w) := by
  have c1 : ∀ w, _ := fun w => Name_any s w (by omega)
  cases hv : nameP s.data.toList
  · have hres : Hid (nameF s.data.toList = .bad 3) := by
      show _ = _
      unfold nameF; rw [hv]; rfl
    rw [hv] at c1
    have C1 := Lib.hid c1
    clear c1 hv
    go_enter Tryd.func42, Tryd.ntmps42
    go_wp2_with (go_at_call 18; refine (C1.out _).mono ?_; rintro e w' ⟨rfl, rfl⟩)
    refine bodyPost_ret (v := .tuple #[zeroTok, .int .i64 0, .int .i64 3]) (by simp [results, Tryd.results42, go_sem, zeroTok]) rfl (FirstEnd.no hres rfl ?_)
    exact (Below.refl _ _).alloc (Nat.le_refl _) _
  · have hl : s.data.toList.length = s.size := by simp
    have hres : Hid (nameF s.data.toList = .tok ⟨0, s.data.toList, 0, 0⟩ s.size) := by
      show _ = _
      unfold nameF; rw [hv, hl]; rfl
    rw [hv] at c1
    have C1 := Lib.hid c1
    clear c1 hv hl
    go_enter Tryd.func42, Tryd.ntmps42
    go_wp2_with (go_at_call 18; refine (C1.out _).mono ?_; rintro e w' ⟨rfl, rfl⟩)
    refine bodyPost_ret (v := .tuple #[tokV 0 s 0 0, .int .i64 (s.size : Int), .int .i64 0]) (by simp [results, Tryd.results42, go_sem, tokV]) rfl (FirstEnd.yes hres rfl ?_)
    exact (Below.refl _ _).alloc (Nat.le_refl _) _
def numF (l : List UInt8) : First := match numP l with | some n => .tok ⟨1, l, n, 0⟩ l.length | none => .bad 3
def tok0 : Array Value := #[.int .i64 0, .string ⟨#[]⟩, .int .i64 0, .int .i64 0]
theorem below_set {B g : Nat} {a w : World} (h : Below B a w) (hg : B ≤ g) (i : Nat) (u : Value) : Below B a (w.setCell ⟨g, i, none⟩ u) := h.setCell (p := ⟨g, i, none⟩) hg u
theorem tok_cells {w : World} {g : Nat} (h : Blk w g 25 tok0) : w.cell? ⟨g, 0, none⟩ = some (.int .i64 0) ∧ w.cell? ⟨g, 1, none⟩ = some (.string ⟨#[]⟩) ∧ w.cell? ⟨g, 2, none⟩ = some (.int .i64 0) ∧ w.cell? ⟨g, 3, none⟩ = some (.int .i64 0) ∧
    w.frozen? ⟨g, 0, none⟩ = false ∧ w.frozen? ⟨g, 1, none⟩ = false ∧ w.frozen? ⟨g, 2, none⟩ = false ∧ w.frozen? ⟨g, 3, none⟩ = false :=
  ⟨h.cell 0, h.cell 1, h.cell 2, h.cell 3, h.frozen 0, h.frozen 1, h.frozen 2, h.frozen 3⟩
set_option maxHeartbeats 1000000 in
theorem number_any (s : ByteArray) (w : World) (hs : s.size ≤ 268435456) (hE : Hid (Env w)) :
    Calls Tryd.prog 43 #[.string s] w (FirstEnd (numF s.data.toList) w) := by
  have hb0 : Below w.heap.size w (w.alloc (.cells tok0 25)) := (Below.refl _ _).alloc (Nat.le_refl _) _
  have HB0 := Lib.hid hb0
  have c1 := Number_any s (w.alloc (.cells tok0 25)) (by omega) (hE.out.on hb0)
  have hblk : Blk (w.alloc (.cells tok0 25)) w.heap.size 25 tok0 := Blk.new _ _ _
  have HK := Lib.hid hblk
  clear hb0 hblk
  unfold NumEnd at c1
  cases hv : numP s.data.toList
  · have hres : Hid (numF s.data.toList = .bad 3) := by
      show _ = _
      unfold numF; rw [hv]
    rw [hv] at c1
    have C1 := Lib.hid c1
    clear c1 hv
    go_enter Tryd.func43, Tryd.ntmps43
    go_wp2_with fail
    refine C1.out.mono ?_
    rintro e w1 ⟨rfl, hb⟩
    have k1 : Blk w1 w.heap.size 25 tok0 := HK.out.below hb (by simp)
    have HB1 : Hid (Below w.heap.size w w1) := HB0.out.trans (hb.mono (by simp))
    obtain ⟨q0, q1, q2, q3, f0, f1, f2, f3⟩ := tok_cells k1
    have KK := Lib.hid k1
    clear k1 hb
    go_wp2_with fail
    refine bodyPost_ret (v := .tuple #[zeroTok, .int .i64 0, .int .i64 3]) (by simp [results, Tryd.results43, go_sem, zeroTok, q0, q1, q2, q3]) rfl (FirstEnd.no hres rfl ?_)
    repeat (refine below_set ?_ (Nat.le_refl _) _ _)
    exact HB1.out
  · rename_i n
    have hl : s.data.toList.length = s.size := by simp
    have hres : Hid (numF s.data.toList = .tok ⟨1, s.data.toList, (n : Int), 0⟩ s.size) := by
      show _ = _
      unfold numF; rw [hv, hl]
    rw [hv] at c1
    have C1 := Lib.hid c1
    clear c1 hv hl
    go_enter Tryd.func43, Tryd.ntmps43
    go_wp2_with fail
    refine C1.out.mono ?_
    rintro e w1 ⟨rfl, hb⟩
    have k1 : Blk w1 w.heap.size 25 tok0 := HK.out.below hb (by simp)
    have HB1 : Hid (Below w.heap.size w w1) := HB0.out.trans (hb.mono (by simp))
    obtain ⟨q0, q1, q2, q3, f0, f1, f2, f3⟩ := tok_cells k1
    have KK := Lib.hid k1
    clear k1 hb
    go_wp2_with fail
    refine bodyPost_ret (v := .tuple #[tokV 1 s n 0, .int .i64 (s.size : Int), .int .i64 0]) (by simp [results, Tryd.results43, go_sem, tokV, q0, q1, q2, q3]) rfl (FirstEnd.yes hres rfl ?_)
    repeat (refine below_set ?_ (Nat.le_refl _) _ _)
    exact HB1.out
end Go.Proofs.YtkhkdgkafocpoaaDoor
