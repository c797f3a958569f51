/- The walk of lexer's Print. Conditions: the variables that the calls read; lengths. -/
import Derived.Test.YtkhkdgkafocpoaaDoorL8
import Derived.Laws.MakeOwn
namespace Go.Proofs.YtkhkdgkafocpoaaDoor
set_option maxRecDepth 8000
open Go.RowKit

/-- A token as an argument: any ints. -/
structure ATok where
  kind : Int
  text : List UInt8
  n : Int
  pos : Int
def aC (t : ATok) : List Value := [.int .i64 t.kind, .string ⟨t.text.toArray⟩, .int .i64 t.n, .int .i64 t.pos]
def arC (l : List ATok) : List Value := l.flatMap aC
def toA (t : Tok) : ATok := ⟨t.kind, t.text, t.n, (t.pos : Int)⟩
theorem tokC_arC (ts : List Tok) : tokC ts = arC (ts.map toA) := by
  rw [arC, List.flatMap_map]; rfl
theorem arC_len (ts : List ATok) : (arC ts).length = ts.length * 4 := by
  induction ts with
  | nil => rfl
  | cons t ts ih =>
    have : arC (t :: ts) = aC t ++ arC ts := rfl
    rw [this, List.length_append, ih, List.length_cons]
    show 4 + _ = _
    omega
theorem arC_at : ∀ (ts : List ATok) (k : Nat) (h : k < ts.length), (arC ts)[k * 4]? = some (.int .i64 ts[k].kind) ∧ (arC ts)[k * 4 + 1]? = some (.string ⟨ts[k].text.toArray⟩) ∧ (arC ts)[k * 4 + 2]? = some (.int .i64 ts[k].n) ∧ (arC ts)[k * 4 + 3]? = some (.int .i64 ts[k].pos) := by
  intro ts
  induction ts with
  | nil => intro k h; simp at h
  | cons t ts ih =>
    intro k h
    have e : arC (t :: ts) = .int .i64 t.kind :: .string ⟨t.text.toArray⟩ :: .int .i64 t.n :: .int .i64 t.pos :: arC ts := rfl
    cases k with
    | zero => rw [e]; exact ⟨rfl, rfl, rfl, rfl⟩
    | succ k =>
      obtain ⟨h1, h2, h3, h4⟩ := ih k (by simpa using h)
      rw [e, show (k + 1) * 4 = k * 4 + 1 + 1 + 1 + 1 from by omega]
      exact ⟨h1, h2, h3, h4⟩
def wrA (t : ATok) : List UInt8 := if t.kind = 2 then quoP t.text else t.text
def printA : List ATok → List UInt8
  | [] => []
  | [t] => wrA t
  | t :: u :: r => wrA t ++ 32 :: printA (u :: r)
theorem printA_P : ∀ ts : List Tok, printA (ts.map toA) = printP ts
  | [] => rfl
  | [_] => rfl
  | t :: u :: r => by
    have h := printA_P (u :: r)
    show wrA (toA t) ++ 32 :: printA ((u :: r).map toA) = _
    rw [h]; rfl
theorem add_cell (ad : Addr) (m j : Nat) (hj : 0 < j) : (⟨(ad.add m).block, (ad.add m).off + j, none⟩ : Addr) = ad.add (m + j) := by
  unfold Addr.add
  by_cases hm : m = 0
  · subst hm; rw [if_pos rfl, if_neg (by omega), Nat.zero_add]
  · rw [if_neg hm, if_neg (by omega), Nat.add_assoc]
/-- A slice of tokens that came in, at one place. -/
theorem tok_at {w : World} {B n k : Nat} {A : Option Addr} {l : List ATok} (h : Reads w B 4 A n (arC l)) (hn : l.length = n) (hk : k < n) :
    ∃ ad, A = some ad ∧ ad.block < B ∧ w.cell? (ad.add (k * 4)) = some (.int .i64 (l[k]'(by omega)).kind) ∧ w.cell? (ad.add (k * 4 + 1)) = some (.string ⟨(l[k]'(by omega)).text.toArray⟩) ∧ w.cell? (ad.add (k * 4 + 2)) = some (.int .i64 (l[k]'(by omega)).n) ∧ w.cell? (ad.add (k * 4 + 3)) = some (.int .i64 (l[k]'(by omega)).pos) := by
  obtain ⟨ad, e, hb, hc⟩ := h.2 (by omega)
  obtain ⟨h1, h2, h3, h4⟩ := arC_at l k (by omega)
  exact ⟨ad, e, hb, hc _ _ h1, hc _ _ h2, hc _ _ h3, hc _ _ h4⟩
theorem escP_length (v : List UInt8) : (escP v).length ≤ 2 * v.length := by
  induction v with
  | nil => simp [escP]
  | cons b v ih => rw [escP]; split <;> simp only [List.length_cons] <;> omega
theorem wrA_length (t : ATok) : (wrA t).length ≤ 2 * t.text.length + 2 := by
  have := escP_length t.text
  unfold wrA quoP
  split
  · simp only [List.length_cons, List.length_append, List.length_nil]; omega
  · omega
theorem printA_length : ∀ l : List ATok, (∀ t ∈ l, t.text.length ≤ 4096) → (printA l).length ≤ 8200 * l.length
  | [], _ => by simp [printA]
  | [t], h => by
    have := wrA_length t
    have := h t (by simp)
    simp only [printA, List.length_cons, List.length_nil]; omega
  | t :: u :: r, h => by
    have h1 := wrA_length t
    have h2 := h t (by simp)
    have h3 := printA_length (u :: r) (fun x hx => h x (List.mem_cons_of_mem _ hx))
    simp only [printA, List.length_append, List.length_cons] at h3 ⊢
    omega
theorem join_print : ∀ l : List ATok, Lib.join (l.map wrA) [32] = printA l
  | [] => rfl
  | [t] => by simp [printA, Lib.join]
  | t :: u :: r => by
    have h := join_print (u :: r)
    rw [List.map_cons, Lib.join_cons] at h
    rw [List.map_cons, List.map_cons, Lib.join_cons, printA, ← h]
    show wrA t ++ (([32] ++ wrA u) ++ Lib.joinTail [32] (r.map wrA)) = _
    simp
theorem join_any {l : List ATok} {n : Nat} {w wr : World} {cs : Array Value} (hn : l.length = n) (h0 : 0 < n) (hn4 : n ≤ 4096) (ht : ∀ t ∈ l, t.text.length ≤ 4096) (hk : Blk wr w.heap.size 9 cs) (hcs : cs.size = n)
    (hd : ∀ (j : Nat) (t : ATok), j < n → l[j]? = some t → cs[j]? = some (.string ⟨(wrA t).toArray⟩)) :
    Calls Tryd.prog 40 #[.slice (some ⟨w.heap.size, 0, none⟩) n n, .string ⟨#[32]⟩] wr fun e w' => e = .returned (.string ⟨(printA l).toArray⟩) ∧ Below wr.heap.size wr w' := by
  have hxl : (l.map fun t => (⟨(wrA t).toArray⟩ : ByteArray)).length = n := by rw [List.length_map]; exact hn
  have hmm : (l.map fun t => (⟨(wrA t).toArray⟩ : ByteArray)).map (·.data.toList) = l.map wrA := by rw [List.map_map]; apply List.map_congr_left; intro t _; simp
  have hlen := printA_length l ht
  have hj := join_print l
  have h := Tryd.strings_Join w.heap.size 0 n (l.map fun t => (⟨(wrA t).toArray⟩ : ByteArray)) ⟨#[32]⟩ wr (fun j x hx => by
    rw [List.getElem?_map] at hx
    obtain ⟨t, ht2, rfl⟩ := Option.map_eq_some_iff.1 hx
    have hjn : j < n := by rw [← hn]; exact (List.getElem?_eq_some_iff.1 ht2).1
    rw [Nat.zero_add, hk.cell j]
    exact hd j t hjn ht2) hk.lt (by rw [hxl]; omega) (by rw [hxl]; exact Nat.le_refl _) (by
    rw [hmm]
    show (Lib.join (l.map wrA) [32]).length ≤ _
    rw [hj]; omega)
  rw [hxl, hmm] at h
  have h2 : Lib.join (l.map wrA) (⟨#[32]⟩ : ByteArray).data.toList = printA l := hj
  rw [h2] at h
  exact h
set_option maxHeartbeats 4000000 in
theorem Print_any (A : Option Addr) (n c B : Nat) (l : List ATok) (w : World) (hr : Hid (Reads w B 4 A n (arC l))) (hB : B ≤ w.heap.size) (hn : Hid (l.length = n)) (hn4 : n ≤ 4096) (ht : Hid (∀ t ∈ l, t.text.length ≤ 4096)) (hE : Hid (Env w)) :
    Calls Tryd.prog 20 #[.slice A n c] w fun e w' => e = .returned (.string ⟨(printA l).toArray⟩) ∧ Below w.heap.size w w' := by
  have hmk := fun wx => run_make_row' (P := Tryd.prog) 50 9 (.string ⟨#[]⟩) 16 Tryd.underlying50 (by kernel_rfl) (by simp [Value.cells]) .i64 .i64 n (by omega) (by omega) wx
  go_enter Tryd.func20, Tryd.ntmps20
  go_wp2_with fail
  have hk0 : Blk (w.alloc (.cells (madeCells #[.string ⟨#[]⟩] n) 9)) w.heap.size 9 (madeCells #[.string ⟨#[]⟩] n) := Blk.new _ _ _
  have hb0 : Below w.heap.size w (w.alloc (.cells (madeCells #[.string ⟨#[]⟩] n) 9)) := (Below.refl _ _).alloc (Nat.le_refl _) _
  have hz0 : w.heap.size < (w.alloc (.cells (madeCells #[.string ⟨#[]⟩] n) 9)).heap.size := by simp
  obtain ⟨cs0, hcs0⟩ : ∃ cs0 : Array Value, cs0 = madeCells #[.string ⟨#[]⟩] n := ⟨_, rfl⟩
  have hcz : Hid (cs0.size = n) := by
    show _ = _
    rw [hcs0]
    simp [madeCells]
  rw [← hcs0] at hk0 hb0 hz0 ⊢
  obtain ⟨w1, hw1⟩ : ∃ w1, w1 = w.alloc (.cells cs0 9) := ⟨_, rfl⟩
  rw [← hw1] at hk0 hb0 hz0 ⊢
  have HK0 := Lib.hid hk0
  have HB0 := Lib.hid hb0
  clear hcs0 hw1 hk0 hb0 hmk
  go_loopw [11] (fun i wr => ∃ (k : Nat) (cs : Array Value), k ≤ n ∧ i = .int .i64 k ∧ Hid (cs.size = n) ∧ Hid (Blk wr w.heap.size 9 cs) ∧ Hid (∀ (j : Nat) (t : ATok), j < k → l[j]? = some t → cs[j]? = some (.string ⟨(wrA t).toArray⟩)) ∧ Hid (Below w.heap.size w wr) ∧ w.heap.size < wr.heap.size) (fun i _ => n - (RowKit.intOf i).toNat)
  case atStart => exact ⟨0, cs0, Nat.zero_le _, rfl, hcz, HK0.out, (fun j t h => by omega), HB0.out, hz0⟩
  case round =>
    clear hcz HK0 HB0 hz0 w1
    obtain ⟨k, cs, hk, rfl, HCS, HK, HD, HB, hz⟩ := hrel
    by_cases hlt : k < n
    · obtain ⟨ad, rfl, hab, q0, q1, q2, q3⟩ := tok_at (hr.out.below (HB.out.mono hB)) hn.out hlt
      obtain ⟨t, htl⟩ : ∃ t, l[k]'(by have := hn.out; omega) = t := ⟨_, rfl⟩
      rw [htl] at q0 q1 q2 q3
      rw [← add_cell _ _ _ (by omega)] at q1 q2 q3
      have HTL : Hid (l[k]? = some t) := by
        show _ = _
        rw [List.getElem?_eq_getElem (by have := hn.out; omega), htl]
      have hfz := HK.out.frozen k
      obtain ⟨u0, hu0⟩ : ∃ u0, wr.cell? ⟨w.heap.size, k, none⟩ = some u0 := by
        rw [HK.out.cell k]
        exact ⟨_, Array.getElem?_eq_getElem (by rw [HCS.out]; exact hlt)⟩
      clear htl
      have HTM : Hid (t.text.length ≤ 4096) := ht.out t (List.mem_of_getElem? HTL.out)
      have HK2 : Hid (Blk ((wr.setCell ⟨w.heap.size, k, none⟩ (.string ⟨t.text.toArray⟩)).alloc (.cells #[.int .i64 t.kind, .string ⟨t.text.toArray⟩, .int .i64 t.n, .int .i64 t.pos] 25)) w.heap.size 9 (cs.setIfInBounds k (.string ⟨t.text.toArray⟩))) := (HK.out.set_ k _).alloc _
      have HB2 : Hid (Below w.heap.size w ((wr.setCell ⟨w.heap.size, k, none⟩ (.string ⟨t.text.toArray⟩)).alloc (.cells #[.int .i64 t.kind, .string ⟨t.text.toArray⟩, .int .i64 t.n, .int .i64 t.pos] 25))) := (below_set HB.out (Nat.le_refl _) k _).alloc (by simpa [World.setCell] using Nat.le_of_lt hz) _
      have hz2 : w.heap.size < ((wr.setCell ⟨w.heap.size, k, none⟩ (.string ⟨t.text.toArray⟩)).alloc (.cells #[.int .i64 t.kind, .string ⟨t.text.toArray⟩, .int .i64 t.n, .int .i64 t.pos] 25)).heap.size := by simp [World.setCell]; omega
      by_cases hkd : t.kind = 2
      · have hkb : (t.kind == 2) = true := by simpa using hkd
        have hwr : Hid (wrA t = quoP t.text) := by
          show _ = _
          rw [wrA, if_pos hkd]
        have C := Lib.hid (inQuotes_any ⟨t.text.toArray⟩ ((wr.setCell ⟨w.heap.size, k, none⟩ (.string ⟨t.text.toArray⟩)).alloc (.cells #[.int .i64 t.kind, .string ⟨t.text.toArray⟩, .int .i64 t.n, .int .i64 t.pos] 25)) (by rw [size_mk]; have := HTM.out; omega) (hE.out.on HB2.out))
        rw [show (⟨t.text.toArray⟩ : ByteArray).data.toList = t.text by simp] at C
        clear hkd
        go_wp2_with fail
        refine C.out.mono ?_
        rintro e w3 ⟨rfl, hb⟩
        have hk3 := HK2.out.below hb hz2
        have HB3 : Hid (Below w.heap.size w w3) := HB2.out.trans (hb.mono (Nat.le_of_lt hz2))
        have hz3 : w.heap.size < w3.heap.size := by have := hb.size; omega
        have g0 : w3.cell? ⟨w.heap.size, k, none⟩ = some (.string ⟨t.text.toArray⟩) := by
          rw [hk3.cell k]
          simp [show k < cs.size by rw [HCS.out]; exact hlt]
        have g1 := hk3.frozen k
        have HK3 : Hid (Blk (w3.setCell ⟨w.heap.size, k, none⟩ (.string ⟨(quoP t.text).toArray⟩)) w.heap.size 9 ((cs.setIfInBounds k (.string ⟨t.text.toArray⟩)).setIfInBounds k (.string ⟨(quoP t.text).toArray⟩))) := hk3.set_ k _
        have HD3 : Hid (∀ (j : Nat) (u : ATok), j < k + 1 → l[j]? = some u → ((cs.setIfInBounds k (.string ⟨t.text.toArray⟩)).setIfInBounds k (.string ⟨(quoP t.text).toArray⟩))[j]? = some (.string ⟨(wrA u).toArray⟩)) := by
          intro j u hj hu
          by_cases e : j = k
          · subst e
            rw [HTL.out] at hu
            injection hu with hu
            subst hu
            rw [hwr.out]
            simp [show j < cs.size by rw [HCS.out]; exact hlt]
          · rw [Array.getElem?_setIfInBounds_ne (by omega), Array.getElem?_setIfInBounds_ne (by omega)]
            exact HD.out j u (by omega) hu
        clear hk3 hb hz2
        go_wp2_with fail
        go_roundw
        case rel => exact ⟨k + 1, _, by omega, by go_num, (by show _ = _; simp [HCS.out]), HK3.out, HD3.out, below_set HB3.out (Nat.le_refl _) k _, by simp [World.setCell]; omega⟩
        case measure => simp [RowKit.intOf]; omega
      · have hkb : (t.kind == 2) = false := by simpa using hkd
        have hwr : Hid (wrA t = t.text) := by
          show _ = _
          rw [wrA, if_neg hkd]
        have HD2 : Hid (∀ (j : Nat) (u : ATok), j < k + 1 → l[j]? = some u → (cs.setIfInBounds k (.string ⟨t.text.toArray⟩))[j]? = some (.string ⟨(wrA u).toArray⟩)) := by
          intro j u hj hu
          by_cases e : j = k
          · subst e
            rw [HTL.out] at hu
            injection hu with hu
            subst hu
            rw [hwr.out]
            simp [show j < cs.size by rw [HCS.out]; exact hlt]
          · rw [Array.getElem?_setIfInBounds_ne (by omega)]
            exact HD.out j u (by omega) hu
        clear hkd
        go_wp2_with fail
        go_roundw
        case rel => exact ⟨k + 1, _, by omega, by go_num, (by show _ = _; simp [HCS.out]), HK2.out, HD2.out, HB2.out, hz2⟩
        case measure => simp [RowKit.intOf]; omega
    · obtain rfl : k = n := by omega
      rcases Nat.eq_zero_or_pos k with h0 | h0
      · subst h0
        have hl0 : Hid (printA l = []) := by
          have : l = [] := List.eq_nil_of_length_eq_zero hn.out
          show _ = _
          rw [this]; rfl
        have J := Lib.hid (Tryd.strings_Join_none (some ⟨w.heap.size, 0, none⟩) 0 ⟨#[32]⟩ wr)
        go_wp2_with fail
        refine J.out.mono ?_
        rintro e w3 ⟨rfl, rfl⟩
        go_wp2_with fail
        go_ret
        exact ⟨by rw [hl0.out]; rfl, HB.out⟩
      · have J := Lib.hid (join_any hn.out h0 hn4 ht.out HK.out HCS.out HD.out)
        go_wp2_with fail
        refine J.out.mono ?_
        rintro e w3 ⟨rfl, hb⟩
        have HB3 : Hid (Below w.heap.size w w3) := HB.out.trans (hb.mono HB.out.size)
        clear hb
        go_wp2_with fail
        go_ret
        exact ⟨rfl, HB3.out⟩
end Go.Proofs.YtkhkdgkafocpoaaDoor
