/- The journal's laws' operations in memory; the walks of few, texts, and Sync. Conditions: what the arguments read as. -/
import Derived.Test.YtnnakclmeihonaaDoorJy
import Derived.StillTailTactics
namespace Go.Proofs.YtnnakclmeihonaaDoor
set_option maxRecDepth 8000
open Go.RowKit Go.ChangeMaps

structure Oq where
  d : Int
  s : ByteArray
  n : Int
  keep : List Int
structure Oq.Fits (x : Oq) : Prop where
  d : I64 x.d
  n : I64 x.n
  s : x.s.size ≤ 9223372036854775807
  keep : x.keep.length ≤ 9223372036854775807

/-- The four fields of an operation, and where its list lies. -/
def OqIs (w : World) (B : Nat) (x : Oq) (v0 v1 v2 v3 : Value) : Prop :=
  ∃ A c, v0 = .int .i64 x.d ∧ v1 = .string x.s ∧ v2 = .int .i64 x.n ∧ v3 = .slice A x.keep.length c ∧ Reads w B 1 A x.keep.length (inV x.keep)
/-- A slice of operations: element i lies at i times 4 cells. -/
def OsIs (w : World) (B : Nat) (A : Option Addr) (n : Nat) (xs : List Oq) : Prop :=
  xs.length = n ∧ (0 < n → ∃ ad, A = some ad ∧ ad.block < B ∧ ∀ i (h : i < xs.length), ∃ v0 v1 v2 v3, OqIs w B xs[i] v0 v1 v2 v3 ∧ w.cell? (ad.add (i * 4)) = some v0 ∧ w.cell? (ad.add (i * 4 + 1)) = some v1 ∧ w.cell? (ad.add (i * 4 + 2)) = some v2 ∧ w.cell? (ad.add (i * 4 + 3)) = some v3)
theorem OsIs.below {w w' : World} {B n : Nat} {A : Option Addr} {xs : List Oq} (h : OsIs w B A n xs) (hb : Below B w w') : OsIs w' B A n xs := by
  refine ⟨h.1, fun hp => ?_⟩
  obtain ⟨ad, rfl, hlt, hx⟩ := h.2 hp
  refine ⟨ad, rfl, hlt, fun i hi => ?_⟩
  obtain ⟨v0, v1, v2, v3, ⟨A1, c1, e0, e1, e2, e3, hr⟩, g0, g1, g2, g3⟩ := hx i hi
  have k : ∀ j, w'.cell? (ad.add j) = w.cell? (ad.add j) := fun j => hb.cell (by rw [block_of_add]; exact hlt)
  exact ⟨v0, v1, v2, v3, ⟨A1, c1, e0, e1, e2, e3, hr.below hb⟩, (k _).trans g0, (k _).trans g1, (k _).trans g2, (k _).trans g3⟩
theorem OsIs.at_ {w : World} {B n k : Nat} {A : Option Addr} {xs : List Oq} (h : OsIs w B A n xs) (hk : k < n) : ∃ (ad : Addr) (x : Oq), A = some ad ∧ ad.block < B ∧ xs[k]? = some x ∧ ∃ A1 c1,
    w.cell? (ad.add (k * 4)) = some (.int .i64 x.d) ∧ w.cell? ⟨(ad.add (k * 4)).block, (ad.add (k * 4)).off + 1, none⟩ = some (.string x.s) ∧
    w.cell? ⟨(ad.add (k * 4)).block, (ad.add (k * 4)).off + 2, none⟩ = some (.int .i64 x.n) ∧ w.cell? ⟨(ad.add (k * 4)).block, (ad.add (k * 4)).off + 3, none⟩ = some (.slice A1 x.keep.length c1) ∧ Reads w B 1 A1 x.keep.length (inV x.keep) := by
  obtain ⟨hl, hh⟩ := h
  have hkx : k < xs.length := by rw [hl]; exact hk
  obtain ⟨ad, rfl, hab, hx⟩ := hh (by omega)
  obtain ⟨v0, v1, v2, v3, ⟨A1, c1, rfl, rfl, rfl, rfl, hr1⟩, g0, g1, g2, g3⟩ := hx k hkx
  have e (j : Nat) : (⟨(ad.add (k * 4)).block, (ad.add (k * 4)).off + (j + 1), none⟩ : Addr) = ad.add (k * 4 + (j + 1)) := by
    rw [← add_of_add]
    simp [Addr.add]
  exact ⟨ad, xs[k], rfl, hab, List.getElem?_eq_getElem hkx, A1, c1, g0, by rw [e 0]; exact g1, by rw [e 1]; exact g2, by rw [e 2]; exact g3, hr1⟩

/-! ### few, texts -/
def Oq.okB (x : Oq) : Bool := !(decide (200 < x.s.size) || decide (50 < x.keep.length))
def fewP (xs : List Oq) : Bool := xs.all Oq.okB && decide (xs.length ≤ 25)
def textsP (ts : List (List UInt8)) : Bool := ts.all (fun t => !decide (200 < t.length)) && decide (ts.length ≤ 8)
theorem all_snoc {α : Type} {p : α → Bool} {l : List α} {k : Nat} {x : α} (h : l[k]? = some x) : (l.take (k + 1)).all p = ((l.take k).all p && p x) := by
  rw [take_snoc_ h, List.all_append]
  simp
theorem all_no {α : Type} {p : α → Bool} {l : List α} {k : Nat} {x : α} (h : l[k]? = some x) (hp : p x = false) : l.all p = false := by
  rw [List.all_eq_false]
  exact ⟨x, List.mem_of_getElem? h, by simp [hp]⟩
theorem ret_b {a b : Bool} (h : a = b) : Ending.returned (.bool a) = .returned (.bool b) := by rw [h]

set_option maxHeartbeats 2000000 in
theorem few_any (A : Option Addr) (n c B : Nat) (xs : List Oq) (w : World) (h : OsIs w B A n xs) (hn : n ≤ 9223372036854775807) (hf : ∀ x ∈ xs, x.Fits) :
    Calls Tryd.prog 8 #[.slice A n c] w fun e w' => e = .returned (.bool (fewP xs)) ∧ w = w' := by
  have HW := Lib.hid h
  have HF := Lib.hid hf
  have HL := Lib.hid h.1
  clear h hf
  go_enter Tryd.func8, Tryd.ntmps8
  go_wp2_with fail
  go_loopw [3] (fun i wr => ∃ k : Nat, k ≤ n ∧ i = .int .i64 k ∧ Hid ((xs.take k).all Oq.okB = true) ∧ w = wr) (fun i _ => n - (RowKit.intOf i).toNat)
  case atStart => exact ⟨0, Nat.zero_le _, rfl, rfl, rfl⟩
  case round =>
    obtain ⟨k, hk, rfl, hok, rfl⟩ := hrel
    by_cases hlt : k < n
    · obtain ⟨ad, x, rfl, _, hx, A1, c1, g0, g1, g2, g3, hr⟩ := HW.out.at_ hlt
      have hfx := HF.out x (List.mem_of_getElem? hx)
      have HS := Lib.hid (all_snoc (p := Oq.okB) hx)
      have HN : Hid (Oq.okB x = false → xs.all Oq.okB = false) := all_no hx
      have hs := hfx.s
      have hkp := hfx.keep
      clear hx hfx hr g0 g2
      have hlt' : (k : Int) < (n : Int) := by omega
      have hk0 : 0 ≤ (k : Int) := by omega
      by_cases h1 : 200 < x.s.size
      · have hno : fewP xs = false := by unfold fewP; rw [HN.out (by simp [Oq.okB, h1])]; rfl
        have h1' : (200 : Int) < (x.s.size : Int) := by omega
        have HE := Lib.hid hno
        clear hno HS HN hok
        go_wp2_with fail
        go_ret
        exact ⟨ret_b HE.out.symm, rfl⟩
      · have h1' : ¬ (200 : Int) < (x.s.size : Int) := by omega
        by_cases h2 : 50 < x.keep.length
        · have hno : fewP xs = false := by unfold fewP; rw [HN.out (by simp [Oq.okB, h2])]; rfl
          have h2' : (50 : Int) < (x.keep.length : Int) := by omega
          have HE := Lib.hid hno
          clear hno HS HN hok
          go_wp2_with fail
          go_ret
          exact ⟨ret_b HE.out.symm, rfl⟩
        · have h2' : ¬ (50 : Int) < (x.keep.length : Int) := by omega
          have hyes : (xs.take (k + 1)).all Oq.okB = true := by rw [HS.out, hok.out]; simp [Oq.okB, h1, h2]
          have HE := Lib.hid hyes
          clear hyes HS HN hok
          go_wp2_with fail
          go_roundw
          case rel => exact ⟨k + 1, by omega, by go_num, HE.out, trivial⟩
          case measure => simp [RowKit.intOf]; omega
    · obtain rfl : k = n := by omega
      have hall : xs.all Oq.okB = true := by have := hok.out; rwa [List.take_of_length_le (by rw [HL.out]; exact Nat.le_refl _)] at this
      have hres : fewP xs = decide ((k : Int) ≤ 25) := by unfold fewP; rw [hall, HL.out]; simp; omega
      have HE := Lib.hid hres
      clear hall hres hok
      go_wp2_with fail
      all_goals go_ret
      all_goals exact ⟨ret_b HE.out.symm, rfl⟩

set_option maxHeartbeats 2000000 in
theorem texts_any (A : Option Addr) (n c B : Nat) (ts : List (List UInt8)) (w : World) (h : Reads w B 1 A n (ts.map strV)) (hn : n ≤ 9223372036854775807) (hf : ∀ t ∈ ts, t.length ≤ 9223372036854775807) :
    Calls Tryd.prog 21 #[.slice A n c] w fun e w' => e = .returned (.bool (textsP ts)) ∧ w = w' := by
  have hl : ts.length = n := by have := h.1; rw [List.length_map] at this; omega
  have HW := Lib.hid h
  have HF := Lib.hid hf
  have HL := Lib.hid hl
  clear h hf hl
  go_enter Tryd.func21, Tryd.ntmps21
  go_wp2_with fail
  go_loopw [3] (fun i wr => ∃ k : Nat, k ≤ n ∧ i = .int .i64 k ∧ Hid ((ts.take k).all (fun t => !decide (200 < t.length)) = true) ∧ w = wr) (fun i _ => n - (RowKit.intOf i).toNat)
  case atStart => exact ⟨0, Nat.zero_le _, rfl, rfl, rfl⟩
  case round =>
    obtain ⟨k, hk, rfl, hok, rfl⟩ := hrel
    by_cases hlt : k < n
    · obtain ⟨x, hx⟩ : ∃ x, ts[k]? = some x := ⟨_, List.getElem?_eq_getElem (by rw [HL.out]; exact hlt)⟩
      obtain ⟨ad, rfl, _, hc⟩ := HW.out.2 (by omega)
      have g1 : w.cell? (ad.add k) = some (.string (bStr x)) := hc k (strV x) (by rw [List.getElem?_map, hx]; rfl)
      have hxl := HF.out x (List.mem_of_getElem? hx)
      have HS := Lib.hid (all_snoc (p := fun t : List UInt8 => !decide (200 < t.length)) hx)
      have HN : Hid ((!decide (200 < x.length)) = false → ts.all (fun t => !decide (200 < t.length)) = false) := all_no (p := fun t : List UInt8 => !decide (200 < t.length)) hx
      have q0 := bStr_size x
      have hlt' : (k : Int) < (n : Int) := by omega
      have hk0 : 0 ≤ (k : Int) := by omega
      clear hc hx
      by_cases h1 : 200 < x.length
      · have hno : textsP ts = false := by unfold textsP; rw [HN.out (by simp [h1])]; rfl
        have h1' : (200 : Int) < (x.length : Int) := by omega
        have HE := Lib.hid hno
        clear hno HS HN hok
        go_wp2_with fail
        go_ret
        exact ⟨ret_b HE.out.symm, rfl⟩
      · have h1' : ¬ (200 : Int) < (x.length : Int) := by omega
        have hyes : (ts.take (k + 1)).all (fun t => !decide (200 < t.length)) = true := by rw [HS.out, hok.out]; simp [h1]
        have HE := Lib.hid hyes
        clear hyes HS HN hok
        go_wp2_with fail
        go_roundw
        case rel => exact ⟨k + 1, by omega, by go_num, HE.out, trivial⟩
        case measure => simp [RowKit.intOf]; omega
    · obtain rfl : k = n := by omega
      have hall : ts.all (fun t => !decide (200 < t.length)) = true := by have := hok.out; rwa [List.take_of_length_le (by rw [HL.out]; exact Nat.le_refl _)] at this
      have hres : textsP ts = decide ((k : Int) ≤ 8) := by unfold textsP; rw [hall, HL.out]; simp; omega
      have HE := Lib.hid hres
      clear hall hres hok
      go_wp2_with fail
      all_goals go_ret
      all_goals exact ⟨ret_b HE.out.symm, rfl⟩

theorem few_ok {xs : List Oq} (h : fewP xs = true) : xs.length ≤ 25 ∧ ∀ x ∈ xs, x.s.size ≤ 200 ∧ x.keep.length ≤ 50 := by
  unfold fewP at h
  rw [Bool.and_eq_true] at h
  refine ⟨by simpa using h.2, fun x hx => ?_⟩
  have := List.all_eq_true.1 h.1 x hx
  simp [Oq.okB] at this
  omega
theorem texts_ok {ts : List (List UInt8)} (h : textsP ts = true) : ts.length ≤ 8 ∧ ∀ t ∈ ts, t.length ≤ 200 := by
  unfold textsP at h
  rw [Bool.and_eq_true] at h
  refine ⟨by simpa using h.2, fun x hx => ?_⟩
  have := List.all_eq_true.1 h.1 x hx
  simp at this
  omega

/-! ### Sync -/
set_option maxHeartbeats 2000000 in
theorem x_jsync {W w : World} {own oj : Nat → Option Nat} {bd b : Nat} {f : Int} {S : Ds} {j : Js} (h : Dx W w own bd S) (hj : Jx W w oj b bd f j) (ap : Apart own oj) :
    Calls Tryd.prog 17 #[.pointer (some ⟨b, 0, none⟩)] w (AppEnd W w own oj bd b f (jsyncP S f j).1 (jsyncP S f j).2.1 (jsyncP S f j).2.2) := by
  obtain ⟨lv, hjn⟩ := hj.jn
  have c4 : w.cell? ⟨b, 4, none⟩ = some (.bool j.broken) := hjn.blk.cell 4
  unfold jsyncP
  cases hbr : j.broken with
  | true =>
    rw [hbr] at c4
    rw [if_pos rfl]
    have HE : Hid (AppEnd W w own oj bd b f S j 7 (.returned (.int .i64 7)) w) := ⟨own, oj, rfl, h, hj, ap, Far.refl _ _ _⟩
    clear h hj ap hjn
    go_enter Tryd.func17, Tryd.ntmps17
    go_wp2_with fail
    go_ret
    exact HE.out
  | false =>
    rw [hbr] at c4
    rw [if_neg (by decide)]
    have d0 : w.cell? ⟨b, 0, none⟩ = some (.pointer (some ⟨bd, 0, none⟩)) := hjn.blk.cell 0
    have d1 : w.cell? ⟨b, 1, none⟩ = some (.int .i64 f) := hjn.blk.cell 1
    have HS := Lib.hid (x_sync h.drew (f := f) rfl rfl)
    have HJ := Lib.hid hj
    have HAP := Lib.hid ap
    generalize (syncP S f).1 = S1 at *
    generalize (syncP S f).2 = r1 at *
    clear h hj ap hjn
    go_enter Tryd.func17, Tryd.ntmps17
    go_wp2_with fail
    go_still_tail 8, (by kernel_rfl)
    change wpList _ _ _ _ _ w.drew
    go_wp2_with fail
    refine HS.out.mono ?_
    rintro e w2 ⟨o2, rfl, hx2, t2⟩
    obtain ⟨hj2, ap2⟩ := (HJ.out.past (Below.refl _ _).drew).other HAP.out hx2.below t2
    obtain ⟨lv2, hjn2⟩ := hj2.jn
    have t4 := (Tr.refl (fun r => r = 0) hjn2.inb).setOwn (p := ⟨b, 4, none⟩) hjn2.ob rfl (.bool (r1 != 0))
    have hj4 := hj2.turn ⟨lv2, hjn2.setC t4 (hjn2.blk.set_ 4 (.bool (r1 != 0)))⟩ (t4.weak (fun _ _ => trivial))
    obtain ⟨hx4, ap4⟩ := hx2.other2 ap2 hj4.below (t4.weak (fun _ _ => trivial))
    have f4 := hjn2.blk.frozen 4
    have d4 : w2.cell? ⟨b, 4, none⟩ = some (.bool j.broken) := hjn2.blk.cell 4
    have HE : Hid (AppEnd W w own oj bd b f S1 { j with broken := r1 != 0 } r1 (.returned (.int .i64 r1)) (w2.setCell ⟨b, 4, none⟩ (.bool (r1 != 0)))) := ⟨o2, oj, rfl, hx4, hj4, ap4, (Far.below (Below.refl _ _).drew).two t2 (t4.weak (fun _ _ => trivial))⟩
    clear hx2 t2 hj2 ap2 hjn2 t4 hj4 hx4 ap4 HS HJ HAP
    go_wp2_with fail
    go_ret
    exact HE.out

end Go.Proofs.YtnnakclmeihonaaDoor
