/- Values of the statements in memory, and the walk of few: whether they are at most 20, with at most 400 bytes and elements altogether. No condition but that the slice reads as the values. -/
import Derived.Test.YtkkaancpokahcaaDoorLaw0
import Derived.Deep.QuietTactic
import Derived.BigQuiet
namespace Go.Proofs.YtkkaancpokahcaaDoor
open Go.RowKit Go.Lib

theorem ret_b {a b : Bool} (h : a = b) : Ending.returned (.bool a) = .returned (.bool b) := by rw [h]

/-- A value to write. -/
structure Va where
  k : Int
  n : Int
  s : ByteArray
  l : List Int
  t : List ByteArray

/-- What an int, a string, a slice is at most. -/
structure Va.Fits (x : Va) : Prop where
  k0 : -9223372036854775808 ≤ x.k
  k1 : x.k ≤ 9223372036854775807
  n0 : -9223372036854775808 ≤ x.n
  n1 : x.n ≤ 9223372036854775807
  s1 : x.s.size ≤ 9223372036854775807
  l1 : x.l.length ≤ 9223372036854775807
  t1 : x.t.length ≤ 9223372036854775807
  li : ∀ z ∈ x.l, -9223372036854775808 ≤ z ∧ z ≤ 9223372036854775807
  ti : ∀ z ∈ x.t, z.size ≤ 9223372036854775807

/-- The five fields of a value, and where its lists lie. -/
def VaIs (w : World) (B : Nat) (x : Va) (v0 v1 v2 v3 v4 : Value) : Prop :=
  ∃ A1 c1 A2 c2, v0 = .int .i64 x.k ∧ v1 = .int .i64 x.n ∧ v2 = .string x.s ∧ v3 = .slice A1 x.l.length c1 ∧ v4 = .slice A2 x.t.length c2 ∧
    Reads w B 1 A1 x.l.length (x.l.map (Value.int .i64)) ∧ Reads w B 1 A2 x.t.length (x.t.map Value.string)

theorem VaIs.keep {w w' : World} {B : Nat} {x : Va} {v0 v1 v2 v3 v4 : Value} (h : VaIs w B x v0 v1 v2 v3 v4) (hk : ∀ p : Addr, p.block < B → w'.cell? p = w.cell? p) : VaIs w' B x v0 v1 v2 v3 v4 := by
  obtain ⟨A1, c1, A2, c2, h0, h1, h2, h3, h4, hl, ht⟩ := h
  exact ⟨A1, c1, A2, c2, h0, h1, h2, h3, h4, hl.keep hk, ht.keep hk⟩
theorem VaIs.more {w : World} {B B' : Nat} {x : Va} {v0 v1 v2 v3 v4 : Value} (h : VaIs w B x v0 v1 v2 v3 v4) (hB : B ≤ B') : VaIs w B' x v0 v1 v2 v3 v4 := by
  obtain ⟨A1, c1, A2, c2, h0, h1, h2, h3, h4, hl, ht⟩ := h
  exact ⟨A1, c1, A2, c2, h0, h1, h2, h3, h4, hl.more hB, ht.more hB⟩

/-- A slice of values: element i lies at i times 5 cells. -/
def VsIs (w : World) (B : Nat) (A : Option Addr) (n : Nat) (xs : List Va) : Prop :=
  xs.length = n ∧ (0 < n → ∃ ad, A = some ad ∧ ad.block < B ∧ ∀ i (h : i < xs.length), ∃ v0 v1 v2 v3 v4, VaIs w B xs[i] v0 v1 v2 v3 v4 ∧ w.cell? (ad.add (i * 5)) = some v0 ∧ w.cell? (ad.add (i * 5 + 1)) = some v1 ∧ w.cell? (ad.add (i * 5 + 2)) = some v2 ∧ w.cell? (ad.add (i * 5 + 3)) = some v3 ∧ w.cell? (ad.add (i * 5 + 4)) = some v4)

theorem VsIs.at {w : World} {B n k : Nat} {A : Option Addr} {xs : List Va} (h : VsIs w B A n xs) (hk : k < n) : ∃ (ad : Addr) (hx : k < xs.length), A = some ad ∧ ∃ A1 c1 A2 c2,
    w.cell? (ad.add (k * 5)) = some (.int .i64 xs[k].k) ∧ w.cell? ⟨(ad.add (k * 5)).block, (ad.add (k * 5)).off + 1, none⟩ = some (.int .i64 xs[k].n) ∧
    w.cell? ⟨(ad.add (k * 5)).block, (ad.add (k * 5)).off + 2, none⟩ = some (.string xs[k].s) ∧ w.cell? ⟨(ad.add (k * 5)).block, (ad.add (k * 5)).off + 3, none⟩ = some (.slice A1 xs[k].l.length c1) ∧
    w.cell? ⟨(ad.add (k * 5)).block, (ad.add (k * 5)).off + 4, none⟩ = some (.slice A2 xs[k].t.length c2) ∧ Reads w B 1 A1 xs[k].l.length (xs[k].l.map (Value.int .i64)) ∧ Reads w B 1 A2 xs[k].t.length (xs[k].t.map Value.string) := by
  obtain ⟨hl, hh⟩ := h
  have hkx : k < xs.length := by rw [hl]; exact hk
  obtain ⟨ad, rfl, hab, hx⟩ := hh (by omega)
  obtain ⟨v0, v1, v2, v3, v4, hv, g0, g1, g2, g3, g4⟩ := hx k hkx
  obtain ⟨A1, c1, A2, c2, rfl, rfl, rfl, rfl, rfl, hr1, hr2⟩ := hv
  have e (j : Nat) : (⟨(ad.add (k * 5)).block, (ad.add (k * 5)).off + (j + 1), none⟩ : Addr) = ad.add (k * 5 + (j + 1)) := by
    rw [← add_of_add]
    simp [Addr.add]
  exact ⟨ad, hkx, rfl, A1, c1, A2, c2, g0, by rw [e 0]; exact g1, by rw [e 1]; exact g2, by rw [e 2]; exact g3, by rw [e 3]; exact g4, hr1, hr2⟩

def sumT (l : List ByteArray) : Nat := (l.map (·.size)).sum
def Va.tot (x : Va) : Nat := x.s.size + x.l.length + x.t.length + sumT x.t
def Va.okB (x : Va) : Bool := decide (x.l.length ≤ 400 ∧ x.t.length ≤ 400 ∧ x.s.size ≤ 400) && x.t.all fun z => decide (z.size ≤ 400)
/-- At most 20 values, with at most 400 bytes and elements altogether. -/
def fewB (xs : List Va) : Bool := decide (xs.length ≤ 20) && (xs.all Va.okB && decide ((xs.map Va.tot).sum ≤ 400))

def Drawn (w w' : World) : Prop := ∃ d, w' = w.drewN d
theorem drawn_quiet (w : World) (d e : Nat) : Drawn w ((w.drewN d).drewN e) := ⟨_, World.drewN_drewN _ _ _⟩
theorem sum_snoc {f : Va → Nat} {l : List Va} {k : Nat} (h : k < l.length) : ((l.take (k + 1)).map f).sum = ((l.take k).map f).sum + f l[k] := by
  rw [List.take_succ_eq_append_getElem h, List.map_append, List.sum_append]
  rfl
theorem sumT_snoc {l : List ByteArray} {k : Nat} (h : k < l.length) : sumT (l.take (k + 1)) = sumT (l.take k) + l[k].size := by
  unfold sumT
  rw [List.take_succ_eq_append_getElem h, List.map_append, List.sum_append]
  rfl
theorem all_snoc {α : Type} {p : α → Bool} {l : List α} {k : Nat} (h : k < l.length) : (l.take (k + 1)).all p = ((l.take k).all p && p l[k]) := by
  rw [List.take_succ_eq_append_getElem h, List.all_append]
  simp only [List.all_cons, List.all_nil, Bool.and_true]
theorem all_no {α : Type} {p : α → Bool} {l : List α} {k : Nat} (h : k < l.length) (hp : p l[k] = false) : l.all p = false := by
  rw [List.all_eq_false]
  exact ⟨l[k], List.getElem_mem h, by simp [hp]⟩
theorem few_no {xs : List Va} (h : xs.all Va.okB = false) : fewB xs = false := by unfold fewB; rw [h]; simp
theorem few_long {xs : List Va} (h : 20 < xs.length) : fewB xs = false := by unfold fewB; rw [decide_eq_false (by omega)]; rfl

set_option maxHeartbeats 2000000 in
set_option maxRecDepth 100000 in
theorem few_any (A : Option Addr) (n c B : Nat) (xs : List Va) (w : World) (h : VsIs w B A n xs) (hn : n ≤ 9223372036854775807) (hf : ∀ x ∈ xs, x.Fits) :
    Calls Tryd.prog 10 #[.slice A n c] w fun e w' => e = .returned (.bool (fewB xs)) ∧ Drawn w w' := by
  have HL := Lib.hid h.1
  by_cases hn20 : 20 < n
  · have HF := Lib.hid (few_long (by rw [h.1]; exact hn20))
    clear h
    go_enter Tryd.func10, Tryd.ntmps10
    go_wp2
    go_ret
    exact ⟨ret_b HF.out.symm, 0, rfl⟩
  · have HW := Lib.hid h
    have HFit := Lib.hid hf
    clear h hf
    go_enter Tryd.func10, Tryd.ntmps10
    go_wp2_with fail
    go_loopw [3, 4] (fun m i wr => ∃ k a : Nat, k ≤ n ∧ i = .int .i64 k ∧ m = .int .i64 a ∧ Hid (a = ((xs.take k).map Va.tot).sum) ∧ (a : Int) ≤ 161200 * k ∧ Hid ((xs.take k).all Va.okB = true) ∧ Drawn w wr) (fun _ i _ => n - (RowKit.intOf i).toNat)
    case atStart => exact ⟨0, 0, Nat.zero_le _, rfl, rfl, rfl, by omega, rfl, 0, rfl⟩
    case round =>
      obtain ⟨k, a, hk, rfl, rfl, ha, hak, hok, hdr⟩ := hrel
      obtain ⟨d, rfl⟩ := hdr
      by_cases hlt : k < n
      · obtain ⟨ad, hkx, rfl, A1, c1, A2, c2, g0, g1, g2, g3, g4, hr1, hr2⟩ := VsIs.at HW.out hlt
        have HX := Lib.hid (sum_snoc (f := Va.tot) hkx)
        have HO := Lib.hid (all_snoc (p := Va.okB) hkx)
        have hfk := HFit.out xs[k] (List.getElem_mem hkx)
        have HN := Lib.hid (fun hp => few_no (all_no (p := Va.okB) hkx hp))
        clear HW HFit
        generalize hxk : xs[k] = x at *
        clear hxk
        have hl1 := hfk.l1
        have ht1 := hfk.t1
        have hs1 := hfk.s1
        clear hfk
        by_cases hok3 : x.l.length ≤ 400 ∧ x.t.length ≤ 400 ∧ x.s.size ≤ 400
        · obtain ⟨o1, o2, o3⟩ := hok3
          have hsum : IntKind.i64.wrap ((a : Int) + (x.s.size : Int)) = (a : Int) + (x.s.size : Int) := IntWalk.i64_in _ (by omega)
          have hsum2 : IntKind.i64.wrap ((a : Int) + (x.s.size : Int) + (x.l.length : Int)) = (a : Int) + (x.s.size : Int) + (x.l.length : Int) := IntWalk.i64_in _ (by omega)
          have hsum3 : IntKind.i64.wrap ((a : Int) + (x.s.size : Int) + (x.l.length : Int) + (x.t.length : Int)) = (a : Int) + (x.s.size : Int) + (x.l.length : Int) + (x.t.length : Int) := IntWalk.i64_in _ (by omega)
          have hlt' : (k : Int) < (n : Int) := by omega
          have hk0 : 0 ≤ (k : Int) := by omega
          go_wp2_with fail
          go_quiet (fail)
          clear hsum hsum2 hsum3
          go_wp2_with fail
          obtain ⟨wo, hwo⟩ : ∃ wo : World, wo = w := ⟨_, rfl⟩
          go_loopw [3, 5] (fun m j wi => ∃ i b : Nat, i ≤ x.t.length ∧ j = .int .i64 i ∧ m = .int .i64 b ∧ Hid (b = a + x.s.size + x.l.length + x.t.length + sumT (x.t.take i)) ∧ (b : Int) ≤ a + 1200 + 400 * i ∧ Hid ((x.t.take i).all (fun z => decide (z.size ≤ 400)) = true) ∧ Drawn w wi) (fun _ j _ => x.t.length - (RowKit.intOf j).toNat)
          case atStart => exact ⟨0, a + x.s.size + x.l.length + x.t.length, Nat.zero_le _, rfl, by congr 1, rfl, by omega, rfl, drawn_quiet _ _ _⟩
          case round =>
            obtain ⟨i, b, hi, rfl, rfl, hb, hbk, hall, hdi⟩ := hrel
            obtain ⟨di, rfl⟩ := hdi
            by_cases hit : i < x.t.length
            · obtain ⟨a2, u, rfl, hab2, hu, gu⟩ := hr2.at_ hit
              obtain ⟨hit', rfl⟩ := map_at hu
              have HI := Lib.hid (sumT_snoc hit')
              have HA := Lib.hid (all_snoc (p := fun z : ByteArray => decide (z.size ≤ 400)) hit')
              have HV := Lib.hid (fun hp => all_no (p := fun z : ByteArray => decide (z.size ≤ 400)) hit' hp)
              generalize x.t[i] = z at *
              clear hu hr1 hr2
              by_cases hz : z.size ≤ 400
              · go_wp2_with fail
                go_roundw
                case rel =>
                  refine ⟨i + 1, b + z.size, by omega, by go_num, by congr 1, ?_, by omega, ?_, di, rfl⟩
                  · show _ = _
                    rw [HI.out, hb.out]
                    omega
                  · show _ = _
                    rw [HA.out, hall.out]
                    simp [hz]
                case measure => simp [RowKit.intOf]; omega
              · have HB := Lib.hid (HN.out (by unfold Va.okB; rw [HV.out (decide_eq_false hz)]; simp))
                go_wp2_with fail
                go_ret
                exact ⟨ret_b HB.out.symm, di, rfl⟩
            · have hie : i = x.t.length := by omega
              subst hie
              go_wp2_with fail
              go_roundw
              case rel =>
                refine ⟨k + 1, b, by omega, by go_num, rfl, ?_, by omega, ?_, di, rfl⟩
                · show _ = _
                  rw [HX.out, ← ha.out, hb.out, List.take_length]
                  unfold Va.tot
                  omega
                · show _ = _
                  rw [HO.out, hok.out]
                  have h1 := hall.out
                  rw [List.take_length] at h1
                  unfold Va.okB
                  rw [h1, decide_eq_true (by omega)]
                  rfl
              case measure => simp [RowKit.intOf]; omega
        · have HB := Lib.hid (HN.out (by unfold Va.okB; rw [decide_eq_false hok3]; rfl))
          by_cases o1 : x.l.length ≤ 400
          · by_cases o2 : x.t.length ≤ 400
            · have o3 : 400 < x.s.size := by omega
              clear hok3
              go_wp2_with fail
              go_ret
              exact ⟨ret_b HB.out.symm, d, rfl⟩
            · clear hok3
              go_wp2_with fail
              go_ret
              exact ⟨ret_b HB.out.symm, d, rfl⟩
          · clear hok3
            go_wp2_with fail
            go_ret
            exact ⟨ret_b HB.out.symm, d, rfl⟩
      · have hkn : k = n := by omega
        have HF := Lib.hid (show fewB xs = decide ((a : Int) ≤ 400) from by
          have hl := HL.out
          have h1 := ha.out
          have h2 := hok.out
          rw [List.take_of_length_le (by omega)] at h1 h2
          unfold fewB
          rw [h2, ← h1, decide_eq_true (by omega)]
          simp
          omega)
        clear hkn
        go_wp2_with fail
        go_ret
        exact ⟨ret_b HF.out.symm, d, rfl⟩

end Go.Proofs.YtkkaancpokahcaaDoor
