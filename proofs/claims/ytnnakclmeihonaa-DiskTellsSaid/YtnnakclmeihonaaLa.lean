/- The laws' acts in memory; the walks of few, do, played. Conditions: what the arguments read as. -/
import Derived.Test.YtnnakclmeihonaaSm
namespace Go.Proofs.Ytnnakclmeihonaa
open Go.RowKit Go.ChangeMaps

structure Ac where
  d : Int
  f : Int
  n : Int
  s : ByteArray
  keep : List Int
structure Ac.Fits (x : Ac) : Prop where
  d : I64 x.d
  f : I64 x.f
  n : I64 x.n
  s : x.s.size ≤ 9223372036854775807
  keep : x.keep.length ≤ 9223372036854775807
  ki : ∀ z ∈ x.keep, I64 z

/-- The five fields of an act, and where its list lies. -/
def AcIs (w : World) (B : Nat) (x : Ac) (v0 v1 v2 v3 v4 : Value) : Prop :=
  ∃ A c, v0 = .int .i64 x.d ∧ v1 = .int .i64 x.f ∧ v2 = .int .i64 x.n ∧ v3 = .string x.s ∧ v4 = .slice A x.keep.length c ∧ Reads w B 1 A x.keep.length (inV x.keep)
/-- A slice of acts: element i lies at i times 5 cells. -/
def AsIs (w : World) (B : Nat) (A : Option Addr) (n : Nat) (xs : List Ac) : Prop :=
  xs.length = n ∧ (0 < n → ∃ ad, A = some ad ∧ ad.block < B ∧ ∀ i (h : i < xs.length), ∃ v0 v1 v2 v3 v4, AcIs w B xs[i] v0 v1 v2 v3 v4 ∧ w.cell? (ad.add (i * 5)) = some v0 ∧ w.cell? (ad.add (i * 5 + 1)) = some v1 ∧ w.cell? (ad.add (i * 5 + 2)) = some v2 ∧ w.cell? (ad.add (i * 5 + 3)) = some v3 ∧ w.cell? (ad.add (i * 5 + 4)) = some v4)

theorem AsIs.below {w w' : World} {B n : Nat} {A : Option Addr} {xs : List Ac} (h : AsIs w B A n xs) (hb : Below B w w') : AsIs w' B A n xs := by
  refine ⟨h.1, fun hp => ?_⟩
  obtain ⟨ad, rfl, hlt, hx⟩ := h.2 hp
  refine ⟨ad, rfl, hlt, fun i hi => ?_⟩
  obtain ⟨v0, v1, v2, v3, v4, ⟨A1, c1, e0, e1, e2, e3, e4, hr⟩, g0, g1, g2, g3, g4⟩ := hx i hi
  have k : ∀ j, w'.cell? (ad.add j) = w.cell? (ad.add j) := fun j => hb.cell (by rw [block_of_add]; exact hlt)
  exact ⟨v0, v1, v2, v3, v4, ⟨A1, c1, e0, e1, e2, e3, e4, hr.below hb⟩, (k _).trans g0, (k _).trans g1, (k _).trans g2, (k _).trans g3, (k _).trans g4⟩

theorem AsIs.at_ {w : World} {B n k : Nat} {A : Option Addr} {xs : List Ac} (h : AsIs w B A n xs) (hk : k < n) : ∃ (ad : Addr) (x : Ac), A = some ad ∧ ad.block < B ∧ xs[k]? = some x ∧ ∃ A1 c1,
    w.cell? (ad.add (k * 5)) = some (.int .i64 x.d) ∧ w.cell? ⟨(ad.add (k * 5)).block, (ad.add (k * 5)).off + 1, none⟩ = some (.int .i64 x.f) ∧
    w.cell? ⟨(ad.add (k * 5)).block, (ad.add (k * 5)).off + 2, none⟩ = some (.int .i64 x.n) ∧ w.cell? ⟨(ad.add (k * 5)).block, (ad.add (k * 5)).off + 3, none⟩ = some (.string x.s) ∧
    w.cell? ⟨(ad.add (k * 5)).block, (ad.add (k * 5)).off + 4, none⟩ = some (.slice A1 x.keep.length c1) ∧ Reads w B 1 A1 x.keep.length (inV x.keep) := by
  obtain ⟨hl, hh⟩ := h
  have hkx : k < xs.length := by rw [hl]; exact hk
  obtain ⟨ad, rfl, hab, hx⟩ := hh (by omega)
  obtain ⟨v0, v1, v2, v3, v4, ⟨A1, c1, rfl, rfl, rfl, rfl, rfl, hr1⟩, g0, g1, g2, g3, g4⟩ := hx k hkx
  have e (j : Nat) : (⟨(ad.add (k * 5)).block, (ad.add (k * 5)).off + (j + 1), none⟩ : Addr) = ad.add (k * 5 + (j + 1)) := by
    rw [← add_of_add]
    simp [Addr.add]
  exact ⟨ad, xs[k], rfl, hab, List.getElem?_eq_getElem hkx, A1, c1, g0, by rw [e 0]; exact g1, by rw [e 1]; exact g2, by rw [e 2]; exact g3, by rw [e 3]; exact g4, hr1⟩

/-! ### few -/
def Ac.okB (x : Ac) : Bool := !(decide (300 < x.s.size) || decide (60 < x.keep.length) || (decide (3000 < x.n) && decide (x.n < 16776916)))
def fewP (xs : List Ac) : Bool := xs.all Ac.okB && decide (xs.length ≤ 40)
theorem all_snoc {α : Type} {p : α → Bool} {l : List α} {k : Nat} {x : α} (h : l[k]? = some x) : (l.take (k + 1)).all p = ((l.take k).all p && p x) := by
  rw [take_snoc_ h, List.all_append]
  simp
theorem all_no {α : Type} {p : α → Bool} {l : List α} {k : Nat} {x : α} (h : l[k]? = some x) (hp : p x = false) : l.all p = false := by
  rw [List.all_eq_false]
  exact ⟨x, List.mem_of_getElem? h, by simp [hp]⟩
theorem ret_b {a b : Bool} (h : a = b) : Ending.returned (.bool a) = .returned (.bool b) := by rw [h]

set_option maxHeartbeats 2000000 in
theorem few_any (A : Option Addr) (n c B : Nat) (xs : List Ac) (w : World) (h : AsIs w B A n xs) (hn : n ≤ 9223372036854775807) (hf : ∀ x ∈ xs, x.Fits) :
    Calls Try.prog 9 #[.slice A n c] w fun e w' => e = .returned (.bool (fewP xs)) ∧ w = w' := by
  have HL := Lib.hid h.1
  have HW := Lib.hid h
  have HF := Lib.hid hf
  clear h hf
  go_enter Try.func9, Try.ntmps9
  go_wp2_with fail
  go_loopw [3] (fun i wr => ∃ k : Nat, k ≤ n ∧ i = .int .i64 k ∧ Hid ((xs.take k).all Ac.okB = true) ∧ w = wr) (fun i _ => n - (RowKit.intOf i).toNat)
  case atStart => exact ⟨0, Nat.zero_le _, rfl, rfl, rfl⟩
  case round =>
    obtain ⟨k, hk, rfl, hok, rfl⟩ := hrel
    by_cases hlt : k < n
    · obtain ⟨ad, x, rfl, _, hx, A1, c1, g0, g1, g2, g3, g4, hr⟩ := HW.out.at_ hlt
      have hfx := HF.out x (List.mem_of_getElem? hx)
      have HS := Lib.hid (all_snoc (p := Ac.okB) hx)
      have HN := Lib.hid (fun hp => all_no (p := Ac.okB) hx hp)
      have hs := hfx.s
      have hkp := hfx.keep
      clear hx hfx hr g0 g1 HW
      have hlt' : (k : Int) < (n : Int) := by omega
      have hk0 : 0 ≤ (k : Int) := by omega
      by_cases h1 : 300 < x.s.size
      · have hno : fewP xs = false := by unfold fewP; rw [HN.out (by simp [Ac.okB, h1])]; rfl
        have h1' : (300 : Int) < (x.s.size : Int) := by omega
        have HE := Lib.hid hno
        clear hno HS HN hok
        go_wp2_with fail
        go_ret
        exact ⟨ret_b HE.out.symm, rfl⟩
      · have h1' : ¬ (300 : Int) < (x.s.size : Int) := by omega
        by_cases h2 : 60 < x.keep.length
        · have hno : fewP xs = false := by unfold fewP; rw [HN.out (by simp [Ac.okB, h2])]; rfl
          have h2' : (60 : Int) < (x.keep.length : Int) := by omega
          have HE := Lib.hid hno
          clear hno HS HN hok
          go_wp2_with fail
          go_ret
          exact ⟨ret_b HE.out.symm, rfl⟩
        · have h2' : ¬ (60 : Int) < (x.keep.length : Int) := by omega
          by_cases h3 : 3000 < x.n
          · by_cases h4 : x.n < 16776916
            · have hno : fewP xs = false := by unfold fewP; rw [HN.out (by simp [Ac.okB, h3, h4])]; rfl
              have HE := Lib.hid hno
              clear hno HS HN hok
              go_wp2_with fail
              go_ret
              exact ⟨ret_b HE.out.symm, rfl⟩
            · have hyes : (xs.take (k + 1)).all Ac.okB = true := by rw [HS.out, hok.out]; simp [Ac.okB, h1, h2, h3, h4]
              have HE := Lib.hid hyes
              clear hyes HS HN hok
              go_wp2_with fail
              go_roundw
              case rel => exact ⟨k + 1, by omega, by go_num, HE.out, trivial⟩
              case measure => simp [RowKit.intOf]; omega
          · have hyes : (xs.take (k + 1)).all Ac.okB = true := by rw [HS.out, hok.out]; simp [Ac.okB, h1, h2, h3]
            have HE := Lib.hid hyes
            clear hyes HS HN hok
            go_wp2_with fail
            go_roundw
            case rel => exact ⟨k + 1, by omega, by go_num, HE.out, trivial⟩
            case measure => simp [RowKit.intOf]; omega
    · obtain rfl : k = n := by omega
      have hall : xs.all Ac.okB = true := by have := hok.out; rwa [List.take_of_length_le (by rw [HL.out]; exact Nat.le_refl _)] at this
      have hres : fewP xs = decide ((k : Int) ≤ 40) := by unfold fewP; rw [hall, HL.out]; simp; omega
      have HE := Lib.hid hres
      clear hall hres hok
      go_wp2_with fail
      all_goals go_ret
      all_goals exact ⟨ret_b HE.out.symm, rfl⟩

end Go.Proofs.Ytnnakclmeihonaa
