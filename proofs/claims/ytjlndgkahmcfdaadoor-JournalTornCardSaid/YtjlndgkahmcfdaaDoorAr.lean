/- Read by its plain function. No condition but that the numbers are ints. -/
import Derived.Test.YtjlndgkahmcfdaaDoorAw
import Derived.Laws.BytesArg
namespace Go.Proofs.YtjlndgkahmcfdaaDoor
set_option maxRecDepth 8000
open Go.RowKit Go.ChangeMaps

def readP (s : Ds) (f a n : Int) : List UInt8 × Int :=
  if s.down = true then ([], 8) else if isF f = false ∨ a < 0 ∨ n < 0 then ([], 1) else (((s.data f).drop a.toNat).take n.toNat, 0)
def bStr (l : List UInt8) : ByteArray := ⟨l.toArray⟩

theorem wpList_convert_run {P : Program} {w : World} {ops : Array Oper} {rest : List Oper} {o : Oper} {a : Act} {Q : Exit → Act → World → Prop} (hg : o.guard = none) (x : Operand) (src dst : TypeId) (hop : o.op = Op.convert src dst x) (vx : Value) (hx : a.eval x = vx)
    (v : Value) (w' : World) (hr : (convert src dst vx).run P w = .ok v w') (h : wpList P ops Q rest (a.put o.dst v) w') : wpList P ops Q (o :: rest) a w :=
  wpList_plain hg fun _ hK => by
    unfold Oper.wp
    simp [execOp, hop, hx, hr, Result.andThen]
    exact hK _ _ h

theorem run_conv_some {w : World} {g n c x k kc : Nat} {l : List UInt8} (h : w.ownsRow 0 5 1 (.slice (some ⟨g, 0, none⟩) n c) n (bv l)) (hk : x + k ≤ n) :
    (convert 58 9 (.slice (some ⟨g, x, none⟩) k kc)).run Tryd.prog w = .ok (.string (bStr ((l.drop x).take k))) w := by
  have hl : l.length = n := by have := h.1; rw [bv_len] at this; omega
  have hr := run_convert_bytes_arg (P := Tryd.prog) w 58 5 Tryd.underlying58 Tryd.underlying5 g x k kc (((l.drop x).take k).map fun c => (c.toNat : Int)) (by rw [List.length_map, List.length_take, List.length_drop]; omega)
    (fun i hi => by
      have h1 : x + i < l.length := by omega
      rw [h.cellAt (x + i) (by omega)]
      unfold bv
      rw [List.getElem?_map, List.getElem?_eq_getElem h1]
      simp only [Option.map_some, Option.some.injEq]
      congr 1
      rw [List.getD_eq_getElem?_getD, List.getElem?_map, List.getElem?_take, if_pos hi, List.getElem?_drop, List.getElem?_eq_getElem h1]
      rfl) 9 Tryd.underlying9
  rw [hr]
  congr 2
  unfold strOfNums bStr
  congr 2
  rw [List.map_map]
  have : ((fun n : Int => UInt8.ofNat n.toNat) ∘ fun c : UInt8 => (c.toNat : Int)) = id := by funext c; simp
  rw [this, List.map_id]
theorem run_conv_zero {w : World} (A : Option Addr) (kc : Nat) : (convert 58 9 (.slice A 0 kc)).run Tryd.prog w = .ok (.string (bStr [])) w := by
  cases A with
  | none => exact run_convert_bytes_nil (P := Tryd.prog) w 58 5 Tryd.underlying58 Tryd.underlying5 0 kc 9 Tryd.underlying9
  | some ad =>
    rw [run_convert_bytes_string w 58 9 5 _ 0 kc Tryd.underlying58 Tryd.underlying5 Tryd.underlying9, run_bytesToString w _ 0 kc [] (by simp [loadCells, loadCellsFrom])]
    rfl

/-- How Read ends. -/
def REnd (w : World) (r : List UInt8 × Int) (e : Ending) (w' : World) : Prop := e = .returned (.tuple #[.string (bStr r.1), .int .i64 r.2]) ∧ w = w'

set_option maxRecDepth 4000 in
set_option maxHeartbeats 1000000 in
theorem a_read (w : World) (own : Nat → Option Nat) (b : Nat) (s : Ds) (f a n : Int) (hf : I64 f) (h : Da w own b s) :
    Calls Tryd.prog 36 #[.pointer (some ⟨b, 0, none⟩), .int .i64 f, .int .i64 a, .int .i64 n] w (REnd w (readP s f a n)) := by
  obtain ⟨ho, m, k, pv, kv, hd⟩ := h
  have c6 := hd.blk.cell 6
  cases hdn : s.down with
  | true =>
    have e1 : readP s f a n = ([], 8) := by unfold readP; rw [if_pos hdn]
    rw [e1]
    rw [hdn] at c6
    clear e1 hd ho hdn
    go_enter Tryd.func36, Tryd.ntmps36
    go_wp2
    go_ret2
    exact ⟨rfl, rfl⟩
  | false =>
    have HI := Lib.hid (isFile_any f)
    have e1 : readP s f a n = if isF f = false ∨ a < 0 ∨ n < 0 then ([], 1) else (((s.data f).drop a.toNat).take n.toNat, 0) := by unfold readP; rw [if_neg (by rw [hdn]; decide)]
    rw [e1]
    rw [hdn] at c6
    clear e1 hdn
    cases hff : isF f with
    | false =>
      rw [if_pos (.inl rfl)]
      rw [hff] at HI
      clear hff hd
      go_enter Tryd.func36, Tryd.ntmps36
      go_wp2_with fail
      refine (HI.out _).mono ?_
      rintro e w3 ⟨rfl, rfl⟩
      go_wp2
      go_ret2
      exact ⟨rfl, rfl⟩
    | true =>
      rw [hff] at HI
      clear hff
      by_cases ha : a < 0
      · rw [if_pos (.inr (.inl ha))]
        clear hd
        go_enter Tryd.func36, Tryd.ntmps36
        go_wp2_with fail
        refine (HI.out _).mono ?_
        rintro e w3 ⟨rfl, rfl⟩
        go_wp2
        go_ret2
        exact ⟨rfl, rfl⟩
      · have ha1 : decide (a < 0) = false := by simpa using ha
        by_cases hn : n < 0
        · rw [if_pos (.inr (.inr hn))]
          clear hd
          go_enter Tryd.func36, Tryd.ntmps36
          go_wp2_with fail
          refine (HI.out _).mono ?_
          rintro e w3 ⟨rfl, rfl⟩
          go_wp2
          go_ret2
          exact ⟨rfl, rfl⟩
        · have hn1 : decide (n < 0) = false := by simpa using hn
          rw [if_neg (by rintro (h | h | h) <;> first | cases h | exact ha h | exact hn h)]
          obtain ⟨x, rfl⟩ := Int.eq_ofNat_of_zero_le (show 0 ≤ a by omega)
          obtain ⟨y, rfl⟩ := Int.eq_ofNat_of_zero_le (show 0 ≤ n by omega)
          rw [Int.toNat_natCast, Int.toNat_natCast]
          obtain ⟨es, clock, hfe⟩ := hd.files
          obtain ⟨dv, uv, hlk, hdv, _⟩ := hfe.look hf
          have HLK := Lib.hid (hlk _ hfe.map.blk)
          have c0 := hd.blk.cell 0
          obtain ⟨Ad, cd, rfl, hcd1, hcd2⟩ := own_slice hdv.1
          have hsz := ho.size f
          have hq := fileField0
          clear hd ho hlk hfe
          generalize s.data f = l at *
          have HOW := Lib.hid hdv.1
          clear hdv
          generalize hL : l.length = L at *
          have HL := Lib.hid hL
          clear hL
          by_cases hxl : L ≤ x
          · have hres : ((l.drop x).take y) = [] := by rw [List.drop_eq_nil_of_le (by rw [HL.out]; exact hxl), List.take_nil]
            rw [hres]
            clear hres
            have hcv := fun kc => run_conv_zero (w := w) Ad kc
            have HCV := Lib.hid (fun B (j : Nat) (kc : Nat) (hj : j = 0) => show (convert 58 9 (.slice B j kc)).run Tryd.prog w = .ok (.string (bStr [])) w by subst hj; exact run_conv_zero B kc)
            have h1 : (L : Int) ≤ (cd : Int) := by omega
            go_enter Tryd.func36, Tryd.ntmps36
            go_wp2_with fail
            refine (HI.out _).mono ?_
            rintro e w3 ⟨rfl, rfl⟩
            go_wp2_with (at_lookup; refine wpList_lookup_run rfl _ _ _ rfl _ _ rfl rfl _ _ HLK.out ?_)
            go_ways
            all_goals first
              | (go_ret2; exact ⟨rfl, rfl⟩)
              | (rw [HCV.out _ _ _ (by omega)]; go_wp2; go_ret2; exact ⟨rfl, rfl⟩)
              | (rw [HCV.out _ _ _ rfl]; go_wp2; go_ret2; exact ⟨rfl, rfl⟩)
          · obtain ⟨g, c, hgv, _, _⟩ := own_some HOW.out rfl (show 0 < L by omega)
            cases hgv
            have HC := Lib.hid (fun k kc hk => run_conv_some (w := w) (g := g) (n := L) (c := cd) (x := x) (k := k) (kc := kc) (l := l) HOW.out hk)
            clear HOW
            have h1 : (L : Int) ≤ (cd : Int) := by omega
            have h2 : ¬ cd = x := by omega
            have h3 : ¬ L = x := by omega
            by_cases hy : y ≤ L - x
            · have hcv := fun kc => HC.out y kc (by omega)
              clear HC
              have h4 : (y : Int) ≤ (L : Int) - (x : Int) := by omega
              go_enter Tryd.func36, Tryd.ntmps36
              go_wp2_with fail
              refine (HI.out _).mono ?_
              rintro e w3 ⟨rfl, rfl⟩
              go_wp2_with (at_lookup; refine wpList_lookup_run rfl _ _ _ rfl _ _ rfl rfl _ _ HLK.out ?_)
              go_ret2
              exact ⟨rfl, rfl⟩
            · have hcv := fun kc => HC.out (L - x) kc (by omega)
              have hr : (l.drop x).take y = (l.drop x).take (L - x) := by rw [List.take_of_length_le (by rw [List.length_drop, HL.out]; omega), List.take_of_length_le (by rw [List.length_drop, HL.out]; omega)]
              rw [hr]
              clear hr HC
              have h4 : ¬ (y : Int) ≤ (L : Int) - (x : Int) := by omega
              go_enter Tryd.func36, Tryd.ntmps36
              go_wp2_with fail
              refine (HI.out _).mono ?_
              rintro e w3 ⟨rfl, rfl⟩
              go_wp2_with (at_lookup; refine wpList_lookup_run rfl _ _ _ rfl _ _ rfl rfl _ _ HLK.out ?_)
              go_ret2
              exact ⟨rfl, rfl⟩

end Go.Proofs.YtjlndgkahmcfdaaDoor
