/- The walk of the law JournalTorn. Conditions: the table of strconv; what the arguments read as. -/
import Derived.Test.YtjlndgkahmcfdaaDoorJu
import Derived.Test.YtjlndgkahmcfdaaDoorJz
import Derived.Laws.IdiomStrings
import Derived.Deep.RegionHeld3
import Derived.Deep.CutBlock
import Derived.BigQuiet
namespace Go.Proofs.YtjlndgkahmcfdaaDoor
set_option maxRecDepth 8000
open Go.RowKit Go.ChangeMaps

/-- Where the forms end, as values. -/
def endsV (ts : List (List UInt8)) (k : Nat) : List Value := (List.range k).map fun m => .int .i64 (endP ts (m + 1) : Nat)
theorem endsV_snoc (ts : List (List UInt8)) (k : Nat) : endsV ts (k + 1) = endsV ts k ++ [.int .i64 (endP ts (k + 1) : Nat)] := by simp [endsV, List.range_succ]
theorem endsV_at {ts : List (List UInt8)} {k m : Nat} (h : m < k) : (endsV ts k)[m]? = some (.int .i64 (endP ts (m + 1) : Nat)) := by simp [endsV, h]
theorem TorS.new (ts : List (List UInt8)) : TorS (settled newD 0) ts 0 := ⟨calm_settled calm_new 0, rfl, rfl⟩
theorem alloc_below (w : World) (o : Obj) : Below w.heap.size w (w.alloc o) := (Below.refl w.heap.size w).alloc (Nat.le_refl _) o
theorem one_newI (w : World) (n : Nat) : Reads (w.alloc (.cells #[.int .i64 n] 3)) (w.heap.size + 1) 1 (some ⟨w.heap.size, 0, none⟩) 1 [.int .i64 n] := by
  refine ⟨rfl, fun _ => ⟨_, rfl, Nat.lt_succ_self _, fun j u hj => ?_⟩⟩
  have hj0 : j = 0 := by
    have := (List.getElem?_eq_some_iff.1 hj).1
    simpa using this
  subst hj0
  cases hj
  exact cell_of_row _ w.heap.size 0 _ 3 (0, 0) (heap_alloc_new w _)
/-- The bytes of a block, as a conversion of a string makes it. -/
def ByteAt (w : World) (g : Nat) (B : List UInt8) : Prop := ∃ cur : Array Value, w.heap[g]? = some (.cells cur 5 (cur.size, cur.size + 1)) ∧ B.length ≤ cur.size ∧ ∀ (i : Nat) (c : UInt8), B[i]? = some c → cur[i]? = some (Value.int .u8 (c.toNat : Int))
theorem bytes_of (w : World) (D : List UInt8) : ∃ cap w', (convert 9 58 (.string (bStr D))).run Tryd.prog w = .ok (.slice (some ⟨w.heap.size, 0, none⟩) D.length cap) w' ∧ Below w.heap.size w w' ∧ ByteAt w' w.heap.size D ∧ D.length ≤ cap := by
  have h := run_bytes_of_string (P := Tryd.prog) w 9 58 5 (bStr D) Tryd.underlying9 Tryd.underlying58 Tryd.underlying5
  rw [bStr_size] at h
  refine ⟨_, _, h, ?_, ?_, ?_⟩
  · exact ((Below.refl w.heap.size w).drew).alloc (Nat.le_refl _) _
  · refine ⟨bytesRow (bStr D) (grownCap w D.length 0 5), ?_, ?_, ?_⟩
    · exact heap_alloc_new w.drew _
    · unfold bytesRow; simp [bStr]
    · intro i c hc
      have hlt := (List.getElem?_eq_some_iff.1 hc).1
      have hlt2 : i < (bStr D).data.size := by simpa [bStr] using hlt
      rw [bytesRow_at (bStr D) _ i hlt2]
      have : (bStr D).data[i] = c := by
        have := (List.getElem?_eq_some_iff.1 hc).2
        simpa [bStr] using this
      rw [this]
  · exact grownCap_ge _ _ _ _
theorem ByteAt.set0 {w : World} {g i : Nat} {B : List UInt8} (h : ByteAt w g B) : ByteAt (w.setCell ⟨g, i, none⟩ (.int .u8 0)) g (B.set i 0) := by
  obtain ⟨cur, h1, h2, h3⟩ := h
  refine ⟨cur.setIfInBounds i (.int .u8 0), by simp [World.setCell, Array.getElem?_modify, h1], by simpa using h2, fun j c hj => ?_⟩
  by_cases hji : i = j
  · subst hji
    have hlt := (List.getElem?_eq_some_iff.1 hj).1
    rw [List.length_set] at hlt
    rw [List.getElem?_set_self hlt] at hj
    cases hj
    rw [Array.getElem?_setIfInBounds_self_of_lt (by omega)]
    rfl
  · rw [List.getElem?_set_ne hji] at hj
    rw [Array.getElem?_setIfInBounds_ne hji]
    exact h3 j c hj
theorem ByteAt.cell {w : World} {g i : Nat} {B : List UInt8} (h : ByteAt w g B) {c : UInt8} (hi : B[i]? = some c) : w.cell? ⟨g, i, none⟩ = some (.int .u8 (c.toNat : Int)) := by
  obtain ⟨cur, h1, h2, h3⟩ := h
  exact cell_of_row _ _ _ _ _ _ h1 |>.trans (h3 i c hi)
theorem ByteAt.free {w : World} {g i : Nat} {B : List UInt8} (h : ByteAt w g B) (hi : i < B.length) : w.frozen? ⟨g, i, none⟩ = false := by
  obtain ⟨cur, h1, h2, h3⟩ := h
  unfold World.frozen?
  rw [h1]
  simp
  omega
theorem toList_loop (s : ByteArray) : ∀ (n i : Nat) (r : List UInt8), s.size - i = n → ByteArray.toList.loop s i r = r.reverse ++ s.data.toList.drop i := by
  intro n
  induction n with
  | zero =>
    intro i r h
    rw [ByteArray.toList.loop, if_neg (by omega), List.drop_eq_nil_of_le (by simp; omega), List.append_nil]
  | succ n ih =>
    intro i r h
    rw [ByteArray.toList.loop, if_pos (by omega), ih (i + 1) _ (by omega), List.reverse_cons, List.append_assoc]
    have e : s.data.toList.drop i = s.data.toList[i]'(by simp; omega) :: s.data.toList.drop (i + 1) := List.drop_eq_getElem_cons (by simp; omega)
    have hi : i < s.data.size := by show i < s.size; omega
    have e2 : s.get! i = s.data.toList[i]'(by simp; omega) := by
      rw [ByteArray.get!, getElem!_pos s.data i hi, Array.getElem_toList]
    rw [e, e2]
    rfl
theorem toList_data (s : ByteArray) : s.toList = s.data.toList := by
  rw [ByteArray.toList, toList_loop s _ 0 [] rfl]
  rfl
theorem ext_take (T : List UInt8) (e : Nat) : ((bStr T).extract 0 e).toList = T.take e := by
  rw [toList_data, ByteArray.data_extract]
  simp [bStr]
theorem ext_same {T D : List UInt8} {e : Nat} (h : T.take e = D.take e) : (((bStr T).extract 0 e).toList == ((bStr D).extract 0 e).toList) = true := by
  rw [ext_take, ext_take, h]
  exact beq_self_eq_true _
theorem ext_other {T D : List UInt8} {e : Nat} (h : T.take e ≠ D.take e) : (((bStr T).extract 0 e).toList == ((bStr D).extract 0 e).toList) = false := by
  rw [ext_take, ext_take]
  exact beq_eq_false_iff_ne.2 h
theorem calm_write0 {S : Ds} (h : Calm S) (h1 : S.data 1 = []) {T : List UInt8} (hT : T.length ≤ 1000000) : ∃ S', writeP S 1 0 T = (S', 0) ∧ Calm S' ∧ S'.data 1 = T := by
  have hw := calm_write h (f := 1) (a := 0) (l := T) (by decide) (by omega)
  obtain ⟨q1, -⟩ := stored_data (S := S) (f := 1) (a := []) (b := T) h1
  exact ⟨_, hw, calm_stored h 1 0 T, q1⟩
theorem bStr_bytes (T : List UInt8) : (bStr T).data.toList = T := by simp [bStr]
theorem Reads.take_ {w : World} {B n m : Nat} {A : Option Addr} {xs : List Value} (h : Reads w B 1 A n xs) (hm : m ≤ n) : Reads w B 1 A m (xs.take m) := by
  refine ⟨by rw [List.length_take]; have := h.1; omega, fun hp => ?_⟩
  obtain ⟨ad, e, hb, hc⟩ := h.2 (by omega)
  refine ⟨ad, e, hb, fun j u hj => hc j u ?_⟩
  have hlt := (List.getElem?_eq_some_iff.1 hj).1
  rw [List.length_take] at hlt
  rwa [List.getElem?_take_of_lt (by omega)] at hj
theorem make_zeros (w : World) (n : Nat) (hn : n ≤ 1000000) : ∃ w', (Instr.makeSlice 58 (.int .i64 (n : Int)) (.int .i64 (n : Int))).run Tryd.prog w = .ok (.slice (some ⟨w.heap.size, 0, none⟩) n n) w' ∧ Below w.heap.size w w' ∧
    (convert 58 9 (.slice (some ⟨w.heap.size, 0, none⟩) n n)).run Tryd.prog w' = .ok (.string (bStr (List.replicate n 0))) w' := by
  obtain ⟨i0, hi, hz0, hz1, hz2⟩ := info_parts infoU8
  have h63 : (n : Int) ≤ 9223372036854775807 := by omega
  have hb : (i0.bytes : Int) * (n : Int) ≤ 281474976710656 := by rw [hz2]; omega
  have hr := run_make (P := Tryd.prog) w 58 5 i0 _ Tryd.underlying58 hi hz0 .i64 .i64 n n (by omega) (Int.le_refl _) hb h63
  simp only [Int.toNat_natCast, hz1, Nat.mul_one] at hr
  refine ⟨_, hr, alloc_below w _, ?_⟩
  have h := run_convert_bytes_back (P := Tryd.prog) (w.alloc (.cells (madeCells (Value.int .u8 0).cells n) 5)) 58 9 5 ⟨w.heap.size, 0, none⟩ n (List.replicate n 0) Tryd.underlying58 Tryd.underlying5 Tryd.underlying9 (fun j hj => by
    rw [List.length_replicate] at hj
    have e : (⟨w.heap.size, 0, none⟩ : Addr).add j = ⟨w.heap.size, j, none⟩ := by
      by_cases hj0 : j = 0
      · subst hj0; simp [Addr.add]
      · simp [Addr.add, hj0]
    rw [e, World.cell?_alloc_mark]
    simp [madeCells, Value.cells, hj, Nat.mod_one])
  rw [List.length_replicate] at h
  exact h
theorem make_long (w : World) : ∃ (w' : World) (Z : List UInt8), Z.length = 20001 ∧ (Instr.makeSlice 58 (.int .i64 20001) (.int .i64 20001)).run Tryd.prog w = .ok (.slice (some ⟨w.heap.size, 0, none⟩) 20001 20001) w' ∧ Below w.heap.size w w' ∧
    (convert 58 9 (.slice (some ⟨w.heap.size, 0, none⟩) 20001 20001)).run Tryd.prog w' = .ok (.string (bStr Z)) w' := by
  obtain ⟨w', h1, h2, h3⟩ := make_zeros w 20001 (by omega)
  exact ⟨w', List.replicate 20001 0, List.length_replicate, h1, h2, h3⟩
def nextB : List UInt8 := [110, 101, 120, 116]
/-- Zeros in the place of some bytes. -/
theorem Torn.set0 {B D : List UInt8} (h : Torn B D) (i : Nat) : Torn (B.set i 0) D := by
  refine ⟨by rw [List.length_set]; exact h.1, fun j hj => ?_⟩
  rw [List.length_set] at hj
  unfold atB
  by_cases e : i = j
  · subst e
    right
    rw [List.getElem?_set_self hj]
    rfl
  · rw [List.getElem?_set_ne e]
    exact h.2 j hj
theorem Torn.take {B D : List UInt8} (h : Torn B D) (m : Nat) : Torn (B.take m) D := by
  refine ⟨by rw [List.length_take]; have := h.1; omega, fun j hj => ?_⟩
  rw [List.length_take] at hj
  unfold atB
  rw [List.getElem?_take_of_lt (by omega)]
  exact h.2 j (by omega)
section
variable {W w w' : World} {own oj : Nat → Option Nat}
theorem row_farI {own' oj' : Nat → Option Nat} {e0 : TypeId} {A : Option Addr} {n c : Nat} {xs : List Value} (h : w.ownsRow 0 e0 1 (.slice A n c) n xs) (hf : ∀ g, (Value.slice A n c).ownBlock = some g → own g = none ∧ oj g = none ∧ W.heap.size ≤ g) (hF : Far w own oj w' own' oj') :
    w'.ownsRow 0 e0 1 (.slice A n c) n xs ∧ ∀ g, (Value.slice A n c).ownBlock = some g → own' g = none ∧ oj' g = none ∧ W.heap.size ≤ g := by
  refine ⟨⟨h.1, ?_⟩, fun g e => ?_⟩
  · rcases h.2 with hn | ⟨g, cap, cur, hv, hb, hgg, rest⟩
    · exact .inl hn
    · refine .inr ⟨g, cap, cur, hv, hb, ?_, rest⟩
      obtain ⟨a1, a2, -⟩ := hf g (by rw [hv]; rfl)
      rw [(hF.2 g (Array.getElem?_eq_some_iff.1 hgg).1 a1 a2).1]
      exact hgg
  · obtain ⟨a1, a2, a3⟩ := hf g e
    obtain ⟨-, k2, k3⟩ := hF.2 g (h.lt g e).2 a1 a2
    exact ⟨k2, k3, a3⟩
end

set_option maxHeartbeats 8000000 in
theorem torn_walk (A : Option Addr) (n c : Nat) (ss : List (List UInt8)) (size : Int) (A1 : Option Addr) (c1 : Nat) (zero : List Int) (w : World) (hT : Tab w)
    (h : Reads w w.heap.size 1 A n (ss.map strV)) (hn : n ≤ 9223372036854775807) (hnc : n ≤ c) (hc63 : c ≤ 9223372036854775807) (hsl : ∀ t ∈ ss, t.length ≤ 9223372036854775807)
    (h1 : Reads w w.heap.size 1 A1 zero.length (inV zero)) (hn1 : zero.length ≤ 9223372036854775807) :
    Calls Tryd.prog 6 #[.slice A n c, .int .i64 size, .slice A1 zero.length c1] w fun e w' => e = .returned (.bool true) ∧ Below w.heap.size w w' := by
  have HS := Lib.hid (small_any w hT)
  have HTX : Hid (∀ W, Below w.heap.size w W → Calls Tryd.prog 27 #[.slice A n c] W fun e w' => e = .returned (.bool (textsP ss)) ∧ W = w') := fun W hb => texts_any A n c _ ss W (h.below hb) hn hsl
  have hsn : ss.length = n := by have := h.1; rw [List.length_map] at this; omega
  have HW := Lib.hid h
  have H1R := Lib.hid h1
  clear h hsl h1
  cases k1 : textsP ss with
  | false =>
    rw [k1] at HTX
    clear k1
    go_enter Tryd.func6, Tryd.ntmps6
    go_wp2_with fail
    refine HS.out.mono ?_
    rintro e w1 ⟨rfl, b1⟩
    have HB := Lib.hid b1
    clear b1
    go_wp2_with fail
    refine (HTX.out _ HB.out).mono ?_
    rintro e w' ⟨rfl, rfl⟩
    go_wp2_with fail
    go_ret
    exact ⟨rfl, HB.out⟩
  | true =>
    by_cases hlong : 50 < zero.length
    · have hlong' : (50 : Int) < (zero.length : Int) := by omega
      rw [k1] at HTX
      clear k1
      go_enter Tryd.func6, Tryd.ntmps6
      go_wp2_with fail
      refine HS.out.mono ?_
      rintro e w1 ⟨rfl, b1⟩
      have HB := Lib.hid b1
      clear b1
      go_wp2_with fail
      refine (HTX.out _ HB.out).mono ?_
      rintro e w' ⟨rfl, rfl⟩
      go_wp2_with fail
      go_ret
      exact ⟨rfl, HB.out⟩
    · have hlong' : ¬ (50 : Int) < (zero.length : Int) := by omega
      obtain ⟨hn8, ht2⟩ := texts_ok k1
      rw [hsn] at hn8
      rw [k1] at HTX
      have HSN := Lib.hid hsn
      have HT2 := Lib.hid ht2
      have o0 : openP newD 0 = (settled newD 0, 0, []) := by rfl
      have OO := Lib.hid o0
      clear k1 o0 hsn ht2
      go_enter Tryd.func6, Tryd.ntmps6
      go_wp2_with fail
      refine HS.out.mono ?_
      rintro e w1 ⟨rfl, b1⟩
      have HB := Lib.hid b1
      clear b1
      go_wp2_with fail
      refine (HTX.out _ HB.out).mono ?_
      rintro e w' ⟨rfl, rfl⟩
      go_wp2_with fail
      refine (x_new HB.out).mono ?_
      rintro e w2 ⟨bd, o2, rfl, hx2, -, -⟩
      have H2 := Lib.hid hx2
      clear hx2 HB HTX HS
      go_wp2_with fail
      refine (open_ok H2.out (by decide) (by decide) OO.out).mono ?_
      rintro e w3 ⟨o3, b3, j3, rfl, hx3, hj3, ap3, -⟩
      have H3 := Lib.hid hx3
      have J3 := Lib.hid hj3
      have P3 := Lib.hid ap3
      clear hx3 hj3 ap3 H2 OO
      go_wp2_with fail
      go_loopw [11, 12] (fun en i wr => ∃ (k : Nat) (own oj : Nat → Option Nat) (S : Ds) (Ae : Option Addr) (ce : Nat), k ≤ n ∧ i = .int .i64 k ∧ en = .slice Ae k ce ∧ Hid (Dx w wr own bd S) ∧ Hid (Jx w wr oj b3 bd 0 ⟨ss.take k, false⟩) ∧ Hid (Apart own oj) ∧ Hid (TorS S ss k) ∧ Hid (wr.ownsRow 0 3 1 (.slice Ae k ce) k (endsV ss k)) ∧ Hid (∀ g, (Value.slice Ae k ce).ownBlock = some g → own g = none ∧ oj g = none ∧ w.heap.size ≤ g)) (fun _ i _ => n - (RowKit.intOf i).toNat)
      case atStart => exact ⟨0, o3, j3, _, none, 0, Nat.zero_le _, rfl, rfl, H3.out, J3.out, P3.out, TorS.new ss, World.ownsRow_nil _ _ _ _, (fun g e => by cases e)⟩
      case round =>
        clear H3 J3 P3
        obtain ⟨k, own, oj, S, Ae, ce, hk, rfl, rfl, HD, HJ, HAP, HI, HO, HFR⟩ := hrel
        by_cases hlt : k < n
        · obtain ⟨t, hx⟩ : ∃ t, ss[k]? = some t := ⟨_, List.getElem?_eq_getElem (by rw [HSN.out]; exact hlt)⟩
          obtain ⟨ad, rfl, hadb, hc⟩ := HW.out.2 (by omega)
          have g1 : wr.cell? (ad.add k) = some (.string (bStr t)) := (HD.out.below.cell (p := ad.add k) (by rw [block_of_add]; exact hadb)).trans (hc k (strV t) (by rw [List.getElem?_map, hx]; rfl))
          have htl2 := HT2.out t (List.mem_of_getElem? hx)
          have hlt' : (k : Int) < (n : Int) := by omega
          have hk0 : 0 ≤ (k : Int) := by omega
          obtain ⟨S', ha, hi', hsz⟩ := HI.out.app HT2.out (by rw [HSN.out]; exact hn8) hx
          have hszj : (formsP (ss.take k)).length ≤ 16777216 := by have := forms_len (ts := ss.take k) (fun q hq => HT2.out q (List.mem_of_mem_take hq)); rw [List.length_take] at this; omega
          have HA := Lib.hid (app_ok HD.out HJ.out HAP.out (hT.on HD.out.below) hszj (t := t) (by omega) ha)
          have HI' := Lib.hid hi'
          have HSZ := Lib.hid hsz
          clear hc hx ha hi' hsz
          go_wp2_with fail
          refine HA.out.mono ?_
          rintro e w6 ⟨o6, j6, rfl, hx6, hj6, ap6, far6⟩
          obtain ⟨hr6, hf6⟩ := row_farI (W := w) HO.out HFR.out far6
          have H6 := Lib.hid hx6
          have J6 := Lib.hid hj6
          have A6 := Lib.hid ap6
          have R6 := Lib.hid hr6
          have F6 := Lib.hid hf6
          clear hx6 hj6 ap6 far6 hr6 hf6 HA HD HJ HAP HO HFR g1
          go_wp2_with fail
          refine (x_size H6.out (by unfold I64; omega) HSZ.out).mono ?_
          rintro e w' ⟨rfl, rfl⟩
          have H7 := Lib.hid (H6.out.alloc (.cells #[.int .i64 (endP ss (k + 1))] 3))
          have J7 := Lib.hid (J6.out.past (alloc_below w6 (.cells #[.int .i64 (endP ss (k + 1))] 3)))
          have R7 := Lib.hid (own_below R6.out (alloc_below w6 (.cells #[.int .i64 (endP ss (k + 1))] 3)) (fun g e => (R6.out.lt g e).2))
          have N7 : Hid (∀ g, w6.heap.size ≤ g → o6 g = none ∧ j6 g = none ∧ w.heap.size ≤ g) := fun g hg => ⟨own_none H6.out.da.inb hg, own_none J6.out.inb hg, Nat.le_trans H6.out.below.size hg⟩
          have HRA := Lib.hid (one_newI w6 (endP ss (k + 1)))
          obtain ⟨i0, hi, hz0, hz1, hz2⟩ := info_parts infoInt
          clear H6 J6 R6
          go_wp2_with (at_builtin; refine wpList_append_any _ rfl (.tmp 54) (.tmp 57) 23 rfl 0 3 i0 _ 1 8 Tryd.underlying23 hi hz0 hz1 hz2 rfl (by decide) (.slice Ae k ce) k (endsV ss k) rfl R7.out _ (some ⟨w6.heap.size, 0, none⟩) 1 1 [.int .i64 (endP ss (k + 1))] rfl HRA.out (by intro u hu; simp at hu; subst hu; rfl) (by unfold maxLen; omega) (by omega) (Nat.zero_le _) ?_; intro v' w' p1 p2 p3)
          obtain ⟨A7, c7, rfl, _, _⟩ := own_slice p1
          have H8 := Lib.hid (H7.out.grownN p2 (fun g e => ⟨(F6.out g e).1, (F6.out g e).2.2⟩))
          have J8 := Lib.hid (J7.out.grownN p2 (fun g e => ⟨(F6.out g e).2.1, (F6.out g e).2.2⟩))
          have F8 : Hid (∀ g, (Value.slice A7 (k + 1) c7).ownBlock = some g → o6 g = none ∧ j6 g = none ∧ w.heap.size ≤ g) := fun g e => by
            rcases p3 with p3 | p3
            · exact F6.out g (p3 ▸ e)
            · rw [p3] at e; cases e; exact N7.out _ (by simp)
          have R8 : Hid (w'.ownsRow 0 3 1 (.slice A7 (k + 1) c7) (k + 1) (endsV ss (k + 1))) := by
            rw [endsV_snoc]
            exact p1
          clear p1 p2 p3 H7 J7 R7 F6 N7 HRA
          go_wp2_with fail
          go_roundw
          case rel => exact ⟨k + 1, o6, j6, S', A7, c7, by omega, by go_num, rfl, H8, J8, A6, HI', R8, F8⟩
          case measure => simp [RowKit.intOf]; omega
        · obtain rfl : k = n := by omega
          have hD : S.data 0 = formsP ss := by have := HI.out.d0; rwa [List.take_of_length_le (by rw [HSN.out]; exact Nat.le_refl _)] at this
          have hfl := forms_len HT2.out
          rw [HSN.out] at hfl
          have hCA := HI.out.calm
          have hd1 := HI.out.d1
          have hends : endsV ss k = (List.range k).map fun m => .int .i64 (endP ss (m + 1) : Nat) := rfl
          have htc : ∀ T, Torn T (formsP ss) → _ := fun T hT => torn_count hT (fun t ht => by have := HT2.out t ht; omega)
          obtain ⟨D, hDD⟩ : ∃ D, formsP ss = D := ⟨_, rfl⟩
          have hrd := calm_read hCA (f := 0) (by decide)
          rw [hD, hDD] at hrd
          rw [hDD] at hfl hD
          have hDl : (S.data 0).length = D.length := by rw [hD]
          have HRD := Lib.hid hrd
          have HDL := Lib.hid hDl
          have HFD := Lib.hid hDD
          have HTC := Lib.hid htc
          obtain ⟨cap, w5, hcv, hb5, hB5, hcap⟩ := bytes_of wr D
          have HCV := Lib.hid hcv
          have HCA := Lib.hid hCA
          have HD1 := Lib.hid hd1
          have hq : (bStr D).size = D.length := bStr_size D
          clear hDD hD hDl hrd hcv hCA hd1 hends htc HI
          go_wp2_with fail
          refine (x_size HD.out (by unfold I64; omega) HDL.out).mono ?_
          rintro e w' ⟨rfl, rfl⟩
          go_wp2_with fail
          refine (x_read HD.out (by unfold I64; omega) HRD.out).mono ?_
          rintro e w' ⟨rfl, rfl⟩
          have hcv := HCV.out
          go_upto_block 2 with (fail)
          obtain ⟨wa, rfl⟩ : ∃ x : World, x = wr := ⟨_, rfl⟩
          have hgw : w.heap.size ≤ wa.heap.size := HD.out.below.size
          have BB5 := Lib.hid hB5
          have BW5 := Lib.hid hb5
          have H1W := Lib.hid ((H1R.out.below HD.out.below).more hgw)
          clear hcv HCV hb5 hB5
          go_cut [16] (fun i wx => ∃ B : List UInt8, B.length = D.length ∧ Hid (Torn B D) ∧ Hid (ByteAt wx wa.heap.size B) ∧ Hid (Below wa.heap.size wa wx))
          case first =>
            go_wp2_with fail
            go_loopw [16] (fun i wr => ∃ (q : Nat) (B : List UInt8), q ≤ D.length ∧ i = .int .i64 q ∧ B.length = D.length ∧ Hid (Torn B D) ∧ Hid (ByteAt wr wa.heap.size B) ∧ Hid (Below wa.heap.size wa wr)) (fun i _ => D.length - (RowKit.intOf i).toNat)
            case atStart => exact ⟨0, D, Nat.zero_le _, rfl, rfl, Torn.refl D, BB5.out, BW5.out⟩
            case round =>
              clear BB5 BW5
              obtain ⟨q, B, hq, rfl, hBl, HTB, HBB, HBW⟩ := hrel
              by_cases hqz : q < D.length ∧ 0 < zero.length
              · obtain ⟨hqd, hz0⟩ := hqz
                have hqd' : (q : Int) < (D.length : Int) := by omega
                have hz0' : (0 : Int) < (zero.length : Int) := by omega
                have hzi : q / 64 % zero.length < zero.length := Nat.mod_lt _ hz0
                have htd : Int.tdiv (q : Int) 64 = ((q / 64 : Nat) : Int) := rfl
                have htm : Int.tmod ((q / 64 : Nat) : Int) (zero.length : Int) = ((q / 64 % zero.length : Nat) : Int) := rfl
                obtain ⟨z, hz⟩ : ∃ z, zero[q / 64 % zero.length]? = some z := ⟨_, List.getElem?_eq_getElem hzi⟩
                obtain ⟨az, rfl, hazb, hzc⟩ := H1W.out.2 hz0
                have g1 : wr.cell? (az.add (q / 64 % zero.length : Nat)) = some (.int .i64 z) := (HBW.out.cell (p := az.add (q / 64 % zero.length : Nat)) (by rw [block_of_add]; exact hazb)).trans (hzc _ (.int .i64 z) (by unfold inV; rw [List.getElem?_map, hz]; rfl))
                obtain ⟨y, hy⟩ : ∃ y, B[q]? = some y := ⟨_, List.getElem?_eq_getElem (by omega)⟩
                have g2 := HBB.out.cell hy
                have g3 := HBB.out.free (i := q) (by omega)
                obtain ⟨zi, hzie⟩ : ∃ x : Nat, q / 64 % zero.length = x := ⟨_, rfl⟩
                obtain ⟨q64, hq64⟩ : ∃ x : Nat, q / 64 = x := ⟨_, rfl⟩
                rw [hq64] at htd htm hzi hz g1 hzie
                rw [hzie] at htm hzi hz g1
                have hzi' : (zi : Int) < (zero.length : Int) := by omega
                have hq64b : (q64 : Int) ≤ 100000 := by omega
                clear hzc hy hzie hq64 hz
                go_wp2_with fail
                all_goals first
                  | exact ⟨⟨q + 1, B, by omega, by go_num, hBl, HTB, HBB, HBW⟩, by simp [RowKit.intOf]; omega⟩
                  | exact ⟨⟨q + 1, B.set q 0, by omega, by go_num, by rw [List.length_set]; exact hBl, HTB.out.set0 q, HBB.out.set0, HBW.out.setCell (Nat.le_refl _) _⟩, by simp [RowKit.intOf]; omega⟩
              · have hqz2 : ¬ (q : Int) < (D.length : Int) ∨ ((q : Int) < (D.length : Int) ∧ ¬ (0 : Int) < (zero.length : Int)) := by omega
                clear hqz
                rcases hqz2 with hqz | ⟨hqz, hz0⟩
                all_goals
                  go_wp2_with fail
                  go_meet
                  exact ⟨B, hBl, HTB, HBB, HBW⟩
          case rest =>
            obtain ⟨B, hBl, HTB, HBB, HBW⟩ := hcut
            obtain ⟨m, hm⟩ : ∃ m : Nat, max 0 (min size (D.length : Int)) = (m : Int) := ⟨(max 0 (min size (D.length : Int))).toNat, by omega⟩
            have hmD : m ≤ D.length := by omega
            have hmD' : (m : Int) ≤ (D.length : Int) := by omega
            have hcv2 : ∀ cp, (convert 58 9 (.slice (some ⟨wa.heap.size, 0, none⟩) m cp)).run Tryd.prog wc = .ok (.string (bStr (B.take m))) wc := fun cp => by
              have h := run_convert_bytes_back (P := Tryd.prog) wc 58 9 5 ⟨wa.heap.size, 0, none⟩ cp (B.take m) Tryd.underlying58 Tryd.underlying5 Tryd.underlying9 (fun j hj => by
                rw [List.length_take] at hj
                have h2 := HBB.out.cell (i := j) (c := B[j]'(by omega)) (List.getElem?_eq_getElem (by omega))
                rw [List.getElem_take]
                by_cases hj0 : j = 0
                · subst hj0; simpa [Addr.add] using h2
                · simpa [Addr.add, hj0] using h2)
              rw [List.length_take, Nat.min_eq_left (by omega)] at h
              exact h
            have HTM := Lib.hid (HTB.out.take m)
            have hTl : (B.take m).length = m := by rw [List.length_take]; omega
            obtain ⟨T, hT2⟩ : ∃ T, B.take m = T := ⟨_, rfl⟩
            rw [hT2] at HTM hTl
            simp only [hT2] at hcv2
            clear HTB HBB hT2 H1W BB5 BW5
            go_upto_block 4 with (fail)
            obtain ⟨kk, r, hkk, hrec, hA, hB2⟩ := HTC.out T (by rw [HFD.out]; exact HTM.out)
            rw [HFD.out] at hA hB2
            rw [HSN.out] at hkk hB2
            have R4 := Lib.hid (Reads.of_own HO.out)
            have HRC := Lib.hid hrec
            have HAA := Lib.hid hA
            have HB2 := Lib.hid hB2
            have hsT : (bStr T).size = m := by rw [bStr_size]; exact hTl
            have HTL := Lib.hid hTl
            clear hrec hA hB2 hcv2 hTl HTC
            obtain ⟨wb, rfl⟩ : ∃ x : World, x = wc := ⟨_, rfl⟩
            go_cut [18] (fun v wx => v = .int .i64 (kk : Nat) ∧ Hid (Below wa.heap.size wa wx))
            case first =>
              go_wp2_with fail
              go_loopw [18] (fun i wr => ∃ q : Nat, q ≤ kk ∧ i = .int .i64 q ∧ Hid (Below wa.heap.size wa wr)) (fun i _ => kk - (RowKit.intOf i).toNat)
              case atStart => exact ⟨0, Nat.zero_le _, rfl, HBW⟩
              case round =>
                clear HBW
                obtain ⟨q, hq, rfl, HBW⟩ := hrel
                have R5 := Lib.hid (R4.out.below HBW.out)
                by_cases hlt : q < kk
                · have hlt' : (q : Int) < (k : Int) := by omega
                  have hk0 : 0 < k := by omega
                  obtain ⟨ae, rfl, haeb, hec⟩ := R5.out.2 hk0
                  have g1 := hec q _ (endsV_at (ts := ss) (k := k) (show q < k by omega))
                  obtain ⟨h2, h3⟩ := HAA.out q hlt
                  obtain ⟨e, he⟩ : ∃ e, endP ss (q + 1) = e := ⟨_, rfl⟩
                  rw [he] at g1 h2 h3
                  have h2' : (e : Int) ≤ (m : Int) := by have := HTL.out; omega
                  have hs := ext_same h3
                  clear he hec h2 h3
                  go_wp2_with fail
                  go_quiet (fail)
                  go_wp2_with fail
                  go_roundw
                  case rel => exact ⟨q + 1, by omega, by go_num, below_drewN HBW.out _⟩
                  case measure => simp [RowKit.intOf]; omega
                · obtain rfl : q = kk := by omega
                  by_cases hkk2 : q < k
                  · have hlt' : (q : Int) < (k : Int) := by omega
                    have hk0 : 0 < k := by omega
                    obtain ⟨ae, rfl, haeb, hec⟩ := R5.out.2 hk0
                    have g1 := hec q _ (endsV_at (ts := ss) (k := k) (show q < k by omega))
                    have h2 := HB2.out hkk2
                    obtain ⟨e, he⟩ : ∃ e, endP ss (q + 1) = e := ⟨_, rfl⟩
                    rw [he] at g1 h2
                    by_cases h4 : e ≤ m
                    · have h2' : (e : Int) ≤ (m : Int) := by omega
                      have hs := ext_other (h2 (by have := HTL.out; omega))
                      clear he hec h2
                      go_wp2_with fail
                      go_quiet (fail)
                      go_wp2_with fail
                      go_meet
                      exact ⟨rfl, below_drewN HBW.out _⟩
                    · have h2' : decide ((e : Int) ≤ (m : Int)) = false := decide_eq_false (by omega)
                      clear he hec h2
                      go_wp2_with fail
                      go_quiet (fail)
                      go_wp2_with fail
                      go_meet
                      exact ⟨rfl, below_drewN HBW.out _⟩
                  · obtain rfl : q = k := by omega
                    have hlt' : decide ((q : Int) < (q : Int)) = false := decide_eq_false (by omega)
                    go_wp2_with fail
                    go_quiet (fail)
                    go_wp2_with fail
                    go_meet
                    exact ⟨rfl, below_drewN HBW.out _⟩
            case rest =>
              obtain ⟨rfl, HBW⟩ := hcut
              obtain ⟨S1, hw1, hc1, hd1⟩ := calm_write0 HCA.out HD1.out (T := T) (by have := HTL.out; omega)
              obtain ⟨S2, ho2, hc2, hd2, -⟩ := calm_open hc1 (f := 1) (by decide) (ts := ss.take kk) (r := r) (by rw [hd1]; exact HRC.out)
              have H6 := Lib.hid (HD.out.go HBW.out)
              have HW1 := Lib.hid (x_write H6.out (f := 1) (a := 0) (t := bStr T) (by have := HTL.out; rw [bStr_size]; omega) (s' := S1) (r := 0) (by rw [bStr_bytes, hw1]) (by rw [bStr_bytes, hw1]))
              have HO2 := Lib.hid ho2
              have HC2 := Lib.hid hc2
              obtain ⟨L, hL⟩ : ∃ L, ss.take kk = L := ⟨_, rfl⟩
              have hLl : L.length = kk := by rw [← hL, List.length_take, HSN.out]; omega
              have hLt : ∀ t ∈ L, t.length ≤ 200 := fun t ht => HT2.out t (by rw [← hL] at ht; exact List.mem_of_mem_take ht)
              have HLT := Lib.hid hLt
              have hLf := forms_len hLt
              clear hLt
              rw [hLl] at hLf
              rw [hL] at HO2
              obtain ⟨S3, ha3, hc3⟩ := calm_app HC2.out (l := L) (by omega) (t := nextB) (by decide)
              have HA3 := Lib.hid ha3
              have HLL := Lib.hid hLl
              have HLE := Lib.hid hL
              clear hw1 hc1 hd1 ho2 hc2 hd2 hLl hL ha3 hc3 HBW HRC R4
              go_wp2_with fail
              refine HW1.out.mono ?_
              rintro e w6 ⟨o6, rfl, hx6, t6⟩
              have H7 := Lib.hid hx6
              clear hx6 t6 HW1 H6
              go_wp2_with fail
              refine (open_ok H7.out (by decide) (by decide) HO2.out).mono ?_
              rintro e w7 ⟨o7, b7, j7, rfl, hx7, hj7, ap7, -⟩
              have H8 := Lib.hid hx7
              have J8 := Lib.hid hj7
              have A8 := Lib.hid ap7
              clear hx7 hj7 ap7 H7
              have R8 : Hid (Reads w7 w.heap.size 1 A kk (L.map strV)) := by
                have h := (HW.out.below H8.out.below).take_ (m := kk) hkk
                rwa [← List.map_take, HLE.out] at h
              have hkki : (kk : Int) ≤ (k : Int) := by omega
              have hkkc : (kk : Int) ≤ (c : Int) := by omega
              have J9 := Lib.hid (J8.out.past (Below.refl _ w7).drew)
              have HAL : Hid (Calls Tryd.prog 19 #[.pointer (some ⟨b7, 0, none⟩)] w7.drew fun e w8 => ∃ A9 c9, e = .returned (.slice A9 kk c9) ∧ Reads w8 w8.heap.size 1 A9 kk (L.map strV) ∧ Reads w8 w.heap.size 1 A kk (L.map strV) ∧ Below w7.heap.size w7 w8) := by
                refine (x_all J9.out (show L.length ≤ 1073741824 by have := HLL.out; omega)).mono ?_
                rintro e w8 ⟨v8, rfl, ho8, b8, n8⟩
                obtain ⟨A9, c9, rfl, _, _⟩ := own_slice ho8
                have hr := Reads.of_own ho8
                have b9 := (Below.refl w7.heap.size w7).drew.trans b8
                have hl : L.length = kk := HLL.out
                rw [hl] at hr
                refine ⟨A9, c9, ?_, hr, R8.out.below (b9.mono H8.out.below.size), b9⟩
                rw [← hl]
              go_upto_region 30 with (fail)
              go_cut [152] (fun v wx => v = .bool false ∧ Hid (Below w7.heap.size w7 wx))
              case first =>
                go_region_held3 (fun _ => True)
                  (first | exact trivial)
                  (first | (go_at_call 19; with_reducible refine HAL.out.mono ?_; rintro e w8 ⟨A9, c9, rfl, r9, q9, b9⟩; have R9 := Lib.hid r9; have Q9 := Lib.hid q9; have B9 := Lib.hid b9; clear r9 q9 b9) | (go_at_call 22; refine (same_any A9 A kk kk c9 c _ _ L L w8 R9.out Q9.out (by omega) (by omega) (r := true) (by simp)).mono ?_; rintro e w10 ⟨rfl, hd10⟩; have B10 := Lib.hid (B9.out.trans (hd10.below.mono B9.out.size)); clear hd10))
                all_goals ((try go_wp2_with fail); go_meet; exact ⟨rfl, B10⟩)
              case rest =>
                obtain ⟨rfl, HBW⟩ := hcut
                have Ha := Lib.hid (H8.out.go HBW.out)
                have Ja := Lib.hid (J8.out.past HBW.out)
                clear H8 J8 J9 HAL R8 HBW
                have HAP3 : Hid (Calls Tryd.prog 20 #[.pointer (some ⟨b7, 0, none⟩), .string ⟨#[110, 101, 120, 116]⟩] wc (AppEnd w wc o7 j7 bd b7 1 S3 ⟨L ++ [nextB], false⟩ 0)) := app_ok Ha.out Ja.out A8.out (hT.on Ha.out.below) (by show (formsP L).length ≤ _; omega) (t := nextB) (by decide) HA3.out
                obtain ⟨L2, hL2⟩ : ∃ L2, L ++ [nextB] = L2 := ⟨_, rfl⟩
                have hl2 : L2.length = kk + 1 := by rw [← hL2, List.length_append, HLL.out]; rfl
                have hF2 : (formsP L2).length ≤ 16777216 := by
                  have h := forms_len (ts := L2) (fun t ht => by
                    rw [← hL2] at ht
                    rcases List.mem_append.1 ht with h | h
                    · exact HLT.out t h
                    · rw [List.mem_singleton] at h; subst h; decide)
                  rw [hl2] at h
                  omega
                have HF2 := Lib.hid hF2
                have hg1 : getP L2 (kk : Int) = nextB := by
                  unfold getP
                  rw [if_neg (by omega), Int.toNat_natCast, ← hL2, List.getElem?_append_right (by have := HLL.out; omega), HLL.out, Nat.sub_self]
                  rfl
                have hg2 : getP L2 ((kk : Int) + 1) = [] := by
                  unfold getP
                  rw [if_neg (by omega), List.getElem?_eq_none (by omega)]
                  rfl
                have hg3 : getP L2 (-1) = [] := by
                  unfold getP
                  rw [if_pos (by omega)]
                rw [hL2] at HAP3
                have HL2 := Lib.hid hl2
                have HG1 := Lib.hid hg1
                have HG2 := Lib.hid hg2
                have HG3 := Lib.hid hg3
                clear hL2 hl2 hg1 hg2 hg3 hF2 Ha Ja A8
                go_wp2_with fail
                refine HAP3.out.mono ?_
                rintro e wd ⟨od, jd, rfl, hxd, hjd, apd, -⟩
                have HLN : Hid (Calls Tryd.prog 38 #[.pointer (some ⟨b7, 0, none⟩)] wd fun e w' => e = .returned (.int .i64 ((kk : Int) + 1)) ∧ wd = w') := by
                  have h := x_len hjd
                  have hl : (Js.mk L2 false).list.length = kk + 1 := HL2.out
                  rw [hl, Int.natCast_succ] at h
                  exact h
                have HGA : Hid (Calls Tryd.prog 39 #[.pointer (some ⟨b7, 0, none⟩), .int .i64 (kk : Int)] wd fun e w' => e = .returned (.string ⟨#[110, 101, 120, 116]⟩) ∧ wd = w') := x_get hjd (kk : Int) HG1.out
                have HGB : Hid (Calls Tryd.prog 39 #[.pointer (some ⟨b7, 0, none⟩), .int .i64 ((kk : Int) + 1)] wd fun e w' => e = .returned (.string ⟨#[]⟩) ∧ wd = w') := x_get hjd ((kk : Int) + 1) HG2.out
                have HGC : Hid (Calls Tryd.prog 39 #[.pointer (some ⟨b7, 0, none⟩), .int .i64 (-1)] wd fun e w' => e = .returned (.string ⟨#[]⟩) ∧ wd = w') := x_get hjd (-1) HG3.out
                have Hd := Lib.hid hxd
                have Jd := Lib.hid hjd
                have Ad := Lib.hid apd
                clear hxd hjd apd HAP3 HG1 HG2 HG3
                go_wp2_with fail
                refine HLN.out.mono ?_
                rintro e w' ⟨rfl, rfl⟩
                go_wp2_with fail
                refine HGA.out.mono ?_
                rintro e w' ⟨rfl, rfl⟩
                go_wp2_with fail
                refine HGB.out.mono ?_
                rintro e w' ⟨rfl, rfl⟩
                go_wp2_with fail
                refine HGC.out.mono ?_
                rintro e w' ⟨rfl, rfl⟩
                obtain ⟨we, Z, hZl, hmk, hbe, hcz⟩ := make_long wd
                have He := Lib.hid (Hd.out.go hbe)
                have Je := Lib.hid (Jd.out.past hbe)
                have HAL3 : Hid (Calls Tryd.prog 20 #[.pointer (some ⟨b7, 0, none⟩), .string (bStr Z)] we (AppEnd w we od jd bd b7 1 S3 ⟨L2, false⟩ 3)) := app_ok He.out Je.out Ad.out (hT.on He.out.below) HF2.out (t := Z) (by omega) (app_long (by omega))
                clear hZl hbe HLN HGA HGB HGC Hd Jd Ad He Je
                go_wp2_with fail
                refine HAL3.out.mono ?_
                rintro e wf ⟨of, jf, rfl, hxf, -, -, -⟩
                have HE := Lib.hid hxf.below
                clear hxf HAL3
                go_wp2_with fail
                go_ret
                exact ⟨rfl, HE.out⟩
end Go.Proofs.YtjlndgkahmcfdaaDoor
