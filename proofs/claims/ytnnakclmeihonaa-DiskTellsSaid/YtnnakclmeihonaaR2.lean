/- Bytes that a conversion has laid: an append of one byte to them. Conditions: what each says. -/
import Derived.Test.YtnnakclmeihonaaR1
import Derived.Laws.IdiomStrings
import Derived.Lib.AppendZeros
namespace Go.Proofs.Ytnnakclmeihonaa
open Go.RowKit Go.ChangeMaps

/-- Block g holds the bytes l and has room for cap; no cell of it is marked. -/
def BRow (w : World) (g cap : Nat) (l : List UInt8) : Prop :=
  ∃ cur fz, w.heap[g]? = some (.cells cur 5 fz) ∧ cur.size = cap ∧ l.length ≤ cap ∧ cap ≤ maxLen ∧ (cap ≤ fz.1 ∨ fz.2 = 0) ∧ cur.toList.take l.length = bv l

theorem BRow.cell {w : World} {g cap i : Nat} {l : List UInt8} (h : BRow w g cap l) (hi : i < l.length) : w.cell? ⟨g, i, none⟩ = (bv l)[i]? := by
  obtain ⟨cur, fz, hg, h1, h2, _, _, h3⟩ := h
  rw [cell_of_row w g i cur _ fz hg, ← h3, List.getElem?_take, if_pos hi]
  simp
theorem BRow.frozen {w : World} {g cap i : Nat} {l : List UInt8} (h : BRow w g cap l) (hi : i < cap) : w.frozen? ⟨g, i, none⟩ = false := by
  obtain ⟨cur, fz, hg, h1, h2, _, h4, _⟩ := h
  obtain ⟨lo, hi'⟩ := fz
  simp only [World.frozen?, hg, Bool.and_eq_false_iff, decide_eq_false_iff_not]
  simp only at h4
  omega
theorem BRow.lt {w : World} {g cap : Nat} {l : List UInt8} (h : BRow w g cap l) : g < w.heap.size := by
  obtain ⟨cur, fz, hg, _⟩ := h
  exact (Array.getElem?_eq_some_iff.1 hg).1
/-- A byte is stored. -/
theorem BRow.set {w : World} {g cap i : Nat} {l : List UInt8} (h : BRow w g cap l) (c : UInt8) : BRow (w.setCell ⟨g, i, none⟩ (.int .u8 (c.toNat : Int))) g cap (l.set i c) := by
  obtain ⟨cur, fz, hg, h1, h2, h3, h4, h5⟩ := h
  refine ⟨cur.setIfInBounds i (.int .u8 (c.toNat : Int)), fz, ?_, by simpa using h1, by simpa using h2, h3, h4, ?_⟩
  · rw [setCell_eq_setRow w g i cur _ fz _ hg]
    exact setRow_heap w g cur _ _ _ hg
  · rw [List.length_set, Array.toList_setIfInBounds, List.take_set, h5]
    unfold bv
    rw [List.map_set]
/-- One that stands behind the bytes is laid, where there is room. -/
theorem BRow.push {w : World} {g cap : Nat} {l : List UInt8} (h : BRow w g cap l) (hr : l.length < cap) (c : UInt8) : BRow (w.setCell ⟨g, l.length, none⟩ (.int .u8 (c.toNat : Int))) g cap (l ++ [c]) := by
  obtain ⟨cur, fz, hg, h1, h2, h3, h4, h5⟩ := h
  refine ⟨cur.setIfInBounds l.length (.int .u8 (c.toNat : Int)), fz, ?_, by simpa using h1, by simp; omega, h3, h4, ?_⟩
  · rw [setCell_eq_setRow w g l.length cur _ fz _ hg]
    exact setRow_heap w g cur _ _ _ hg
  · rw [List.length_append, Array.toList_setIfInBounds]
    have hlc : l.length < cur.toList.length := by simpa using (by omega : l.length < cur.size)
    rw [show l.length + [c].length = l.length + 1 from rfl, List.take_succ_eq_append_getElem (by simpa using (by omega : l.length < cur.size)), List.take_set_of_le (Nat.le_refl _), h5, bv_app]
    simp [bv]

end Go.Proofs.Ytnnakclmeihonaa

/- An append of one byte to bytes that a conversion has laid, in their own block or in a new one. Conditions: sizes. -/
namespace Go.Proofs.Ytnnakclmeihonaa
open Go.RowKit Go.ChangeMaps

theorem BRow.append {w : World} {g cap : Nat} {l : List UInt8} (h : BRow w g cap l) (c : UInt8) (a : Addr) (cc : Nat) (hc : w.cell? (a.add 0) = some (.int .u8 (c.toNat : Int))) (hl : l.length ≤ 1000000000) (ty : TypeId) :
    ∃ g' cap' w', (Builtin.append_ #[62, 62] ty #[.slice (some ⟨g, 0, none⟩) l.length cap, .slice (some a) 1 cc]).run Try.prog w = .ok (.slice (some ⟨g', 0, none⟩) (l.length + 1) cap') w' ∧
      BRow w' g' cap' (l ++ [c]) ∧ w.grownBy w' (some g) ∧ (g' = g ∨ g' = w.heap.size) := by
  obtain ⟨i0, hi, hz0, hz1, hz2⟩ := info_parts infoU8
  have hcells : ∀ j u, [Value.int .u8 (c.toNat : Int)][j]? = some u → w.cell? (a.add j) = some u := fun j u hj => by
    cases j with
    | zero => simp at hj; rw [← hj]; exact hc
    | succ j => simp at hj
  by_cases hr : l.length + 1 ≤ cap
  · refine ⟨g, cap, w.setCell ⟨g, l.length, none⟩ (.int .u8 (c.toNat : Int)), ?_, h.push hr c, setCell_grown w _ _, .inl rfl⟩
    have hf := run_firstCells_some (P := Try.prog) w 1 1 a 1 cc [.int .u8 (c.toNat : Int)] rfl hcells
    have hfro := h.frozen (i := l.length) (by omega)
    obtain ⟨cur, fz, hg, h1, h2, h3, h4, h5⟩ := h
    have hcell : w.cell? ⟨g, l.length, none⟩ = some (cur[l.length]'(by omega)) := by
      rw [cell_of_row w g l.length cur _ fz hg]
      exact Array.getElem?_eq_getElem (by omega)
    have hst := run_store Try.prog w ⟨g, l.length, none⟩ (.int .u8 (c.toNat : Int)) .plain rfl
    rw [hcell] at hst
    simp only [hfro] at hst
    simp [Builtin.append_, run_underlying Try.underlying62, sizeOf, typeInfo, hi, hz1, Builtin.lenOf, hr, hf, Addr.add_lit, storeCells, hst]
  · have holds : ∀ j u, (bv l)[j]? = some u → w.cell? ((⟨g, 0, none⟩ : Addr).add j) = some u := fun j u hj => by
      have hjl : j < l.length := by have := (List.getElem?_eq_some_iff.1 hj).1; rw [bv_len] at this; exact this
      rw [show (Addr.mk g 0 none).add j = ⟨g, j, none⟩ from by simp [Addr.add]; omega, h.cell hjl, hj]
    have hrun := run_append_grow (P := Try.prog) w 62 ty 5 i0 _ Try.underlying62 hi hz0 ⟨g, 0, none⟩ l.length cap (bv l) (by rw [hz1, bv_len]; omega) holds a 1 cc [.int .u8 (c.toNat : Int)] (by rw [hz1]; rfl) hcells (by omega) (by omega) (growslice_fits (by omega) (by rw [hz2]; omega))
    refine ⟨w.heap.size, _, _, hrun, ⟨_, (0, 0), heap_alloc_new w.drew _, ?_, ?_, grownCap_le_maxLen w _ _ _ (by unfold maxLen; omega), .inr rfl, ?_⟩, ⟨rfl, rfl, rfl, by simp, fun k hk _ => heap_alloc_old w.drew _ hk⟩, .inr rfl⟩
    · have := grownCap_ge w (l.length + 1) cap 5
      simp [bv, Builtin.zeroCells, Value.cells]
      omega
    · have := grownCap_ge w (l.length + 1) cap 5
      simp
      omega
    · rw [List.length_append, bv_app]
      simp only [Array.toList_append, List.append_assoc]
      rw [← List.append_assoc]
      refine (List.take_left' ?_).trans rfl
      simp [bv]

end Go.Proofs.Ytnnakclmeihonaa

/- The walk of the reference's Put. Conditions: sizes. -/
namespace Go.Proofs.Ytnnakclmeihonaa
open Go.RowKit Go.ChangeMaps

def sliceLen : Value → Nat
  | .slice _ n _ => n
  | _ => 0
theorem BRow.kept {w w' : World} {g cap : Nat} {l : List UInt8} (h : BRow w g cap l) (hk : w'.heap[g]? = w.heap[g]?) : BRow w' g cap l := by
  obtain ⟨cur, fz, hg, rest⟩ := h
  exact ⟨cur, fz, hk.trans hg, rest⟩
theorem BRow.cap_le {w : World} {g cap : Nat} {l : List UInt8} (h : BRow w g cap l) : l.length ≤ cap := by
  obtain ⟨cur, fz, hg, h1, h2, _⟩ := h
  exact h2
theorem run_conv_in (w : World) (l : List UInt8) (hl : l.length ≤ 1000000000) : ∃ g cap w', (convert 9 62 (.string (bStr l))).run Try.prog w = .ok (.slice (some ⟨g, 0, none⟩) l.length cap) w' ∧ BRow w' g cap l ∧ Below w.heap.size w w' ∧ w.heap.size ≤ g := by
  have h := run_bytes_of_string (P := Try.prog) w 9 62 5 (bStr l) Try.underlying9 Try.underlying62 Try.underlying5
  rw [bStr_size] at h
  have hge := grownCap_ge w l.length 0 5
  refine ⟨_, _, _, h, ⟨_, _, heap_alloc_new w.drew _, ?_, hge, ?_, .inl ?_, ?_⟩, ⟨rfl, rfl, rfl, by simp, fun k hk => heap_alloc_old w.drew _ hk⟩, Nat.le_refl _⟩
  · simp [bytesRow, bStr, ByteArray.size]
    omega
  · exact grownCap_le_maxLen w _ _ _ (by unfold maxLen; omega)
  · simp [bytesRow, bStr, ByteArray.size]
    omega
  · simp only [bytesRow, Array.toList_append]
    refine (List.take_left' ?_).trans ?_
    · simp [bStr]
    · simp [bStr, bv]

theorem run_conv_out {w : World} {g cap : Nat} {l : List UInt8} (h : BRow w g cap l) (kc : Nat) :
    (convert 62 9 (.slice (some ⟨g, 0, none⟩) l.length kc)).run Try.prog w = .ok (.string (bStr l)) w := by
  have hr := run_convert_bytes_arg (P := Try.prog) w 62 5 Try.underlying62 Try.underlying5 g 0 l.length kc (l.map fun c => (c.toNat : Int)) (by rw [List.length_map])
    (fun i hi => by
      rw [Nat.zero_add, h.cell hi]
      unfold bv
      rw [List.getElem?_map, List.getElem?_eq_getElem hi]
      simp only [Option.map_some, Option.some.injEq]
      congr 1
      rw [List.getD_eq_getElem?_getD, List.getElem?_map, List.getElem?_eq_getElem hi]
      rfl) 9 Try.underlying9
  rw [hr]
  congr 2
  unfold strOfNums bStr
  congr 2
  rw [List.map_map]
  have : ((fun n : Int => UInt8.ofNat n.toNat) ∘ fun c : UInt8 => (c.toNat : Int)) = id := by funext c; simp
  rw [this, List.map_id]
theorem extB_step {l : List UInt8} {m : Nat} (h : l.length ≤ m) : extB l (m + 1) = extB l m ++ [0] := by
  unfold extB
  rw [show m + 1 - l.length = (m - l.length) + 1 from by omega, List.replicate_succ', List.append_assoc]

set_option maxRecDepth 4000 in
set_option maxHeartbeats 2000000 in
theorem r_put (l : List UInt8) (a : Nat) (t : ByteArray) (w : World) (hl : l.length ≤ 16777216) (ha : a + t.size ≤ 16777216) :
    Calls Try.prog 64 #[.string (bStr l), .int .i64 (a : Int), .string t] w fun e w' => e = .returned (.string (bStr (if t.size = 0 then l else putB l a t.data.toList))) ∧ Below w.heap.size w w' := by
  have ht := Lib.toList_data t
  have hts : t.data.toList.length = t.size := rfl
  by_cases h0 : t.size = 0
  · rw [if_pos h0]
    have hnil : t.data.toList = [] := List.eq_nil_of_length_eq_zero (by omega)
    rw [hnil] at ht
    clear hnil hts
    go_enter Try.func64, Try.ntmps64
    go_wp2_with fail
    go_ret
    exact ⟨rfl, Below.refl _ _⟩
  · rw [if_neg h0]
    have hne : ¬ t.toList = [] := fun e => h0 (by rw [ht] at e; rw [← hts, e]; rfl)
    have hie : t.toList.isEmpty = false := by cases h5 : t.toList with | nil => exact absurd h5 hne | cons _ _ => rfl
    have HT := Lib.hid ht
    obtain ⟨g0, cap0, W1, hrun, hrow, hbel, hge⟩ := run_conv_in w l (by omega)
    have HCV := Lib.hid hrun
    have HROW := Lib.hid hrow
    have HBEL := Lib.hid (And.intro hge hbel)
    have hcap := hrow.cap_le
    have q0 := bStr_size l
    clear ht hrun hrow hge hbel
    go_enter Try.func64, Try.ntmps64
    go_wp2_with (refine wpList_convert_run rfl (.tmp 12) 9 62 rfl _ rfl _ _ HCV.out ?_)
    go_loopw [7] (fun v wr => ∃ (m g cap : Nat), v = .slice (some ⟨g, 0, none⟩) m cap ∧ l.length ≤ m ∧ m ≤ max l.length (a + t.size) ∧ Hid (BRow wr g cap (extB l m)) ∧ Hid (w.heap.size ≤ g ∧ Below w.heap.size w wr)) (fun v _ => a + t.size - sliceLen v)
    case atStart => exact ⟨l.length, g0, cap0, rfl, Nat.le_refl _, by omega, by rw [extB_le (Nat.le_refl _)]; exact HROW.out, HBEL.out⟩
    case round =>
      clear HCV HROW HBEL hcap
      obtain ⟨m, g, cap, rfl, hm1, hm2, HROW, HBEL⟩ := hrel
      have hel : (extB l m).length = m := by rw [extB_len]; omega
      by_cases hlt : m < a + t.size
      · have hlt' : (m : Int) < (a : Int) + (t.size : Int) := by omega
        have hA := BRow.append (w := wr.alloc (.cells #[.int .u8 0] 5)) (HROW.out.kept (heap_alloc_old wr _ HROW.out.lt)) 0 ⟨wr.heap.size, 0, none⟩ 1 (by simp [Addr.add]) (by omega) 62
        rw [hel, ← extB_step hm1] at hA
        obtain ⟨g', cap', w', hrun, hrow', hgr, hg'⟩ := hA
        have HR := Lib.hid hrun
        have HROW2 := Lib.hid hrow'
        have HBEL2 : Hid (w.heap.size ≤ g' ∧ Below w.heap.size w w') := by
          have h1 := HBEL.out
          have h2 := h1.2.alloc h1.2.size (.cells #[.int .u8 0] 5)
          refine ⟨?_, h2.grown hgr h2.size (fun k e => by cases e; exact h1.1)⟩
          rcases hg' with rfl | rfl
          · exact h1.1
          · exact h2.size
        clear hrun hrow' hgr hg' HROW HBEL hel
        go_wp2_with (at_builtin; refine Lib.wpList_append_run _ rfl _ _ _ _ rfl _ _ rfl rfl _ _ HR.out ?_)
        go_roundw
        case rel => exact ⟨m + 1, g', cap', rfl, by omega, by omega, HROW2, HBEL2⟩
        case measure => simp [sliceLen]; omega
      · have hlt' : ¬ (m : Int) < (a : Int) + (t.size : Int) := by omega
        have hcap := HROW.out.cap_le
        rw [hel] at hcap
        go_wp2_with fail
        obtain ⟨wo, hwo⟩ : ∃ wo : World, wo = wr := ⟨_, rfl⟩
        have HEL := Lib.hid hel
        clear hel
        go_loopw [8] (fun v w2 => ∃ (i : Nat) (q : List UInt8), v = .int .i64 i ∧ i ≤ t.size ∧ q.length = m ∧ Hid (∀ j, atB q j = if a ≤ j ∧ j < a + i then atB t.data.toList (j - a) else atB l j) ∧ Hid (BRow w2 g cap q) ∧ Hid (Below w.heap.size w w2)) (fun v _ => t.size - (RowKit.intOf v).toNat)
        case atStart => exact ⟨0, extB l m, rfl, Nat.zero_le _, HEL.out, (fun j => by rw [if_neg (by omega), extB_at]), HROW.out, HBEL.out.2⟩
        case round =>
          have HGE := Lib.hid HBEL.out.1
          clear HROW HBEL HEL
          obtain ⟨i, q, rfl, hi, hqm, HQ, HROW, HB⟩ := hrel
          by_cases hit : i < t.size
          · have hit' : (i : Int) < (t.size : Int) := by omega
            have hk0 : 0 ≤ (i : Int) := by omega
            have hai : (a : Int) + (i : Int) < (m : Int) := by omega
            have hc0 := HROW.out.cell (i := a + i) (by omega)
            have hc1 := HROW.out.frozen (i := a + i) (by omega)
            rw [List.getElem?_eq_getElem (show a + i < (bv q).length by rw [bv_len]; omega)] at hc0
            have hset := HROW.out.set (i := a + i) t[i]
            have hval : atB t.data.toList i = t[i] := by
              have h3 := atB_lt (b := t.data.toList) (i := i) (by rw [hts]; exact hit)
              rw [List.getElem?_eq_getElem (by rw [hts]; exact hit)] at h3
              exact (Option.some.inj h3).symm
            have HQ2 : Hid (∀ j, atB (q.set (a + i) t[i]) j = if a ≤ j ∧ j < a + (i + 1) then atB t.data.toList (j - a) else atB l j) := fun j => by
              by_cases hj : j = a + i
              · subst hj
                rw [if_pos (by omega), show a + i - a = i from by omega, hval]
                unfold atB
                rw [List.getElem?_set_self (by omega)]
                rfl
              · have e : atB (q.set (a + i) t[i]) j = atB q j := by
                  unfold atB
                  rw [List.getElem?_set_ne (Ne.symm hj)]
                rw [e, HQ.out j]
                by_cases h5 : a ≤ j ∧ j < a + i
                · rw [if_pos h5, if_pos (by omega)]
                · rw [if_neg h5, if_neg (by omega)]
            have HS := Lib.hid hset
            have HB2 := Lib.hid (HB.out.setCell (p := ⟨g, a + i, none⟩) HGE.out (.int .u8 (t[i].toNat : Int)))
            have hql : (q.set (a + i) t[i]).length = m := by rw [List.length_set]; exact hqm
            have HQL := Lib.hid hql
            clear hset HQ HROW HB hval hql
            go_wp2_with fail
            go_roundw
            case rel => exact ⟨i + 1, _, by go_num, by omega, HQL.out, HQ2, HS, HB2⟩
            case measure => simp [RowKit.intOf]; omega
          · obtain rfl : i = t.size := by omega
            have hqe : q = putB l a t.data.toList := ext_atB (by rw [hqm, putB_len, hts]; omega) (fun j _ => by rw [HQ.out j, putB_at, hts])
            have hco := run_conv_out HROW.out cap
            rw [hqm, hqe] at hco
            have HCO := Lib.hid hco
            clear hco hqe HQ HROW
            go_wp2_with (refine wpList_convert_run rfl (.tmp 38) 62 9 rfl _ rfl _ _ HCO.out ?_)
            go_ret
            exact ⟨rfl, HB.out⟩

end Go.Proofs.Ytnnakclmeihonaa

/- The walk of the reference's add. Conditions: sizes. -/
namespace Go.Proofs.Ytnnakclmeihonaa
open Go.RowKit Go.ChangeMaps Go.MapKept

theorem Rk.far {w w' : World} {own own' : Nat → Option Nat} {b : Nat} {fv qv kv : Value} {s : Rs} (h : Rk w own b fv qv kv s) (t : Tr (fun _ => False) w own own' w') : Rk w' own' b fv qv kv s :=
  ⟨t.blk h.blk (fun _ _ h => h), t.role h.blk.lt h.ob, h.files.keep t (fun h => h), h.queue.keep t (fun h => h), h.keep.keep t (fun h => h), t.inb⟩
theorem setR_len (l : List Fl) (x : Fl) : (setR l x).length ≤ l.length + 1 := by
  unfold setR
  rw [List.length_append]
  have := notNo_len x.no l
  simp
  omega

def addR (s : Rs) (f : Int) (a : Nat) (t : List UInt8) : Rs :=
  if t.length = 0 then s else { s with files := setR s.files ⟨(getR s.files f).no, putB (getR s.files f).now a t, (getR s.files f).last⟩, queue := addUpto s.queue f (a / 64) ((a + t.length + 63) / 64 - a / 64) }

set_option maxRecDepth 4000 in
set_option maxHeartbeats 2000000 in
theorem r_add (w : World) (own : Nat → Option Nat) (b : Nat) (fv qv kv : Value) (s : Rs) (f : Int) (a : Nat) (t : ByteArray) (h : Rk w own b fv qv kv s) (hn : s.files.length ≤ 1000000) (hq : s.queue.length ≤ 30000000) (hz : (getR s.files f).now.length ≤ 16777216) (ha : a + t.size ≤ 16777216) :
    Calls Try.prog 57 #[.pointer (some ⟨b, 0, none⟩), .int .i64 f, .int .i64 (a : Int), .string t] w (REnd2 w own b (addR s f a t.data.toList) (.tuple #[])) := by
  obtain ⟨i0, hi, hz0, hz1, hz2⟩ := info_parts infoSecR
  have ht := Lib.toList_data t
  have hts : t.data.toList.length = t.size := rfl
  by_cases h0 : t.size = 0
  · have e : addR s f a t.data.toList = s := by unfold addR; rw [if_pos (by omega)]
    rw [e]
    have hnil : t.data.toList = [] := List.eq_nil_of_length_eq_zero (by omega)
    rw [hnil] at ht
    have HE : Hid (REnd2 w own b s (.tuple #[]) (.returned (.tuple #[])) w) := ⟨rfl, own, fv, qv, kv, h, Tr.refl _ h.inb⟩
    clear hnil hts h e
    go_enter Try.func57, Try.ntmps57
    go_wp2_with fail
    go_end0
    exact HE.out
  · have hie : t.toList.isEmpty = false := by
      rw [ht]
      cases h5 : t.data.toList with
      | nil => exact absurd (by rw [← hts, h5]; rfl) h0
      | cons _ _ => rfl
    have HG := Lib.hid (r_get w own b fv qv kv s f h hn)
    have HH := Lib.hid h
    have hbl := h.blk.lt
    have hadd : addR s f a t.data.toList = { s with files := setR s.files ⟨(getR s.files f).no, putB (getR s.files f).now a t.data.toList, (getR s.files f).last⟩, queue := addUpto s.queue f (a / 64) ((a + t.size + 63) / 64 - a / 64) } := by unfold addR; rw [if_neg (by omega)]; rfl
    rw [hadd]
    obtain ⟨n0, hn0⟩ : ∃ n0, a / 64 = n0 := ⟨_, rfl⟩
    obtain ⟨K, hK⟩ : ∃ K, (a + t.size + 63) / 64 - n0 = K := ⟨_, rfl⟩
    rw [hn0, hK]
    generalize getR s.files f = x at *
    have HP := Lib.hid (fun W => r_put x.now a t W hz ha)
    rw [if_neg h0] at HP
    clear h hadd ht
    unfold flV at HG
    go_enter Try.func57, Try.ntmps57
    go_wp2_with fail
    refine HG.out.mono ?_
    rintro e w1 ⟨rfl, b1⟩
    have HB1 := Lib.hid b1
    clear b1
    go_wp2_with fail
    refine (HP.out _).mono ?_
    rintro e w2 ⟨rfl, b2⟩
    have HX2 := Lib.hid ((Blk.new w1 66 #[.int .i64 x.no, .string (bStr x.now), .string (bStr x.last)]).below b2 (by simp))
    have HB2 : Hid (Below w.heap.size w w2) := ((HB1.out.alloc HB1.out.size _).trans (b2.mono (by have := HB1.out.size; simp; omega)))
    have x1 := HX2.out.cell 1
    have y1 := HX2.out.frozen 1
    have x0 := HX2.out.cell 0
    have x2 := HX2.out.cell 2
    have hsz := HB1.out.size
    clear b2
    go_wp2_with fail
    have hb3 := HB2.out.setCell (p := ⟨w1.heap.size, 1, none⟩) hsz (.string (bStr (putB x.now a t.data.toList)))
    have t3 := Tr.of_below (fun _ => False) HH.out.inb hb3
    have HS := Lib.hid (r_set _ own b fv qv kv s ⟨x.no, putB x.now a t.data.toList, x.last⟩ (HH.out.far t3) hn)
    have HT3 := Lib.hid t3
    clear hb3 t3 x0 x1 x2 y1 HX2 HB2 HB1 HG HP HH
    generalize w2.setCell ⟨w1.heap.size, 1, none⟩ (.string (bStr (putB x.now a t.data.toList))) = w3 at *
    unfold flV at HS
    refine HS.out.mono ?_
    rintro e w4 ⟨rfl, own4, fv4, qv4, kv4, hk4, tr4⟩
    have HK4 := Lib.hid hk4
    have HTR4 : Hid (Tr (fun _ => True) w own own4 w4) := (HT3.out.weak (fun _ h => h.elim)).trans tr4
    clear hk4 tr4 HS HT3
    have hk1 : (a + t.size - 1) / 64 + 1 = n0 + K := by omega
    have hKb : K ≤ 262145 := by omega
    have hnb : n0 ≤ 262144 := by omega
    have hdiv : ((a : Int) + (t.size : Int) - 1).tdiv 64 = (n0 : Int) + (K : Int) - 1 := by
      rw [show (a : Int) + (t.size : Int) - 1 = ((a + t.size - 1 : Nat) : Int) by omega]
      show (((a + t.size - 1) / 64 : Nat) : Int) = _
      omega
    have HN0 := Lib.hid hn0
    clear hn0 hK hk1
    generalize setR s.files ⟨x.no, putB x.now a t.data.toList, x.last⟩ = F at *
    go_wp2_with fail
    obtain ⟨wo, rfl⟩ : ∃ wo, wo = w4 := ⟨_, rfl⟩
    go_loopw [9] (fun v wr => ∃ (n : Nat) (own2 : Nat → Option Nat) (fv2 qv2 kv2 : Value), v = .int .i64 (n : Int) ∧ n0 ≤ n ∧ n ≤ n0 + K ∧ Hid (Rk wr own2 b fv2 qv2 kv2 { s with files := F, queue := addUpto s.queue f n0 (n - n0) }) ∧ Hid (Tr (fun _ => True) w own own2 wr)) (fun v _ => n0 + K - (RowKit.intOf v).toNat)
    case atStart => exact ⟨n0, own4, fv4, qv4, kv4, by rw [← HN0.out]; congr 1, Nat.le_refl _, by omega, by rw [Nat.sub_self]; exact HK4.out, HTR4.out⟩
    case round =>
      clear HK4 HTR4
      obtain ⟨n, own2, fv2, qv2, kv2, rfl, hn1, hn2, HK, HTR⟩ := hrel
      by_cases hlt : n < n0 + K
      · have hlt' : (n : Int) ≤ (n0 : Int) + (K : Int) - 1 := by omega
        have hql := addUpto_len s.queue f n0 (n - n0)
        have HPD := Lib.hid (r_pending wr own2 b fv2 qv2 kv2 _ f (n : Int) HK.out (by show (addUpto s.queue f n0 (n - n0)).length ≤ _; omega))
        have hstep : addUpto s.queue f n0 (n + 1 - n0) = addS (addUpto s.queue f n0 (n - n0)) (f, (n : Int)) := by
          rw [show n + 1 - n0 = (n - n0) + 1 from by omega]
          show addS _ (f, ((n0 + (n - n0) : Nat) : Int)) = _
          rw [show n0 + (n - n0) = n from by omega]
        cases hin : inQ (addUpto s.queue f n0 (n - n0)) f (n : Int) with
        | true =>
          have hs : addUpto s.queue f n0 (n + 1 - n0) = addUpto s.queue f n0 (n - n0) := by rw [hstep]; unfold addS; rw [if_pos (by unfold inQ at hin; simpa using hin)]
          have HST := Lib.hid hs
          have HPD2 : Hid (Calls Try.prog 65 #[.pointer (some ⟨b, 0, none⟩), .int .i64 f, .int .i64 (n : Int)] wr fun e w' => e = .returned (.bool true) ∧ wr = w') := by rw [← hin]; exact HPD.out
          clear hs hstep hin HPD
          go_wp2_with fail
          refine HPD2.out.mono ?_
          rintro e w' ⟨rfl, rfl⟩
          go_wp2_with fail
          go_roundw
          case rel => exact ⟨n + 1, own2, fv2, qv2, kv2, by go_num, by omega, by omega, by rw [HST.out]; exact HK.out, HTR⟩
          case measure => simp [RowKit.intOf]; omega
        | false =>
          have hs : addUpto s.queue f n0 (n + 1 - n0) = addUpto s.queue f n0 (n - n0) ++ [(f, (n : Int))] := by rw [hstep]; unfold addS; rw [if_neg (by unfold inQ at hin; simpa using hin)]
          have HST := Lib.hid hs
          have HPD2 : Hid (Calls Try.prog 65 #[.pointer (some ⟨b, 0, none⟩), .int .i64 f, .int .i64 (n : Int)] wr fun e w' => e = .returned (.bool false) ∧ wr = w') := by rw [← hin]; exact HPD.out
          clear hs hstep hin HPD
          generalize addUpto s.queue f n0 (n - n0) = Q at *
          have c1 := HK.out.blk.cell 1
          have hQR := HK.out.queue
          obtain ⟨Aq, cq, rfl, _, _⟩ := own_slice hQR.1
          have ta := (Tr.refl (fun _ => False) HK.out.inb).alloc (.cells #[.int .i64 f, .int .i64 (n : Int)] 83)
          have HQ3 := Lib.hid (hQR.keep ta (fun h => h))
          have HK3 := Lib.hid (HK.out.far ta)
          have HT3 := Lib.hid (HTR.out.alloc (.cells #[.int .i64 f, .int .i64 (n : Int)] 83))
          have HR3 : Hid (Reads (wr.alloc (.cells #[.int .i64 f, .int .i64 (n : Int)] 83)) (wr.heap.size + 1) 2 (some ⟨wr.heap.size, 0, none⟩) 1 (secC [(f, (n : Int))])) := by
            refine ⟨by rw [secC_len]; rfl, fun _ => ⟨_, rfl, by simp, fun j u hj => ?_⟩⟩
            have hc := cell_of_row (wr.alloc (.cells #[.int .i64 f, .int .i64 (n : Int)] 83)) wr.heap.size j _ _ (0, 0) (heap_alloc_new wr _)
            rw [show (Addr.mk wr.heap.size 0 none).add j = ⟨wr.heap.size, j, none⟩ from by simp [Addr.add]; omega, hc]
            simpa [secC] using hj
          clear hQR ta HK HTR
          go_wp2_with fail
          refine HPD2.out.mono ?_
          rintro e w' ⟨rfl, rfl⟩
          go_wp2_with (at_builtin; refine wpList_append_any _ rfl (.tmp 45) (.tmp 49) 58 rfl 0 83 i0 _ 2 16 Try.underlying58 hi hz0 hz1 hz2 rfl (by decide) (.slice Aq Q.length cq) Q.length (secC Q) rfl HQ3.out.1 _ (some ⟨wr.heap.size, 0, none⟩) 1 1 (secC [(f, (n : Int))]) rfl HR3.out (secC_one _) (by unfold maxLen; omega) (by omega) (Nat.zero_le _) ?_; intro v' w' u1 u2 u3; obtain ⟨A5, c5, rfl, _, _⟩ := own_slice u1; obtain ⟨own5, hrow, tg⟩ := Row.after (R := fun r => r = 2) HQ3.out HK3.out.inb rfl u2 u1 (u3.imp id (fun e => ⟨_, Nat.le_refl _, e⟩)); have hb5 := tg.blkR HK3.out.blk HK3.out.ob (by decide); have d5 := hb5.cell 1; have f5 := hb5.frozen 1; have HB5 := Lib.hid hb5; have HROW := Lib.hid hrow; have HTG := Lib.hid tg; clear u1 u2 u3 hrow tg hb5)
          have ob5 := HTG.out.role HK3.out.blk.lt HK3.out.ob
          have S5 := (Tr.refl (fun r => r = 0) HTG.out.inb).setOwn (p := ⟨b, 1, none⟩) ob5 rfl (.slice A5 (Q.length + 1) c5)
          have HK5 : Hid (Rk (w'.setCell ⟨b, 1, none⟩ (.slice A5 (Q.length + 1) c5)) own5 b fv2 (.slice A5 (Q.length + 1) c5) kv2 { s with files := F, queue := Q ++ [(f, (n : Int))] }) := by
            refine ⟨HB5.out.set_ 1 (.slice A5 (Q.length + 1) c5), ob5, ?_, ?_, ?_, S5.inb⟩
            · exact (HK3.out.files.keep HTG.out (by decide)).keep S5 (by decide)
            · have hr := HROW.out.keep S5 (by decide)
              show Row _ _ 2 _ 2 _ (Q ++ [(f, (n : Int))]).length (secC (Q ++ [(f, (n : Int))]))
              rw [List.length_append, secC_app]
              exact hr
            · exact (HK3.out.keep.keep HTG.out (by decide)).keep S5 (by decide)
          have HT5 : Hid (Tr (fun _ => True) w own own5 (w'.setCell ⟨b, 1, none⟩ (.slice A5 (Q.length + 1) c5))) := (HT3.out.trans (HTG.out.weak (fun _ _ => trivial))).trans (S5.weak (fun _ _ => trivial))
          clear HK3 HT3 HQ3 HR3 HB5 HROW HTG S5 ob5
          go_wp2_with fail
          go_roundw
          case rel => exact ⟨n + 1, own5, fv2, _, kv2, by go_num, by omega, by omega, by rw [HST.out]; exact HK5.out, HT5⟩
          case measure => simp [RowKit.intOf]; omega
      · obtain rfl : n = n0 + K := by omega
        have hlt' : ¬ ((n0 + K : Nat) : Int) ≤ (n0 : Int) + (K : Int) - 1 := by omega
        have hlt2 : ¬ (n0 : Int) + (K : Int) ≤ (n0 : Int) + (K : Int) - 1 := by omega
        have hK2 := HK.out
        rw [show n0 + K - n0 = K from by omega] at hK2
        have HE : Hid (REnd2 w own b { s with files := F, queue := addUpto s.queue f n0 K } (.tuple #[]) (.returned (.tuple #[])) wr) := ⟨rfl, own2, fv2, qv2, kv2, hK2, HTR.out⟩
        clear hK2 HK HTR
        go_wp2_with fail
        go_end0
        exact HE.out

end Go.Proofs.Ytnnakclmeihonaa

/- The walk of the reference's Arm. Conditions: the list lies below the disk's blocks; sizes. -/
namespace Go.Proofs.Ytnnakclmeihonaa
open Go.RowKit Go.ChangeMaps

set_option maxRecDepth 4000 in
set_option maxHeartbeats 1000000 in
theorem r_arm_core (w : World) (own : Nat → Option Nat) (b : Nat) (fv qv kv : Value) (s : Rs) (n x : Int) (A : Option Addr) (nk c : Nat) (l : List Int) (h : Rk w own b fv qv kv s) (hr : Reads w w.heap.size 1 A nk (inV l)) (hb : 0 < nk → ∀ ad, A = some ad → ad.block ≠ b) (hnk : nk ≤ 1000000)
    (hx : (n < 0 ∧ x = 0) ∨ (¬ n < 0 ∧ x = n)) :
    Calls Try.prog 35 #[.pointer (some ⟨b, 0, none⟩), .int .i64 n, .slice A nk c] w (REnd2 w own b { s with armed := x, keep := l } (.tuple #[])) := by
  obtain ⟨i0, hi, hz0, hz1, hz2⟩ := info_parts infoInt
  have hl : l.length = nk := by have := hr.1; rw [inV_len] at this; omega
  have c4 := h.blk.cell 4
  have f4 := h.blk.frozen 4
  have hB := h.blk.set_ 4 (.int .i64 x)
  have t1 := h.set0 4 (.int .i64 x)
  have hk := h.struct t1 s.lost x s.down hB
  have hr1 : Reads (w.setCell ⟨b, 4, none⟩ (.int .i64 x)) w.heap.size 1 A nk (inV l) := by
    refine ⟨hr.1, fun h0 => ?_⟩
    obtain ⟨ad, e1, e2, e3⟩ := hr.2 h0
    refine ⟨ad, e1, e2, fun j u hj => ?_⟩
    rw [World.cell?_setCell_far _ _ _ _ (by rw [block_of_add]; exact (hb h0 ad e1).symm)]
    exact e3 j u hj
  have hs1 : (w.setCell ⟨b, 4, none⟩ (.int .i64 x)).heap.size = w.heap.size := by simp [World.setCell]
  have tz := (Tr.refl (fun _ => False) hk.inb).alloc (.cells #[] 3)
  have HK := Lib.hid hk
  have HTZ := Lib.hid tz
  have HT := Lib.hid ((t1.weak (fun _ _ => trivial) : Tr (fun _ => True) w own own _).alloc (.cells #[] 3))
  have HR := Lib.hid (hr1.alloc (by rw [hs1]; exact Nat.le_refl _) (.cells #[] 3))
  have HO : Hid (((w.setCell ⟨b, 4, none⟩ (.int .i64 x)).alloc (.cells #[] 3)).ownsRow 0 3 1 (.slice (some ⟨w.heap.size, 0, none⟩) 0 0) 0 []) :=
    ⟨rfl, .inr ⟨w.heap.size, 0, #[], rfl, Nat.zero_le _, by rw [← hs1]; exact heap_alloc_new _ _, Nat.le_refl _, Nat.zero_le _, rfl, rfl⟩⟩
  have HN : Hid (w.heap.size < ((w.setCell ⟨b, 4, none⟩ (.int .i64 x)).alloc (.cells #[] 3)).heap.size) := by show _ < _; rw [← hs1]; simp
  clear hB t1 hk hr1 h hr tz
  rcases hx with ⟨hn, rfl⟩ | ⟨hn, rfl⟩
  · go_enter Try.func35, Try.ntmps35
    go_wp2_with (at_builtin; refine wpList_append_any _ rfl (.tmp 12) (.tmp 13) 31 rfl 0 3 i0 _ 1 8 Try.underlying31 hi hz0 hz1 hz2 rfl (by decide) (.slice (some ⟨w.heap.size, 0, none⟩) 0 0) 0 [] rfl HO.out _ A nk c (inV l) rfl HR.out (inV_one _) (by unfold maxLen; omega) (by omega) (Nat.zero_le _) ?_; intro v' w' u1 u2 u3; obtain ⟨A5, c5, rfl, _, _⟩ := own_slice u1; have HT5 := Lib.hid (HT.out.grown u2 (fun g e => by cases e; exact .inl (Nat.le_refl _))); have tz5 := HTZ.out.grown u2 (fun g e => by cases e; exact .inl (by rw [hs1]; exact Nat.le_refl _)); have hk5 := HK.out.far tz5; have d5 := hk5.blk.cell 5; have f5 := hk5.blk.frozen 5; have HK5 := Lib.hid hk5; have HTZ5 := Lib.hid tz5; have U1 := Lib.hid u1; have U3 := Lib.hid u3; clear u1 u2 u3 hk5 tz5)
    have hnew : ∀ g, (Value.slice A5 (0 + nk) c5).ownBlock = some g → (w.setCell ⟨b, 4, none⟩ (.int .i64 0)).heap.size ≤ g ∧ g < w'.heap.size := fun g e => by
      refine ⟨?_, (U1.out.lt g e).2⟩
      rw [hs1]
      rcases U3.out with u3 | u3
      · rw [u3] at e; cases e; exact Nat.le_refl _
      · rw [u3] at e; cases e; exact Nat.le_of_lt HN.out
    have TG := HTZ5.out.giveV hnew 3
    have HKG := Lib.hid (HK.out.far TG)
    have S5 := HKG.out.set0 5 (.slice A5 (0 + nk) c5)
    have HE : Hid (REnd2 w own b { s with armed := 0, keep := l } (.tuple #[]) (.returned (.tuple #[])) (w'.setCell ⟨b, 5, none⟩ (.slice A5 (0 + nk) c5))) := by
      refine ⟨rfl, _, fv, qv, .slice A5 (0 + nk) c5, ⟨HKG.out.blk.set_ 5 (.slice A5 (0 + nk) c5), HKG.out.ob, HKG.out.files.keep S5 (by decide), HKG.out.queue.keep S5 (by decide), ?_, S5.inb⟩, ?_⟩
      · have hr : Row w' (giveV own (.slice A5 (0 + nk) c5) 3) 3 3 1 (.slice A5 (0 + nk) c5) l.length (inV l) := by
          rw [show l.length = 0 + nk from by omega]
          exact ⟨U1.out, fun g e => giveV_same e⟩
        exact hr.keep S5 (by decide)
      · exact (HT5.out.giveV (fun g e => ⟨by have := (hnew g e).1; rw [hs1] at this; exact this, (hnew g e).2⟩) 3).trans (S5.weak (fun _ _ => trivial))
    clear TG S5 HKG HK HK5 HTZ HTZ5 HT HT5 U1 U3 HO HR HN hnew
    go_wp2_with fail
    go_end0
    have hE := HE.out
    rw [Nat.zero_add] at hE
    exact hE
  · go_enter Try.func35, Try.ntmps35
    go_wp2_with (at_builtin; refine wpList_append_any _ rfl (.tmp 12) (.tmp 13) 31 rfl 0 3 i0 _ 1 8 Try.underlying31 hi hz0 hz1 hz2 rfl (by decide) (.slice (some ⟨w.heap.size, 0, none⟩) 0 0) 0 [] rfl HO.out _ A nk c (inV l) rfl HR.out (inV_one _) (by unfold maxLen; omega) (by omega) (Nat.zero_le _) ?_; intro v' w' u1 u2 u3; obtain ⟨A5, c5, rfl, _, _⟩ := own_slice u1; have HT5 := Lib.hid (HT.out.grown u2 (fun g e => by cases e; exact .inl (Nat.le_refl _))); have tz5 := HTZ.out.grown u2 (fun g e => by cases e; exact .inl (by rw [hs1]; exact Nat.le_refl _)); have hk5 := HK.out.far tz5; have d5 := hk5.blk.cell 5; have f5 := hk5.blk.frozen 5; have HK5 := Lib.hid hk5; have HTZ5 := Lib.hid tz5; have U1 := Lib.hid u1; have U3 := Lib.hid u3; clear u1 u2 u3 hk5 tz5)
    have hnew : ∀ g, (Value.slice A5 (0 + nk) c5).ownBlock = some g → (w.setCell ⟨b, 4, none⟩ (.int .i64 x)).heap.size ≤ g ∧ g < w'.heap.size := fun g e => by
      refine ⟨?_, (U1.out.lt g e).2⟩
      rw [hs1]
      rcases U3.out with u3 | u3
      · rw [u3] at e; cases e; exact Nat.le_refl _
      · rw [u3] at e; cases e; exact Nat.le_of_lt HN.out
    have TG := HTZ5.out.giveV hnew 3
    have HKG := Lib.hid (HK.out.far TG)
    have S5 := HKG.out.set0 5 (.slice A5 (0 + nk) c5)
    have HE : Hid (REnd2 w own b { s with armed := x, keep := l } (.tuple #[]) (.returned (.tuple #[])) (w'.setCell ⟨b, 5, none⟩ (.slice A5 (0 + nk) c5))) := by
      refine ⟨rfl, _, fv, qv, .slice A5 (0 + nk) c5, ⟨HKG.out.blk.set_ 5 (.slice A5 (0 + nk) c5), HKG.out.ob, HKG.out.files.keep S5 (by decide), HKG.out.queue.keep S5 (by decide), ?_, S5.inb⟩, ?_⟩
      · have hr : Row w' (giveV own (.slice A5 (0 + nk) c5) 3) 3 3 1 (.slice A5 (0 + nk) c5) l.length (inV l) := by
          rw [show l.length = 0 + nk from by omega]
          exact ⟨U1.out, fun g e => giveV_same e⟩
        exact hr.keep S5 (by decide)
      · exact (HT5.out.giveV (fun g e => ⟨by have := (hnew g e).1; rw [hs1] at this; exact this, (hnew g e).2⟩) 3).trans (S5.weak (fun _ _ => trivial))
    clear TG S5 HKG HK HK5 HTZ HTZ5 HT HT5 U1 U3 HO HR HN hnew
    go_wp2_with fail
    go_end0
    have hE := HE.out
    rw [Nat.zero_add] at hE
    exact hE

theorem r_arm (w : World) (own : Nat → Option Nat) (b : Nat) (fv qv kv : Value) (s : Rs) (n : Int) (A : Option Addr) (nk c : Nat) (l : List Int) (h : Rk w own b fv qv kv s) (hr : Reads w w.heap.size 1 A nk (inV l)) (hb : 0 < nk → ∀ ad, A = some ad → ad.block ≠ b) (hnk : nk ≤ 1000000) :
    Calls Try.prog 35 #[.pointer (some ⟨b, 0, none⟩), .int .i64 n, .slice A nk c] w (REnd2 w own b { s with armed := pos n, keep := l } (.tuple #[])) :=
  r_arm_core w own b fv qv kv s n (pos n) A nk c l h hr hb hnk (by unfold pos; omega)

end Go.Proofs.Ytnnakclmeihonaa
