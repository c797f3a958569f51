/- The walk of slices.DeleteFunc at sectors, with settle's literal. Conditions: the sectors of the file are right. -/
import Derived.Test.YtjlndgkahmcfdaaDoorIx
import Derived.Test.YtjlndgkahmcfdaaDoorPd
namespace Go.Proofs.YtjlndgkahmcfdaaDoor
set_option maxRecDepth 8000
open Go.RowKit Go.ChangeMaps

section
variable {w w' : World} {own own' : Nat → Option Nat} {b m k g c n : Nat} {kv : Value} {mark : Int × Int → Prop} {s : Ds}

/-- A row, behind cells that are stored from place o on. -/
theorem row_spliced {e : TypeId} {size g n cap : Nat} {xs cs : List Value} {o : Nat} (h : w.ownsRow 0 e size (.slice (some ⟨g, 0, none⟩) n cap) n xs) (ho : o + cs.length ≤ n * size) :
    ∃ cur : Array Value, w.heap[g]? = some (.cells cur e (0, 0)) ∧ n * size ≤ cur.size ∧
      (w.setRow g (cur.toList.take o ++ cs ++ cur.toList.drop (o + cs.length)).toArray).ownsRow 0 e size (.slice (some ⟨g, 0, none⟩) n cap) n (xs.take o ++ (cs ++ xs.drop (o + cs.length))) ∧
      w.grownBy (w.setRow g (cur.toList.take o ++ cs ++ cur.toList.drop (o + cs.length)).toArray) (some g) := by
  rcases h.2 with ⟨hv, _⟩ | ⟨g', cap', cur, hv, hb, hg, h1, h2, h3, h4⟩
  · cases hv
  · injection hv with ha hl hc
    injection ha with ha
    injection ha with ha
    subst ha
    subst hc
    have hxl : xs.length = n * size := h.1
    have hcl : cur.toList.length = cap * size := by simpa using h3
    have hle : n * size ≤ cap * size := Nat.mul_le_mul_right _ h1
    refine ⟨cur, hg, by omega, ⟨?_, .inr ⟨g, cap, _, rfl, hb, setRow_heap w g cur _ e _ hg, h1, h2, ?_, ?_⟩⟩, ⟨rfl, rfl, rfl, by simp, fun k _ hk => setRow_other w g k _ (fun e => hk (by rw [e]))⟩⟩
    · simp
      omega
    · simp only [List.size_toArray, List.length_append, List.length_take, List.length_drop, hcl]
      omega
    · rw [splice_take _ _ _ _ ho (by omega), h4]

theorem secC_take (l : List (Int × Int)) (i : Nat) : secC (l.take i) = (secC l).take (i * 2) := by
  induction l generalizing i with
  | nil => simp [secC]
  | cons p l ih =>
    cases i with
    | zero => simp [secC]
    | succ i =>
      have e : secC (p :: l) = [.int .i64 p.1, .int .i64 p.2] ++ secC l := rfl
      rw [List.take_succ_cons, e, show (i + 1) * 2 = 2 + i * 2 from by omega, List.take_append]
      have e2 : secC (p :: l.take i) = [.int .i64 p.1, .int .i64 p.2] ++ secC (l.take i) := rfl
      have e3 : ([Value.int .i64 p.1, .int .i64 p.2] : List Value).length = 2 := rfl
      rw [e2, ih, List.take_of_length_le (l := [Value.int .i64 p.1, .int .i64 p.2]) (by rw [e3]; omega), e3, show 2 + i * 2 - 2 = i * 2 from by omega]
theorem secC_set {l : List (Int × Int)} {i : Nat} (p : Int × Int) (h : i < l.length) : secC (l.set i p) = ((secC l).set (i * 2) (.int .i64 p.1)).set (i * 2 + 1) (.int .i64 p.2) := by
  induction l generalizing i with
  | nil => simp at h
  | cons q l ih =>
    cases i with
    | zero => rfl
    | succ i =>
      have e : secC (q :: l) = .int .i64 q.1 :: .int .i64 q.2 :: secC l := rfl
      have e2 : secC (q :: l.set i p) = .int .i64 q.1 :: .int .i64 q.2 :: secC (l.set i p) := rfl
      rw [List.set_cons_succ, e2, ih (by simpa using h), e, show (i + 1) * 2 = i * 2 + 1 + 1 from by omega]
      rfl
theorem secC_zeros (n : Nat) : secC (List.replicate n (0, 0)) = List.replicate (2 * n) (.int .i64 0) := by
  induction n with
  | zero => rfl
  | succ n ih =>
    rw [List.replicate_succ]
    have e : secC ((0, 0) :: List.replicate n (0, 0)) = .int .i64 0 :: .int .i64 0 :: secC (List.replicate n (0, 0)) := rfl
    rw [e, ih, show 2 * (n + 1) = 2 * n + 1 + 1 from by omega, List.replicate_succ, List.replicate_succ]

/-- The row of pending sectors alone has turned. -/
theorem Dk.setRow (h : Dk w own b m k (.slice (some ⟨g, 0, none⟩) n c) kv mark s) (hg : w.grownBy w' (some g)) {l : List (Int × Int)} (hl : l.length = n) (hr : w'.ownsRow 0 93 2 (.slice (some ⟨g, 0, none⟩) n c) n (secC l)) :
    Dk w' own b m k (.slice (some ⟨g, 0, none⟩) n c) kv mark { s with pend := l } ∧ Tr (fun r => r = 3) w own own w' := by
  have ho := h.pend.2 g rfl
  have t : Tr (fun r => r = 3) w own own w' := (Tr.refl (fun r => r = 3) h.inb).grown hg (fun x e => by cases e; exact .inr ⟨3, ho, rfl⟩)
  refine ⟨⟨t.blkR h.blk h.ob (by decide), h.ob, h.om, h.ok, h.files.keep h.om t (fun r e => .inr (.inr (.inl e))), h.marks.keep h.ok t (by decide), ⟨?_, h.pend.2⟩, h.keep.keep t (by decide), t.inb⟩, t⟩
  rw [hl]
  exact hr

theorem Dk.setSec (h : Dk w own b m k (.slice (some ⟨g, 0, none⟩) n c) kv mark s) (hl : s.pend.length = n) {i : Nat} (hi : i < n) (p : Int × Int) :
    Dk ((w.setCell ⟨g, i * 2, none⟩ (.int .i64 p.1)).setCell ⟨g, i * 2 + 1, none⟩ (.int .i64 p.2)) own b m k (.slice (some ⟨g, 0, none⟩) n c) kv mark { s with pend := s.pend.set i p } ∧
    Tr (fun r => r = 3) w own own ((w.setCell ⟨g, i * 2, none⟩ (.int .i64 p.1)).setCell ⟨g, i * 2 + 1, none⟩ (.int .i64 p.2)) := by
  have h1 := h.pend.1
  rw [hl] at h1
  obtain ⟨h2, g2⟩ := h1.stored (i * 2) (.int .i64 p.1)
  obtain ⟨h3, g3⟩ := h2.stored (i * 2 + 1) (.int .i64 p.2)
  rw [← secC_set p (by omega)] at h3
  exact h.setRow (World.grownBy.trans g2 g3) (by rw [List.length_set, hl]) h3

theorem zeroSec (w : World) : (zeroValue 93).run Tryd.prog w = .ok (.agg #[.int .i64 0, .int .i64 0]) w := by kernel_rfl
theorem zeroCells_sec (n : Nat) : (Builtin.zeroCells (Value.agg #[.int .i64 0, .int .i64 0]).cells n).toList = List.replicate (2 * n) (.int .i64 0) := by
  apply List.ext_getElem?
  intro j
  simp only [Builtin.zeroCells, Value.cells, Array.toList_map, Array.toList_range, List.getElem?_map, List.getElem?_replicate]
  have e2 : (#[Value.int .i64 0, Value.int .i64 0] : Array Value).size = 2 := rfl
  rw [e2]
  rcases Nat.lt_or_ge j (n * 2) with h | h
  · rw [List.getElem?_range h, if_pos (by omega)]
    simp only [Option.map_some, Option.some.injEq]
    rcases Nat.mod_two_eq_zero_or_one j with e | e <;> rw [e] <;> rfl
  · rw [List.getElem?_eq_none (by simpa using h), if_neg (by omega)]
    rfl

theorem run_clear_sec (ty : TypeId) {l : List (Int × Int)} (h : w.ownsRow 0 93 2 (.slice (some ⟨g, 0, none⟩) n c) n (secC l)) (hl : l.length = n) {i : Nat} (hi : i < n) (cc : Nat) :
    ∃ w', (Builtin.clear_ #[81] ty #[.slice (some ⟨g, i * 2, none⟩) (n - i) cc]).run Tryd.prog w = .ok (.tuple #[]) w' ∧
      w'.ownsRow 0 93 2 (.slice (some ⟨g, 0, none⟩) n c) n (secC (l.take i ++ List.replicate (n - i) (0, 0))) ∧ w.grownBy w' (some g) := by
  obtain ⟨cur, hg, hcs, hr, hgr⟩ := row_spliced (cs := List.replicate (2 * (n - i)) (.int .i64 0)) (o := i * 2) h (by rw [List.length_replicate]; omega)
  have hst := run_storeCells_at Tryd.prog g (i * 2) 93 (List.replicate (2 * (n - i)) (.int .i64 0)) 0 cur w hg (by rw [List.length_replicate]; omega) (fun u hu => by rw [List.eq_of_mem_replicate hu]; rfl)
  simp only [Nat.add_zero] at hst
  have hnz : n - i ≠ 0 := by omega
  obtain ⟨q, hq⟩ : ∃ q, n - i = q + 1 := ⟨n - i - 1, by omega⟩
  refine ⟨_, ?_, ?_, hgr⟩
  · rw [hq] at hst ⊢
    simp [Builtin.clear_, run_underlying Tryd.underlying81, zeroCells_sec, hst, Result.andThen]
  · rw [secC_app, secC_zeros, secC_take]
    have e : (secC l).drop (i * 2 + (List.replicate (2 * (n - i)) (Value.int .i64 0)).length) = [] := List.drop_eq_nil_of_le (by rw [secC_len, List.length_replicate]; omega)
    rw [e, List.append_nil] at hr
    exact hr

/-- A row, cut at its end. -/
theorem Row.cut {r : Nat} {e : TypeId} {size : Nat} {xs : List Value} (h : Row w own r e size (.slice (some ⟨g, 0, none⟩) n c) n xs) {i : Nat} (hi : i ≤ n) : Row w own r e size (.slice (some ⟨g, 0, none⟩) i c) i (xs.take (i * size)) := by
  refine ⟨⟨?_, ?_⟩, fun x hx => h.2 x hx⟩
  · rw [List.length_take, h.1.1]
    exact Nat.min_eq_left (Nat.mul_le_mul_right _ hi)
  · rcases h.1.2 with ⟨hv, _⟩ | ⟨g', cap', cur, hv, hb, hg, h1, h2, h3, h4⟩
    · cases hv
    · injection hv with ha _ hc
      subst hc
      injection ha with ha
      injection ha with ha
      subst ha
      refine .inr ⟨g, c, cur, rfl, hb, hg, by omega, h2, h3, ?_⟩
      rw [← h4, List.take_take, Nat.min_eq_left (Nat.mul_le_mul_right _ hi)]
end

theorem wpList_clear_at {P : Program} {w : World} {ops : Array Oper} {rest : List Oper} {o : Oper} {a : Act} {Q : Exit → Act → World → Prop} (hg : o.guard = none) (x : Operand) (t : TypeId) (hop : o.op = .call { callee := .builtin .clear, args := #[x], argTypes := #[t] }) (vx : Value) (hx : a.eval x = vx)
    (w' : World) (hr : (Builtin.clear_ #[t] o.type #[vx]).run P w = .ok (.tuple #[]) w') (h : wpList P ops Q rest (a.put o.dst (.tuple #[])) w') : wpList P ops Q (o :: rest) a w := wpList_clear_run hg x t hop vx hx w' hr h

theorem set_take {α : Type} {l : List α} {i : Nat} {p : α} (h : i < l.length) : (l.set i p).take (i + 1) = l.take i ++ [p] := by
  rw [List.take_succ_eq_append_getElem (by rw [List.length_set]; exact h), List.take_set_of_le (Nat.le_refl _), List.getElem_set_self]
theorem set_drop {α : Type} {l : List α} {i j : Nat} {p : α} (h : i < j) : (l.set i p).drop j = l.drop j := List.drop_set_of_lt h

/-- How DeleteFunc ends: the slice's struct field still holds the old slice, in whose row the kept sectors stand ahead. -/
def DelEnd (w : World) (own : Nat → Option Nat) (b m k : Nat) (pv kv : Value) (mark : Int × Int → Prop) (s : Ds) (l : List (Int × Int)) (e : Ending) (w' : World) : Prop :=
  ∃ A c own' cur, e = .returned (.slice A l.length c) ∧ Dk w' own' b m k pv kv mark { s with pend := cur } ∧ Row w' own' 3 93 2 (.slice A l.length c) l.length (secC l) ∧ Tr (fun r => r = 1 ∨ r = 2 ∨ r = 3 ∨ r ≥ 5) w own own' w'

set_option maxRecDepth 4000 in
set_option maxHeartbeats 1000000 in
theorem del_none (w : World) (own : Nat → Option Nat) (b m k : Nat) (A : Option Addr) (c n : Nat) (kv : Value) (mark : Int × Int → Prop) (s : Ds) (f : Int) (bf bd : Nat) (h : Dk w own b m k (.slice A n c) kv mark s) (hl : s.pend.length = n) (hn : n ≤ 40000000)
    (hf : w.cell? ⟨bf, 0, none⟩ = some (.int .i64 f)) (hall : ∀ p ∈ s.pend, p.1 ≠ f) :
    Calls Tryd.prog 112 #[.slice A n c, litV bf bd] w (DelEnd w own b m k (.slice A n c) kv mark s s.pend) := by
  have hr := h.pend
  rw [hl] at hr
  have HC := Lib.hid (idx_none w own f A c n s.pend bf bd h.inb hr hl hn hf hall)
  have HD := Lib.hid h
  have HL := Lib.hid hl
  clear h hr hf hall hl
  unfold litV at *
  go_enter Tryd.func112, Tryd.ntmps112
  go_wp2_with fail
  refine HC.out.mono ?_
  rintro e w2 ⟨rfl, t2⟩
  have HE := Lib.hid (show DelEnd w own b m k (.slice A n c) kv mark s s.pend (.returned (.slice A n c)) w2 from by
    have h2 := HD.out.far t2
    have hp := h2.pend
    rw [HL.out] at hp
    refine ⟨A, c, own, s.pend, by rw [HL.out], h2, by rw [HL.out]; exact hp, t2.weak (fun _ h => h.elim)⟩)
  clear t2 HC HD
  go_wp2_with fail
  go_ret
  exact HE.out

set_option maxRecDepth 4000 in
set_option maxHeartbeats 2000000 in
theorem del_some (w : World) (own : Nat → Option Nat) (b m k : Nat) (g c n : Nat) (kv : Value) (mark : Int × Int → Prop) (s : Ds) (f : Int) (i0 x : Nat) (bf bd : Nat) (h : Dk w own b m k (.slice (some ⟨g, 0, none⟩) n c) kv mark s) (hl : s.pend.length = n) (hn : n ≤ 40000000)
    (hf : w.cell? ⟨bf, 0, none⟩ = some (.int .i64 f)) (hdd : w.cell? ⟨bd, 0, none⟩ = some (.pointer (some ⟨b, 0, none⟩))) (hbf : own bf = none) (hbd : own bd = none)
    (hx : s.pend[i0]? = some (f, (x : Int))) (hall : ∀ j p, j < i0 → s.pend[j]? = some p → p.1 ≠ f) (hok : ∀ p ∈ s.pend, p.1 = f → ∃ y : Nat, p.2 = (y : Int) ∧ 64 * y < (s.data f).length)
    (h0 : 0 ≤ f) (h1 : f < 16) (hd : (s.data f).length ≤ 16777216) (hu : (s.dur f).length ≤ 16777216) :
    Calls Tryd.prog 112 #[.slice (some ⟨g, 0, none⟩) n c, litV bf bd] w
      (DelEnd w own b m k (.slice (some ⟨g, 0, none⟩) n c) kv (procM mark f s.pend) { s with dur := procD s.data f s.dur s.pend } (keepL f s.pend)) := by
  have hxn : 64 * x < (s.data f).length := by
    obtain ⟨y, e1, e2⟩ := hok (f, (x : Int)) (List.mem_of_getElem? hx) rfl
    have e3 : (x : Int) = (y : Int) := e1
    omega
  have HC := Lib.hid (idx_some w own b m k kv mark s f g c n i0 x bf bd h hl hn hf hdd hbf hbd hx hall h0 h1 hxn hd hu)
  have hpre : ∀ p ∈ s.pend.take i0, p.1 ≠ f := fun p hp => by
    obtain ⟨j, hj, e⟩ := List.getElem_of_mem hp
    rw [List.length_take] at hj
    rw [List.getElem_take] at e
    exact hall j p (by omega) (by rw [List.getElem?_eq_getElem (by omega), e])
  have HS0 := Lib.hid (show procD s.data f s.dur (s.pend.take (i0 + 1)) = hard s.data s.dur f x ∧ procM mark f (s.pend.take (i0 + 1)) = (fun q => mark q ∧ q ≠ (f, (x : Int))) ∧ keepL f (s.pend.take (i0 + 1)) = s.pend.take i0 from by
    rw [take_snoc_ hx, procD_snoc_yes, procD_none _ _ _ _ hpre, procM_snoc_yes, procM_none _ _ _ hpre, keepL_snoc_yes, keepL_none _ _ hpre]
    exact ⟨rfl, rfl, rfl⟩)
  have HF := Lib.hid hf
  have HDD := Lib.hid hdd
  have HOB := Lib.hid (show own bf = none ∧ own bd = none from ⟨hbf, hbd⟩)
  have HBL := Lib.hid (show bf < w.heap.size ∧ bd < w.heap.size from ⟨World.block_lt_of_cell? _ _ hf, World.block_lt_of_cell? _ _ hdd⟩)
  have HOK := Lib.hid hok
  have HL := Lib.hid hl
  have hi0 : i0 < n := by have := (List.getElem?_eq_some_iff.1 hx).1; omega
  have hcn : n ≤ c := by
    obtain ⟨A', c', hv, h5, _⟩ := own_slice h.pend.1
    injection hv with _ _ hc
    omega
  clear h hl hf hdd hbf hbd hx hall hok hxn hpre
  have hne : ((i0 : Int) == -1) = false := by simp
  unfold litV at *
  go_enter Tryd.func112, Tryd.ntmps112
  go_wp2_with fail
  refine HC.out.mono ?_
  rintro e w2 ⟨rfl, own2, hD2, t2⟩
  have HD2 := Lib.hid hD2
  have HT2 := Lib.hid t2
  clear hD2 t2 HC
  go_wp2_with fail
  go_loopw [5, 6, 7] (fun ti tj _ wr => ∃ (i j : Nat) (own3 : Nat → Option Nat) (cur : List (Int × Int)), ti = .int .i64 (i : Int) ∧ tj = .int .i64 (j : Int) ∧ i < j ∧ j ≤ n ∧ cur.length = n ∧ Hid (cur.take i = keepL f (s.pend.take j)) ∧ Hid (cur.drop j = s.pend.drop j) ∧
    Hid (Dk wr own3 b m k (.slice (some ⟨g, 0, none⟩) n c) kv (procM mark f (s.pend.take j)) { s with dur := procD s.data f s.dur (s.pend.take j), pend := cur }) ∧ Hid (Tr (fun r => r = 1 ∨ r = 2 ∨ r = 3 ∨ r ≥ 5) w own own3 wr)) (fun _ tj _ _ => n - (RowKit.intOf tj).toNat)
  case atStart =>
    obtain ⟨e1, e2, e3⟩ := HS0.out
    exact ⟨i0, i0 + 1, own2, s.pend, rfl, by go_num, Nat.lt_succ_self _, hi0, HL.out, e3.symm, rfl, by rw [e1, e2]; exact HD2, HT2.out.weak (fun r h => by omega)⟩
  case round =>
    obtain ⟨i, j, own3, cur, rfl, rfl, hij, hjn, hcl, HTK, HDR, HDJ, HTJ⟩ := hrel
    clear HD2 HT2 HS0 hne
    have HCL := Lib.hid hcl
    clear hcl
    by_cases hlt : j < n
    · obtain ⟨p, hp⟩ : ∃ p, cur[j]? = some p := ⟨_, List.getElem?_eq_getElem (by rw [HCL.out]; exact hlt)⟩
      have HPL := Lib.hid ((drop_at HDR.out).symm.trans hp)
      have hrow := HDJ.out.pend
      simp only [HCL.out] at hrow
      obtain ⟨q1, q2⟩ := hrow.secCell hp
      obtain ⟨g1, g2⟩ := p
      have hj1 : (0 : Int) ≤ (j : Int) := by omega
      have hj2 : (j : Int) < (n : Int) := by omega
      have HF2 := Lib.hid (HTJ.out.cell HF.out (fun r e => by rw [HOB.out.1] at e; cases e))
      have HDD2 := Lib.hid (HTJ.out.cell HDD.out (fun r e => by rw [HOB.out.2] at e; cases e))
      have HOB3 := Lib.hid (show own3 bf = none ∧ own3 bd = none from ⟨(HTJ.out.kept bf HBL.out.1).trans HOB.out.1, (HTJ.out.kept bd HBL.out.2).trans HOB.out.2⟩)
      clear hp hrow
      by_cases hgf : g1 = f
      · subst hgf
        obtain ⟨y, hy, hyl⟩ := HOK.out _ (List.mem_of_getElem? HPL.out) rfl
        simp only at hy
        subst hy
        have HST := Lib.hid (show s.pend.take (j + 1) = s.pend.take j ++ [(g1, (y : Int))] from take_snoc_ HPL.out)
        have hul : (procD s.data g1 s.dur (s.pend.take j) g1).length ≤ 16777216 := procD_len (fun q hq hqf => HOK.out q (List.mem_of_mem_take hq) hqf) hd _ hu
        have HUL := Lib.hid hul
        clear hul
        go_wp2_with fail
        refine (lit_yes _ own3 b m k (.slice (some ⟨g, 0, none⟩) n c) kv _ { s with dur := procD s.data g1 s.dur (s.pend.take j), pend := cur } g1 y bf bd (HDJ.out.far ((HDJ.out.refl _).alloc _)) ?_ ?_ HOB3.out.1 HOB3.out.2 h0 h1 hyl hd HUL.out).mono ?_
        · rw [World.cell?_alloc_some _ _ _ (by rw [HF2.out]; rfl)]; exact HF2.out
        · rw [World.cell?_alloc_some _ _ _ (by rw [HDD2.out]; rfl)]; exact HDD2.out
        rintro e w4 ⟨rfl, own4, hD4, t4⟩
        have HD4 := Lib.hid (show Dk w4 own4 b m k (.slice (some ⟨g, 0, none⟩) n c) kv (procM mark g1 (s.pend.take (j + 1))) { s with dur := procD s.data g1 s.dur (s.pend.take (j + 1)), pend := cur } from by
          rw [HST.out, procD_snoc_yes, procM_snoc_yes]
          exact hD4)
        have HT4 := Lib.hid ((HTJ.out.alloc (.cells #[.int .i64 g1, .int .i64 y] 93)).trans (t4.weak (fun r h => show r = 1 ∨ r = 2 ∨ r = 3 ∨ r ≥ 5 by omega)))
        have HTK2 := Lib.hid (show cur.take i = keepL g1 (s.pend.take (j + 1)) from by rw [HST.out, keepL_snoc_yes]; exact HTK.out)
        clear hD4 t4 q1 q2 HDJ HTJ
        go_wp2_with fail
        go_roundw
        case rel => exact ⟨i, j + 1, own4, cur, rfl, by go_num, by omega, by omega, HCL.out, HTK2, drop_step HDR.out, HD4, HT4⟩
        case measure => simp [RowKit.intOf]; omega
      · have HST := Lib.hid (show s.pend.take (j + 1) = s.pend.take j ++ [(g1, g2)] from take_snoc_ HPL.out)
        go_wp2_with fail
        refine (lit_no _ own3 f g1 g2 bf bd ((HDJ.out.refl (fun _ => False)).alloc _).inb ?_ hgf).mono ?_
        · rw [World.cell?_alloc_some _ _ _ (by rw [HF2.out]; rfl)]; exact HF2.out
        rintro e w4 ⟨rfl, t4⟩
        have hD4 := HDJ.out.far (((HDJ.out.refl (fun _ => False)).alloc (.cells #[.int .i64 g1, .int .i64 g2] 93)).trans t4)
        have hrow := hD4.pend
        simp only [HCL.out] at hrow
        obtain ⟨p2, hp2⟩ : ∃ p2, cur[i]? = some p2 := ⟨_, List.getElem?_eq_getElem (by rw [HCL.out]; omega)⟩
        obtain ⟨q3, q4⟩ := hrow.secCell hp2
        have fr1 := hrow.1.frozenAt (i * 2)
        have fr2 := hrow.1.frozenAt (i * 2 + 1)
        have q5 : w4.cell? ⟨wr.heap.size, 0, none⟩ = some (.int .i64 g1) := t4.cell (by simp) (fun _ _ h => h)
        have q6 : w4.cell? ⟨wr.heap.size, 1, none⟩ = some (.int .i64 g2) := t4.cell (by simp) (fun _ _ h => h)
        obtain ⟨hD5, t5⟩ := hD4.setSec HCL.out (show i < n by omega) (g1, g2)
        have HD5 := Lib.hid (hD5.congr (procM_snoc_no mark f (s.pend.take j) (g1, g2) hgf).symm)
        have HT5 := Lib.hid (((HTJ.out.alloc (.cells #[.int .i64 g1, .int .i64 g2] 93)).trans (t4.weak (fun _ h => h.elim))).trans (t5.weak (fun r h => show r = 1 ∨ r = 2 ∨ r = 3 ∨ r ≥ 5 by omega)))
        have HNO := Lib.hid hgf
        have hi1 : (0 : Int) ≤ (i : Int) := by omega
        have hi2 : (i : Int) < (n : Int) := by omega
        clear hD4 t4 hD5 t5 q1 q2 HDJ HTJ hp2 hrow hgf
        go_wp2_with fail
        go_roundw
        case rel => exact ⟨i + 1, j + 1, own3, cur.set i (g1, g2), by go_num, by go_num, by omega, by omega, by rw [List.length_set]; exact HCL.out,
          (by show (cur.set i (g1, g2)).take (i + 1) = _
              rw [HST.out, keepL_snoc_no _ _ _ HNO.out, ← HTK.out]
              exact set_take (by rw [HCL.out]; omega)),
          (by show (cur.set i (g1, g2)).drop (j + 1) = _
              rw [set_drop (by omega)]
              exact drop_step HDR.out),
          (by show Dk _ _ _ _ _ _ _ _ _
              have h7 := HD5.out
              rw [HST.out, procD_snoc_no _ _ _ _ _ HNO.out]
              exact h7), HT5⟩
        case measure => simp [RowKit.intOf]; omega
    · obtain rfl : j = n := by omega
      have hD := HDJ.out
      have hrow := hD.pend.1
      simp only [HCL.out] at hrow
      obtain ⟨w5, hrun, hown5, hgr5⟩ := run_clear_sec 0 hrow HCL.out hij (c - i)
      obtain ⟨hD5, t5⟩ := hD.setRow hgr5 (by rw [List.length_append, List.length_take, List.length_replicate, HCL.out]; omega) hown5
      have HR := Lib.hid hrun
      have htj : s.pend.take j = s.pend := List.take_of_length_le (by rw [HL.out]; exact Nat.le_refl _)
      have HE := Lib.hid (show DelEnd w own b m k (.slice (some ⟨g, 0, none⟩) j c) kv (procM mark f s.pend) { s with dur := procD s.data f s.dur s.pend } (keepL f s.pend) (.returned (.slice (some ⟨g, 0, none⟩) i c)) w5 from by
        have hk : cur.take i = keepL f s.pend := by have := HTK.out; rw [htj] at this; exact this
        have hkl : (keepL f s.pend).length = i := by rw [← hk, List.length_take, HCL.out]; omega
        have hD6 := hD5
        rw [htj] at hD6
        have hp5 := hD6.pend
        have hlen5 : (cur.take i ++ List.replicate (j - i) ((0 : Int), (0 : Int))).length = j := by rw [List.length_append, List.length_take, List.length_replicate, HCL.out]; omega
        simp only [hlen5] at hp5
        have hcut := hp5.cut (show i ≤ j by omega)
        rw [← secC_take, List.take_append_of_le_length (by rw [List.length_take, HCL.out]; omega), List.take_take, Nat.min_self, hk] at hcut
        refine ⟨some ⟨g, 0, none⟩, c, own3, _, by rw [hkl], hD6, by rw [hkl]; exact hcut, HTJ.out.trans (t5.weak (fun r h => show r = 1 ∨ r = 2 ∨ r = 3 ∨ r ≥ 5 by omega))⟩)
      have hci : ¬ c = i := by omega
      have hi1 : (0 : Int) ≤ (i : Int) := by omega
      have hi2 : (i : Int) ≤ (j : Int) := by omega
      have hi3 : (i : Int) ≤ (c : Int) := by omega
      clear hD hrow hrun hown5 hgr5 hD5 t5 htj HDJ HTJ
      go_wp2_with (refine wpList_clear_at rfl (.tmp 38) 81 rfl (.slice (some ⟨g, i * 2, none⟩) (j - i) (c - i)) rfl w5 HR.out ?_)
      go_ret
      exact HE.out

end Go.Proofs.YtjlndgkahmcfdaaDoor
