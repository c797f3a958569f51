/- Copy: a disk of its own, in the same state. No condition. -/
import Derived.Test.YtnnakclmeihonaaCp
namespace Go.Proofs.Ytnnakclmeihonaa
open Go.RowKit Go.ChangeMaps Go.Maps Go.MapKept

/-- What stands when the range begins. -/
theorem copy_start {w : World} {own : Nat → Option Nat} {m0 : Nat} {s : Ds} {es : Array MapEntry} {clock : Nat} (hf : FilesE w own m0 es clock s.data s.dur) (cs : Array Value) :
    ∃ W3 own2, (Instr.range 52 (.map (some (w.heap.size + 1)))).run Try.prog ((w.alloc (.cells cs 56)).alloc (.map es clock)) = .ok (.pointer (some ⟨w.heap.size + 2, 0, none⟩)) W3 ∧
      Blk W3 w.heap.size 56 cs ∧ own2 w.heap.size = some 0 ∧ CpM w own W3 own2 (w.heap.size + 1) es clock (fun _ => False) s.data s.dur ∧ (∃ seen, ItAt W3 (w.heap.size + 1) (w.heap.size + 2) es clock seen (fun _ => False)) ∧ own2 (w.heap.size + 2) = none ∧ w.heap.size + 2 < W3.heap.size := by
  have s1 : (w.alloc (.cells cs 56)).heap.size = w.heap.size + 1 := by simp
  have s2 : ((w.alloc (.cells cs 56)).alloc (.map es clock)).heap.size = w.heap.size + 2 := by simp
  have hm : MapAt Try.prog 3 ((w.alloc (.cells cs 56)).alloc (.map es clock)) (w.heap.size + 1) es clock := ⟨by rw [← s1]; exact heap_alloc_new _ _, hf.map.keys, hf.map.st⟩
  have hrg := run_range_map (P := Try.prog) ((w.alloc (.cells cs 56)).alloc (.map es clock)) 52 _ _ (w.heap.size + 1) es clock Try.underlying52 hm.blk
  have hit := It.start hm (fun _ => False)
  rw [s2] at hrg hit
  have hb : Below w.heap.size w ((w.alloc (.cells cs 56)).alloc (.map es clock)) := ((Below.refl _ _).alloc (Nat.le_refl _) _).alloc (by rw [s1]; omega) _
  have hin : ∀ g r, give (give (fun _ => none) w.heap.size 0) (w.heap.size + 1) 1 g = some r → g = w.heap.size ∨ g = w.heap.size + 1 := fun g r e => by
    by_cases h1 : g = w.heap.size + 1
    · exact .inr h1
    · rw [give_other h1] at e
      by_cases h2 : g = w.heap.size
      · exact .inl h2
      · rw [give_other h2] at e; cases e
  refine ⟨_, give (give (fun _ => none) w.heap.size 0) (w.heap.size + 1) 1, hrg, ?_, ?_, ⟨hb.alloc (by rw [s2]; omega) _, hm.kept (heap_alloc_old _ _ hm.lt), fun e he => ?_, hf.out, give_same _ _ _, fun g r e => ?_⟩, ?_, ?_, by simp⟩
  · exact ((Blk.new w _ cs).alloc _).alloc _
  · rw [give_other (by omega)]; exact give_same _ _ _
  · obtain ⟨f, f0, f1, hk, hv⟩ := hf.ent e he
    exact ⟨f, f0, f1, hk, .inr ⟨fun h => h, hv⟩⟩
  · have := hin g r e
    simp
    omega
  · obtain ⟨es', clock', seen, hi⟩ := hit
    have h1 := hi.1
    rw [(hm.kept (heap_alloc_old _ _ hm.lt)).blk] at h1
    injection h1 with h1
    injection h1 with h1 h2
    subst h1
    subst h2
    exact ⟨seen, hi⟩
  · rw [give_other (by omega), give_other (by omega)]

set_option maxRecDepth 4000 in
set_option maxHeartbeats 2000000 in
theorem copy_any (w : World) (own : Nat → Option Nat) (b m0 k0 : Nat) (pv kv : Value) (mark : Int × Int → Prop) (s : Ds) (h : Dk w own b m0 k0 pv kv mark s) (hn : s.pend.length ≤ 40000000) (hkn : s.keep.length ≤ 1000000) (hd : ∀ f, (s.data f).length ≤ 16777216) (hu : ∀ f, (s.dur f).length ≤ 16777216) :
    Calls Try.prog 18 #[.pointer (some ⟨b, 0, none⟩)] w fun e w' => ∃ b' own' m k pv' kv', e = .returned (.pointer (some ⟨b', 0, none⟩)) ∧ Dk w' own' b' m k pv' kv' mark s ∧ Below w.heap.size w w' ∧ ∀ g r, own' g = some r → w.heap.size ≤ g := by
  obtain ⟨es0, clock0, hf0⟩ := h.files
  obtain ⟨Ap, cp, rfl, _, _⟩ := own_slice h.pend.1
  obtain ⟨Ak, ck, rfl, _, _⟩ := own_slice h.keep.1
  have c0 := h.blk.cell 0
  have c1 := h.blk.cell 1
  have c2 := h.blk.cell 2
  have c3 := h.blk.cell 3
  have c4 := h.blk.cell 4
  have c5 := h.blk.cell 5
  have c6 := h.blk.cell 6
  have hbl := h.blk.lt
  have HD := Lib.hid h
  have HF := Lib.hid hf0
  have HDL := Lib.hid hd
  have HUL := Lib.hid hu
  clear h hf0 hd hu
  go_enter Try.func18, Try.ntmps18
  go_wp2_with fail
  have HST := Lib.hid (copy_start HF.out #[.map (some (w.heap.size + 1)), .slice Ap s.pend.length cp, .map (some k0), .int .i64 s.lost, .int .i64 s.left, .slice Ak s.keep.length ck, .bool s.down])
  refine (mcloneF_any m0 es0 clock0 _ ((heap_alloc_old w _ HF.out.map.lt).trans HF.out.map.blk)).mono ?_
  rintro e w1 ⟨rfl, rfl⟩
  obtain ⟨W3, own2, hrg, hb3, hc0, hcm, hit, hr0, hr1⟩ := HST.out
  have HCM := Lib.hid hcm
  have HB := Lib.hid (And.intro hb3 hc0)
  have HI := Lib.hid hit
  have HR := Lib.hid (And.intro hr0 (And.intro hr1 (show w.heap.size ≤ w.heap.size + 2 by omega)))
  clear HST hcm hb3 hc0 hit hr0 hr1 HF
  go_wp2_with (at_range; refine wpList_range_run rfl _ _ rfl _ rfl _ _ hrg ?_)
  clear hrg
  have hcm : w.heap.size < w.heap.size + 1 := by omega
  have hcr : w.heap.size < w.heap.size + 2 := by omega
  have hmr : ¬ w.heap.size + 1 = w.heap.size + 2 := by omega
  generalize w.heap.size + 1 = m at *
  generalize w.heap.size + 2 = r at *
  have hncm : ¬ w.heap.size = m := by omega
  clear c0 c3 c4 c6
  simp only [Act.put, List.setIfInBounds_toArray, List.set_cons_zero, List.set_cons_succ]
  go_loopw [4, 5] (fun _ _ w2 => ∃ (own2 : Nat → Option Nat) (es : Array MapEntry) (clock : Nat) (D : Value → Prop), Hid (CpM w own w2 own2 m es clock D s.data s.dur) ∧ Hid (Blk w2 w.heap.size 56 #[.map (some m), .slice Ap s.pend.length cp, .map (some k0), .int .i64 s.lost, .int .i64 s.left, .slice Ak s.keep.length ck, .bool s.down] ∧ own2 w.heap.size = some 0) ∧ Hid (∃ seen, ItAt w2 m r es clock seen D) ∧ Hid (own2 r = none ∧ r < w2.heap.size ∧ w.heap.size ≤ r)) (fun _ _ w2 => w2.rangeLeft m r)
  case atStart => exact ⟨own2, es0, clock0, _, HCM.out, HB.out, HI.out, HR.out⟩
  case round =>
    clear HCM HB HI HR
    obtain ⟨own2, es, clock, D, HCM, HB, HI, HR⟩ := hrel
    obtain ⟨seen, hit⟩ := HI.out
    rcases It.next 0 hit HCM.out.map with ⟨hrun, hall⟩ | ⟨e, he, w5, hrun, hg5, -, hen, hlt5, hit5⟩
    · have HRUN := Lib.hid hrun
      obtain ⟨hb, hc0⟩ := HB.out
      have hfe := HCM.out.files hall
      have hbel := HCM.out.below
      have x1 : wr.cell? ⟨b, 1, none⟩ = some (.slice Ap s.pend.length cp) := (hbel.cell (p := ⟨b, 1, none⟩) hbl).trans c1
      have x2 : wr.cell? ⟨b, 2, none⟩ = some (.map (some k0)) := (hbel.cell (p := ⟨b, 2, none⟩) hbl).trans c2
      have x5 : wr.cell? ⟨b, 5, none⟩ = some (.slice Ak s.keep.length ck) := (hbel.cell (p := ⟨b, 5, none⟩) hbl).trans c5
      have hcl := hb.lt
      have hbc : ¬ b = w.heap.size := by omega
      have hbr : b < wr.heap.size := by omega
      have HQS := Lib.hid (cloneS_any Ap _ cp _ wr (Reads.of_own (own_below HD.out.pend.1 hbel (fun g e => HD.out.inb g _ (HD.out.pend.2 g e)))) (secC_one _) (by omega))
      have HB := Lib.hid hb
      have HC0 := Lib.hid hc0
      have HFE := Lib.hid hfe
      have HBE := Lib.hid hbel
      clear hrun hall hit HI c1 c2 c5 hb hc0 hfe hbel
      go_wp2_with (at_next; refine wpList_next_run rfl _ rfl _ rfl _ _ HRUN.out ?_)
      refine HQS.out.mono ?_
      rintro e w6 ⟨v6, rfl, hr6, hb6, hn6⟩
      obtain ⟨A6, c6, rfl, _, _⟩ := own_slice hr6
      obtain ⟨esk, clk, hme⟩ := HD.out.marks
      -- the pending sectors
      have T6 := ((Tr.of_below (fun ρ => ρ = 0) HCM.out.inb hb6).giveV (fun g e => ⟨hn6 g e, (hr6.lt g e).2⟩) 3)
      have P6 : Row w6 (giveV own2 (.slice A6 s.pend.length c6) 3) 3 72 2 (.slice A6 s.pend.length c6) s.pend.length (secC s.pend) := ⟨hr6, fun g e => giveV_same e⟩
      have hB6 := HB.out.below hb6 hcl
      have oc6 := T6.role hcl HC0.out
      have om6 := T6.role HCM.out.map.lt HCM.out.om
      have y2 := (hb6.cell (p := ⟨b, 2, none⟩) hbr).trans x2
      have y5 := (hb6.cell (p := ⟨b, 5, none⟩) hbr).trans x5
      have hk6 : w6.heap[k0]? = some (.map esk clk) := (hb6.block k0 (Nat.lt_of_lt_of_le hme.map.lt HBE.out.size)).trans ((HBE.out.block k0 hme.map.lt).trans hme.map.blk)
      have L6 : Below w.heap.size w w6 := HBE.out.trans (hb6.mono HBE.out.size)
      generalize giveV own2 (.slice A6 s.pend.length c6) 3 = own6 at *
      have S7 := (Tr.refl (fun ρ => ρ = 0) T6.inb).setOwn (p := ⟨w.heap.size, 1, none⟩) oc6 rfl (.slice A6 s.pend.length c6)
      have hB7 := hB6.set_ 1 (.slice A6 s.pend.length c6)
      have z5 : (w6.setCell ⟨w.heap.size, 1, none⟩ (.slice A6 s.pend.length c6)).cell? ⟨b, 5, none⟩ = some (.slice Ak s.keep.length ck) := (World.cell?_of_block (Below.heap_setCell w6 _ _ b hbc)).trans y5
      have z2 : (w6.setCell ⟨w.heap.size, 1, none⟩ (.slice A6 s.pend.length c6)).cell? ⟨b, 2, none⟩ = some (.map (some k0)) := (World.cell?_of_block (Below.heap_setCell w6 _ _ b hbc)).trans y2
      have hk7 : (w6.setCell ⟨w.heap.size, 1, none⟩ (.slice A6 s.pend.length c6)).heap[k0]? = some (.map esk clk) := (Below.heap_setCell w6 _ _ k0 (show k0 ≠ w.heap.size by have := hme.map.lt; omega)).trans hk6
      have L7 := L6.setCell (p := ⟨w.heap.size, 1, none⟩) (Nat.le_refl _) (.slice A6 s.pend.length c6)
      have q1 := hB6.cell 1
      have q1f := hB6.frozen 1
      have h6s : w.heap.size < w6.heap.size := hB6.lt
      have HK := Lib.hid (And.intro hB7 (And.intro S7 (And.intro hk7 (And.intro L7 z5))))
      have HT6 := Lib.hid T6
      have HP6 := Lib.hid P6
      have HM := Lib.hid hme
      have HO6 := Lib.hid (And.intro oc6 om6)
      clear HQS HRUN x1 x2 x5 hr6 hb6 hn6 T6 P6 hme hk6 L6 S7 hB7 hk7 L7 oc6 om6 hB6 y5 z5 z2
      go_wp2_with fail
      generalize w6.setCell ⟨w.heap.size, 1, none⟩ (.slice A6 s.pend.length c6) = w7 at HK ⊢
      obtain ⟨hB7, S7, hk7, L7, z5⟩ := HK.out
      have hB7 : Blk w7 w.heap.size 56 #[.map (some m), .slice A6 s.pend.length c6, .map (some k0), .int .i64 s.lost, .int .i64 s.left, .slice Ak s.keep.length ck, .bool s.down] := hB7
      refine (mcloneM_any k0 esk clk w7 hk7).mono ?_
      rintro e w8 ⟨rfl, rfl⟩
      -- the marks
      have B8 := hB7.alloc (.map esk clk)
      have S8 := (((Tr.refl (fun ρ => ρ = 0) S7.inb).alloc (.map esk clk)).give (Nat.le_refl _) (by simp) 2)
      have M8 : MarksE (w7.alloc (.map esk clk)) w7.heap.size esk clk mark := ⟨⟨heap_alloc_new _ _, HM.out.map.keys, HM.out.map.st⟩, HM.out.ent, HM.out.iff_⟩
      have z5 := (World.cell?_alloc_lt w7 (.map esk clk) ⟨b, 5, none⟩ (show b < w7.heap.size by have := hB7.lt; omega)).trans z5
      have L8 := L7.alloc L7.size (.map esk clk)
      have S68 := S7.trans S8
      have ok8 := give_same own6 w7.heap.size 2
      have hk8 : w7.heap.size < (w7.alloc (.map esk clk)).heap.size := by simp
      clear S7 S8 L7 hB7 hk7
      generalize give own6 w7.heap.size 2 = own8 at *
      generalize w7.alloc (.map esk clk) = w8 at *
      generalize w7.heap.size = k at *
      have T8 := HT6.out.trans S68
      have oc8 := T8.role hcl HC0.out
      have q2 := B8.cell 2
      have q2f := B8.frozen 2
      have h8s := B8.lt
      have S9 := (Tr.refl (fun ρ => ρ = 0) T8.inb).setOwn (p := ⟨w.heap.size, 2, none⟩) oc8 rfl (.map (some k))
      have B9 := B8.set_ 2 (.map (some k))
      have z5 : (w8.setCell ⟨w.heap.size, 2, none⟩ (.map (some k))).cell? ⟨b, 5, none⟩ = some (.slice Ak s.keep.length ck) := (World.cell?_of_block (Below.heap_setCell w8 _ _ b hbc)).trans z5
      have L9 := L8.setCell (p := ⟨w.heap.size, 2, none⟩) (Nat.le_refl _) (.map (some k))
      have y5 : w8.cell? ⟨b, 5, none⟩ = some (.slice Ak s.keep.length ck) := by rw [← z5]; exact (World.cell?_of_block (Below.heap_setCell w8 _ _ b hbc)).symm
      have HK9 := Lib.hid (And.intro B9 (And.intro S9 (And.intro L9 z5)))
      have HS68 := Lib.hid S68
      have HM8 := Lib.hid M8
      have HT8 := Lib.hid T8
      have HO8 := Lib.hid (And.intro ok8 hk8)
      clear B8 S68 M8 L8 T8 oc8 S9 B9 z5 L9 HM ok8 hk8 q1 q1f y2 HK
      go_wp2_with fail
      generalize w8.setCell ⟨w.heap.size, 2, none⟩ (.map (some k)) = w9 at HK9 ⊢
      obtain ⟨B9, S9, L9, z5⟩ := HK9.out
      have B9 : Blk w9 w.heap.size 56 #[.map (some m), .slice A6 s.pend.length c6, .map (some k), .int .i64 s.lost, .int .i64 s.left, .slice Ak s.keep.length ck, .bool s.down] := B9
      refine (cloneI_any Ak _ ck _ w9 (Reads.of_own (own_below HD.out.keep.1 L9 (fun g e => HD.out.inb g _ (HD.out.keep.2 g e)))) (inV_one _) (by omega)).mono ?_
      rintro e w10 ⟨v10, rfl, hr10, hb10, hn10⟩
      obtain ⟨A10, c10, rfl, _, _⟩ := own_slice hr10
      have S10 := ((Tr.of_below (fun ρ => ρ = 0) S9.inb hb10).giveV (fun g e => ⟨hn10 g e, (hr10.lt g e).2⟩) 4)
      have K10 : Row w10 (giveV own8 (.slice A10 s.keep.length c10) 4) 4 3 1 (.slice A10 s.keep.length c10) s.keep.length (inV s.keep) := ⟨hr10, fun g e => giveV_same e⟩
      have B10 := B9.below hb10 B9.lt
      generalize giveV own8 (.slice A10 s.keep.length c10) 4 = own10 at *
      have T10 := (HT8.out.trans S9).trans S10
      have oc10 := T10.role hcl HC0.out
      have q5 := B10.cell 5
      have q5f := B10.frozen 5
      have S11 := (Tr.refl (fun ρ => ρ = 0) T10.inb).setOwn (p := ⟨w.heap.size, 5, none⟩) oc10 rfl (.slice A10 s.keep.length c10)
      have B11 := B10.set_ 5 (.slice A10 s.keep.length c10)
      have T11 := T10.trans S11
      have h0 : ∀ g, g < w.heap.size → own2 g = none := fun g hg => by
        cases hgo : own2 g with
        | none => rfl
        | some ρ => have := (HCM.out.new g ρ hgo).1; omega
      have HE : Hid (∃ b' own' m k pv' kv', Ending.returned (.pointer (some ⟨w.heap.size, 0, none⟩)) = Ending.returned (.pointer (some ⟨b', 0, none⟩)) ∧ Dk (w10.setCell ⟨w.heap.size, 5, none⟩ (.slice A10 s.keep.length c10)) own' b' m k pv' kv' mark s ∧ Below w.heap.size w (w10.setCell ⟨w.heap.size, 5, none⟩ (.slice A10 s.keep.length c10)) ∧ ∀ g r, own' g = some r → w.heap.size ≤ g) := by
        refine ⟨w.heap.size, own10, m, k, .slice A6 s.pend.length c6, .slice A10 s.keep.length c10, rfl, ⟨B11, oc10, T10.role HCM.out.map.lt HCM.out.om, (S9.trans S10).role HO8.out.2 HO8.out.1, ?_, ?_, ?_, ?_, T11.inb⟩, ?_, ?_⟩
        · exact ⟨es, clock, HFE.out.keep HCM.out.om T11 (fun r h => .inl h)⟩
        · exact ⟨esk, clk, (HM8.out.keep HO8.out.1 ((S9.trans S10).trans S11) (by decide))⟩
        · exact HP6.out.keep (((HS68.out.trans S9).trans S10).trans S11) (by decide)
        · exact K10.keep S11 (by decide)
        · exact HBE.out.trans (T11.below HBE.out.size h0)
        · intro g ρ e
          by_cases hg : g < wr.heap.size
          · rw [T11.kept g hg] at e; exact (HCM.out.new g ρ e).1
          · have := HBE.out.size; omega
      clear S9 L9 B9 z5 hr10 hb10 hn10 S10 K10 T10 oc10 S11 B11 T11 h0 B10 y5 q2 q2f HK9
      go_wp2_with fail
      first | (go_ret; exact HE.out) | trace_state
    · have hcm5 := HCM.out.kept hg5 HR.out.1 HR.out.2.2
      obtain ⟨f, Ad, cd, Au, cu, f0, f1, hk, hval, hod, hou⟩ := hcm5.rows HD.out.inb he
      rw [hk, hval] at hrun hen
      rw [hk] at hit5
      have HRUN := Lib.hid hrun
      have HEN := Lib.hid hen
      have HIN : Hid (∃ x ∈ es.toList, x.key = .int .i64 f) := ⟨e, he, hk⟩
      have HIT := Lib.hid hit5
      have HLT := Lib.hid hlt5
      have HLE := Lib.hid (It.left hit)
      have hb5 : Blk w5 w.heap.size 56 _ := HB.out.1.grown hg5 (fun e => by injection e with e; omega)
      have HB5 := Lib.hid (And.intro hb5 HB.out.2)
      have HR5 : Hid (own2 r = none ∧ r < w5.heap.size) := ⟨HR.out.1, Nat.lt_of_lt_of_le HR.out.2.1 hg5.size⟩
      have hc5 : w.heap.size < w5.heap.size := hb5.lt
      have HCM5 := Lib.hid hcm5
      have hl1 := HDL.out f
      have hl2 := HUL.out f
      have hb0 : Below w5.heap.size w5 ((w5.alloc (.cells #[.slice Ad (s.data f).length cd, .slice Au (s.dur f).length cu] 64)).drew) := ((Below.refl _ _).alloc (Nat.le_refl _) _).drew
      have z0 : ((w5.alloc (.cells #[.slice Ad (s.data f).length cd, .slice Au (s.dur f).length cu] 64)).drew).cell? ⟨w.heap.size, 0, none⟩ = some (.map (some m)) := (hb0.cell (p := ⟨w.heap.size, 0, none⟩) hc5).trans (hb5.cell 0)
      have z1 : ((w5.alloc (.cells #[.slice Ad (s.data f).length cd, .slice Au (s.dur f).length cu] 64)).drew).cell? ⟨w5.heap.size, 0, none⟩ = some (.slice Ad (s.data f).length cd) := cell_of_row _ _ 0 _ _ (0, 0) (heap_alloc_new w5 _)
      have z2 : ((w5.alloc (.cells #[.slice Ad (s.data f).length cd, .slice Au (s.dur f).length cu] 64)).drew).cell? ⟨w5.heap.size, 1, none⟩ = some (.slice Au (s.dur f).length cu) := cell_of_row _ _ 1 _ _ (0, 0) (heap_alloc_new w5 _)
      have HS5 : Hid (w5.heap.size < ((w5.alloc (.cells #[.slice Ad (s.data f).length cd, .slice Au (s.dur f).length cu] 64)).drew).heap.size) := by show _ < (w5.alloc _).heap.size; simp
      have HB0 := Lib.hid hb0
      have HQD : Hid (∀ W, Below w5.heap.size w5 W → Calls Try.prog 41 #[.slice Ad (s.data f).length cd] W (Cloned W 5 1 (s.data f).length (bv (s.data f)))) := fun W hb =>
        cloneB_any Ad _ cd _ W (Reads.of_own (own_below hod hb (fun g e => (hod.lt g e).2))) (bv_one _) (by omega)
      have HQU : Hid (∀ W, Below w5.heap.size w5 W → Calls Try.prog 41 #[.slice Au (s.dur f).length cu] W (Cloned W 5 1 (s.dur f).length (bv (s.dur f)))) := fun W hb =>
        cloneB_any Au _ cu _ W (Reads.of_own (own_below hou hb (fun g e => (hou.lt g e).2))) (bv_one _) (by omega)
      clear hrun hen hit5 hlt5 hit hb5 hcm5 hod hou hb0 he hval hk hg5 HB HI
      go_wp2_with (first | (at_next; refine wpList_next_run rfl _ rfl _ rfl _ _ HRUN.out ?_) | (refine wpList_entry_run rfl (.tmp 17) rfl _ rfl _ _ HEN.out ?_))
      have hm5 : ¬ w5.heap.size = m := by have := HCM5.out.map.lt; omega
      go_region_held3 (fun w' => w'.cell? ⟨w.heap.size, 0, none⟩ = some (.map (some m)) ∧ w'.cell? ⟨w5.heap.size, 0, none⟩ = some (.slice Ad (s.data f).length cd) ∧ w'.cell? ⟨w5.heap.size, 1, none⟩ = some (.slice Au (s.dur f).length cu))
        (first | exact ⟨z0, z1, z2⟩ | exact ⟨y0, y1, y2⟩ | exact ⟨x0, x1, x2⟩ | exact ⟨j0, j1, j2⟩)
        (first | (go_at_call 41; first | (refine (HQU.out _ GD.out.2.2).mono ?_; intro e w3 he; obtain ⟨A2, c2', rfl, hgn, hbb, hgo, hne⟩ := Got.second GD.out he; have x0 := (hbb.cell (p := ⟨w.heap.size, 0, none⟩) (Nat.lt_of_lt_of_le hc5 GD.out.2.2.size)).trans y0; have x1 := (hbb.cell (p := ⟨w5.heap.size, 0, none⟩) (Nat.lt_of_lt_of_le HS5.out HSZ.out)).trans y1; have x2 := (hbb.cell (p := ⟨w5.heap.size, 1, none⟩) (Nat.lt_of_lt_of_le HS5.out HSZ.out)).trans y2; have hsz := Nat.le_trans HSZ.out hbb.size; obtain ⟨w4, hup, hfar, es2, clock2, own3, hcm4, htr4, hit4, hlf4⟩ := copy_put HCM5.out f0 f1 HIN.out hgo hgn hne HIT.out HR5.out.1 HR5.out.2; have j0 := (World.cell?_of_block (hfar w.heap.size (Nat.lt_of_lt_of_le hc5 hgn.2.2.size) hncm)).trans (x0 : w3.cell? ⟨w.heap.size, 0, none⟩ = _); have j1 := (World.cell?_of_block (hfar w5.heap.size (Nat.lt_of_lt_of_le HS5.out hsz) hm5)).trans (x1 : w3.cell? ⟨w5.heap.size, 0, none⟩ = _); have j2 := (World.cell?_of_block (hfar w5.heap.size (Nat.lt_of_lt_of_le HS5.out hsz) hm5)).trans (x2 : w3.cell? ⟨w5.heap.size, 1, none⟩ = _); have HCM4 := Lib.hid hcm4; have HTR4 := Lib.hid htr4; have HIT4 := Lib.hid hit4; have HLF4 := Lib.hid hlf4; clear he hgn hbb hgo hne hfar hcm4 htr4 hit4 hlf4 hsz; simp only []) | (refine (HQD.out _ GU.out.2.2).mono ?_; intro e w3 he; obtain ⟨A2, c2', rfl, hgn, hbb, hgo, hne⟩ := Got.second GU.out he; have x0 := (hbb.cell (p := ⟨w.heap.size, 0, none⟩) (Nat.lt_of_lt_of_le hc5 GU.out.2.2.size)).trans y0; have x1 := (hbb.cell (p := ⟨w5.heap.size, 0, none⟩) (Nat.lt_of_lt_of_le HS5.out HSZ.out)).trans y1; have x2 := (hbb.cell (p := ⟨w5.heap.size, 1, none⟩) (Nat.lt_of_lt_of_le HS5.out HSZ.out)).trans y2; have hsz := Nat.le_trans HSZ.out hbb.size; obtain ⟨w4, hup, hfar, es2, clock2, own3, hcm4, htr4, hit4, hlf4⟩ := copy_put HCM5.out f0 f1 HIN.out hgn hgo (fun g e e1 => hne g e1 e) HIT.out HR5.out.1 HR5.out.2; have j0 := (World.cell?_of_block (hfar w.heap.size (Nat.lt_of_lt_of_le hc5 hgn.2.2.size) hncm)).trans (x0 : w3.cell? ⟨w.heap.size, 0, none⟩ = _); have j1 := (World.cell?_of_block (hfar w5.heap.size (Nat.lt_of_lt_of_le HS5.out hsz) hm5)).trans (x1 : w3.cell? ⟨w5.heap.size, 0, none⟩ = _); have j2 := (World.cell?_of_block (hfar w5.heap.size (Nat.lt_of_lt_of_le HS5.out hsz) hm5)).trans (x2 : w3.cell? ⟨w5.heap.size, 1, none⟩ = _); have HCM4 := Lib.hid hcm4; have HTR4 := Lib.hid htr4; have HIT4 := Lib.hid hit4; have HLF4 := Lib.hid hlf4; clear he hgn hbb hgo hne hfar hcm4 htr4 hit4 hlf4 hsz; simp only []) | (refine (HQD.out _ HB0.out).mono ?_; intro e w2 he; obtain ⟨A1, c1', rfl, hgn, hbb⟩ := Got.first HB0.out he; have y0 := (hbb.cell (p := ⟨w.heap.size, 0, none⟩) (Nat.lt_of_lt_of_le hc5 HB0.out.size)).trans z0; have y1 := (hbb.cell (p := ⟨w5.heap.size, 0, none⟩) HS5.out).trans z1; have y2 := (hbb.cell (p := ⟨w5.heap.size, 1, none⟩) HS5.out).trans z2; have GD := Lib.hid hgn; have HSZ := Lib.hid hbb.size; clear he hgn hbb; simp only []) | (refine (HQU.out _ HB0.out).mono ?_; intro e w2 he; obtain ⟨A1, c1', rfl, hgn, hbb⟩ := Got.first HB0.out he; have y0 := (hbb.cell (p := ⟨w.heap.size, 0, none⟩) (Nat.lt_of_lt_of_le hc5 HB0.out.size)).trans z0; have y1 := (hbb.cell (p := ⟨w5.heap.size, 0, none⟩) HS5.out).trans z1; have y2 := (hbb.cell (p := ⟨w5.heap.size, 1, none⟩) HS5.out).trans z2; have GU := Lib.hid hgn; have HSZ := Lib.hid hbb.size; clear he hgn hbb; simp only [])))
      all_goals
        have HBE := Lib.hid (HTR4.out.blkR HB5.out.1 HB5.out.2 (by decide))
        have HOE := Lib.hid (HTR4.out.role hc5 HB5.out.2)
        have HRE : Hid (own3 r = none ∧ r < w4.heap.size ∧ w.heap.size ≤ r) := ⟨(HTR4.out.kept r HR5.out.2).trans HR5.out.1, Nat.lt_of_lt_of_le HR5.out.2 HTR4.out.size, HR.out.2.2⟩
        go_wp2_with fail
        go_roundw
        case rel => exact ⟨own3, es2, clock2, _, HCM4, ⟨HBE.out, HOE.out⟩, ⟨_, HIT4.out⟩, HRE⟩
        case measure => rw [HLF4.out, HLE.out]; exact HLT.out

theorem a_copy (w : World) (own : Nat → Option Nat) (b : Nat) (s : Ds) (h : Da w own b s) : Calls Try.prog 18 #[.pointer (some ⟨b, 0, none⟩)] w (NewEnd w s) := by
  obtain ⟨ho, m, k, pv, kv, hd⟩ := h
  refine (copy_any w own b m k pv kv _ s hd (by have := pend_len ho; omega) ho.keep ho.size (fun f => Nat.le_trans (ho.dur f) (ho.size f))).mono ?_
  rintro e w' ⟨b', own', m', k', pv', kv', rfl, h1, h2, h3⟩
  exact ⟨b', own', rfl, ⟨ho, m', k', pv', kv', h1⟩, h2, h3⟩

end Go.Proofs.Ytnnakclmeihonaa
