/- Truncate by its plain function. No condition but that the size is an int. -/
import Derived.Test.YtjlndgkahmcfdaaDoorAq
namespace Go.Proofs.YtjlndgkahmcfdaaDoor
set_option maxRecDepth 8000
open Go.RowKit Go.ChangeMaps

def truncP (s : Ds) (f n : Int) : Ds × Int :=
  if s.down = true then (s, 8) else if (strikeP s).2 = true then ((strikeP s).1, 8) else if isF f = false ∨ n < 0 ∨ (((strikeP s).1.data f).length : Int) < n then ((strikeP s).1, 1)
  else (truncd (strikeP s).1 f n.toNat, 0)
theorem Ok.truncP {s : Ds} (h : Ok s) (f n : Int) : Ok (truncP s f n).1 := by
  unfold Go.Proofs.YtjlndgkahmcfdaaDoor.truncP
  have h1 := h.strikeP
  split
  · exact h
  · split
    · exact h1
    · split
      · exact h1
      · exact h1.truncd f _

theorem Row.cutA {w : World} {own : Nat → Option Nat} {r : Nat} {e : TypeId} {A : Option Addr} {n c i : Nat} {xs : List Value} (h : Row w own r e 1 (.slice A n c) n xs) (hi : i ≤ n) : Row w own r e 1 (.slice A i c) i (xs.take i) := by
  cases A with
  | none =>
    rcases h.1.2 with ⟨hv, h0⟩ | ⟨g, cap, cur, hv, _⟩
    · injection hv with _ _ hc
      subst hc
      have : i = 0 := by omega
      subst this
      exact Row.nil _ _ _ _ _
    · cases hv
  | some ad =>
    rcases h.1.2 with ⟨hv, h0⟩ | ⟨g, cap, cur, hv, _⟩
    · cases hv
    · injection hv with hA _ hc
      injection hA with hA
      subst hA
      subst hc
      have := h.cut hi
      rwa [Nat.mul_one] at this

set_option maxRecDepth 4000 in
set_option maxHeartbeats 1000000 in
/-- The part of Truncate that can be carried out. -/
theorem trunc_fin {w W0 : World} {own : Nat → Option Nat} {b m k : Nat} {pv kv : Value} {s : Ds} {f : Int} {n cd cu : Nat} {Ad Au : Option Addr} {es : Array MapEntry} {clock : Nat} (ho : Ok s)
    (h : Dk w own b m k pv kv (fun p => p ∈ (settled s f).pend) (settled s f)) (hfe : FilesE w own m es clock (settled s f).data (settled s f).dur) (h0 : 0 ≤ f) (h1 : f < 16) (hn : n ≤ (s.data f).length)
    (hdv : Row w own (daR f) 5 1 (.slice Ad (s.data f).length cd) (s.data f).length (bv (s.data f))) (huv : Row w own (duR f) 5 1 (.slice Au (s.data f).length cu) (s.data f).length (bv (s.data f)))
    (t0 : Tr (fun _ => False) w own own W0) : ∃ w3, (Instr.mapUpdate 79 (.map (some m)) (.int .i64 f) (.agg #[.slice Ad n cd, .slice Au n cu])).run Tryd.prog W0 = .ok () w3 ∧
      (∀ g, g < W0.heap.size → own g = none ∨ own g = some 0 → w3.heap[g]? = W0.heap[g]?) ∧ AEnd w own b (truncd s f n) (.int .i64 0) (.returned (.int .i64 0)) w3 := by
  have hd1 := (hdv.keep t0 (fun h => h)).cutA hn
  have hu1 := (huv.keep t0 (fun h => h)).cutA hn
  rw [← bv_take] at hd1 hu1
  have hl : ((s.data f).take n).length = n := by rw [List.length_take]; omega
  obtain ⟨es', clock', hrun, hfe', _, _⟩ := hfe.put h.om h0 h1 t0 (fun r h => h.elim) (by rw [hl]; exact hd1) (by rw [hl]; exact hu1)
  have t3 : Tr (fun r => r = 1) w own own (setBlock W0 m (.map es' clock')) := Tr.setMap (R := fun r => r = 1) (t0.weak (fun _ h => h.elim)) (r := 1) h.om rfl _
  refine ⟨_, hrun, fun g _ hr => setBlock_other (fun e => by rw [e, h.om] at hr; rcases hr with hr | hr <;> cases hr) _, rfl, own, ⟨ho.truncd f n, m, k, pv, kv, ?_⟩, t3.weak (fun _ _ => trivial)⟩
  have e1 : (truncd s f n).dur = upd (settled s f).dur f ((s.data f).take n) := by
    rw [truncd_dur]
    funext g
    show _ = upd (upd s.dur f (s.data f)) f _ g
    by_cases hg : g = f
    · subst hg; rw [upd_same, upd_same]
    · rw [upd_other _ hg, upd_other _ hg, upd_other _ hg]
  have hfe2 : FilesE (setBlock W0 m (.map es' clock')) own m es' clock' (truncd s f n).data (truncd s f n).dur := by
    rw [e1]
    exact hfe'
  exact ⟨t3.blkR h.blk h.ob (by omega), h.ob, h.om, h.ok, ⟨_, _, hfe2⟩, h.marks.keep h.ok t3 (by omega), h.pend.keep t3 (by omega), h.keep.keep t3 (by omega), t3.inb⟩

set_option maxRecDepth 4000 in
set_option maxHeartbeats 1000000 in
theorem a_trunc (w : World) (own : Nat → Option Nat) (b : Nat) (s : Ds) (f n : Int) (hf : I64 f) (h : Da w own b s) :
    Calls Tryd.prog 58 #[.pointer (some ⟨b, 0, none⟩), .int .i64 f, .int .i64 n] w (AEnd w own b (truncP s f n).1 (.int .i64 (truncP s f n).2)) := by
  obtain ⟨ho, m, k, pv, kv, hd⟩ := h
  have c6 := hd.blk.cell 6
  cases hdn : s.down with
  | true =>
    have e1 : truncP s f n = (s, 8) := by unfold truncP; rw [if_pos hdn]
    rw [e1]
    have HE := Lib.hid (show AEnd w own b s (.int .i64 8) (.returned (.int .i64 8)) w from ⟨rfl, own, ⟨ho, m, k, pv, kv, hd⟩, hd.refl _⟩)
    rw [hdn] at c6
    clear e1 hd ho hdn
    go_enter Tryd.func58, Tryd.ntmps58
    go_wp2
    go_ret
    exact HE.out
  | false =>
    have HC := Lib.hid (a_strikes w own b s ⟨ho, m, k, pv, kv, hd⟩ hdn)
    have e1 : truncP s f n = if (strikeP s).2 = true then ((strikeP s).1, 8) else if isF f = false ∨ n < 0 ∨ (((strikeP s).1.data f).length : Int) < n then ((strikeP s).1, 1)
        else (truncd (strikeP s).1 f n.toNat, 0) := by unfold truncP; rw [if_neg (by rw [hdn]; decide)]
    rw [hdn] at c6
    clear hd ho hdn
    generalize strikeP s = r at *
    obtain ⟨s1, hit⟩ := r
    simp only at HC e1
    rw [e1]
    clear e1
    cases hit with
    | true =>
      rw [if_pos rfl]
      go_enter Tryd.func58, Tryd.ntmps58
      go_wp2_with fail
      refine HC.out.mono ?_
      rintro e w2 ⟨rfl, own2, hd2, t2⟩
      have HE := Lib.hid (show AEnd w own b s1 (.int .i64 8) (.returned (.int .i64 8)) w2 from ⟨rfl, own2, hd2, t2⟩)
      clear HC hd2 t2
      go_wp2
      go_ret
      exact HE.out
    | false =>
      rw [if_neg (by decide)]
      have HI := Lib.hid (isFile_any f)
      cases hff : isF f with
      | false =>
        rw [if_pos (.inl rfl)]
        rw [hff] at HI
        clear hff
        go_enter Tryd.func58, Tryd.ntmps58
        go_wp2_with fail
        refine HC.out.mono ?_
        rintro e w2 ⟨rfl, own2, hd2, t2⟩
        have HE := Lib.hid (show AEnd w own b s1 (.int .i64 1) (.returned (.int .i64 1)) w2 from ⟨rfl, own2, hd2, t2⟩)
        clear HC hd2 t2
        go_wp2_with fail
        refine (HI.out _).mono ?_
        rintro e w3 ⟨rfl, rfl⟩
        go_wp2
        go_ret
        exact HE.out
      | true =>
        rw [hff] at HI
        have HF := Lib.hid hff
        clear hff
        by_cases hn0 : n < 0
        · rw [if_pos (.inr (.inl hn0))]
          go_enter Tryd.func58, Tryd.ntmps58
          go_wp2_with fail
          refine HC.out.mono ?_
          rintro e w2 ⟨rfl, own2, hd2, t2⟩
          have HE := Lib.hid (show AEnd w own b s1 (.int .i64 1) (.returned (.int .i64 1)) w2 from ⟨rfl, own2, hd2, t2⟩)
          clear HC hd2 t2
          go_wp2_with fail
          refine (HI.out _).mono ?_
          rintro e w3 ⟨rfl, rfl⟩
          go_wp2
          go_ret
          exact HE.out
        · have hn1 : decide (n < 0) = false := by simpa using hn0
          by_cases hnl : ((s1.data f).length : Int) < n
          · rw [if_pos (.inr (.inr hnl))]
            go_enter Tryd.func58, Tryd.ntmps58
            go_wp2_with fail
            refine HC.out.mono ?_
            rintro e w2 ⟨rfl, own2, hd2, t2⟩
            have HS := Lib.hid (a_size w2 own2 b s1 f hf hd2)
            have HE := Lib.hid (show AEnd w own b s1 (.int .i64 1) (.returned (.int .i64 1)) w2 from ⟨rfl, own2, hd2, t2⟩)
            clear HC hd2 t2
            go_wp2_with fail
            refine (HI.out _).mono ?_
            rintro e w3 ⟨rfl, rfl⟩
            go_wp2_with fail
            refine HS.out.mono ?_
            rintro e w3 ⟨rfl, rfl⟩
            go_wp2
            go_ret
            exact HE.out
          · rw [if_neg (by rintro (h | h | h) <;> first | cases h | omega)]
            obtain ⟨q, rfl⟩ := Int.eq_ofNat_of_zero_le (show 0 ≤ n by omega)
            rw [Int.toNat_natCast]
            have hq : q ≤ (s1.data f).length := by omega
            have hq0 : (0 : Int) ≤ (q : Int) := by omega
            have hq1 : (q : Int) ≤ ((s1.data f).length : Int) := by omega
            go_enter Tryd.func58, Tryd.ntmps58
            go_wp2_with fail
            refine HC.out.mono ?_
            rintro e w2 ⟨rfl, own2, hd2, t2⟩
            have HS := Lib.hid (a_size w2 own2 b s1 f hf hd2)
            have HL := Lib.hid (a_settle w2 own2 b s1 f hd2 HF.out)
            have HT := Lib.hid t2
            have HO1 := Lib.hid hd2.1
            clear HC hd2 t2
            go_wp2_with fail
            refine (HI.out _).mono ?_
            rintro e w3 ⟨rfl, rfl⟩
            go_wp2_with fail
            refine HS.out.mono ?_
            rintro e w3 ⟨rfl, rfl⟩
            go_wp2_with fail
            refine HL.out.mono ?_
            rintro e w4 ⟨rfl, own4, ⟨ho4, m4, k4, pv4, kv4, hd4⟩, t4⟩
            obtain ⟨es, clock, hfe⟩ := hd4.files
            obtain ⟨dv, uv, hlk, hdv, huv⟩ := hfe.look hf
            have eu : (settled s1 f).dur f = s1.data f := upd_same _ _ _
            rw [eu] at huv
            have hdv' : Row w4 own4 (daR f) 5 1 dv (s1.data f).length (bv (s1.data f)) := hdv
            obtain ⟨Ad, cd, rfl, hcd1, _⟩ := own_slice hdv'.1
            obtain ⟨Au, cu, rfl, hcu1, _⟩ := own_slice huv.1
            obtain ⟨f0, f1⟩ := isF_iff.1 HF.out
            have c0 := hd4.blk.cell 0
            have hbb := hd4.blk.lt
            obtain ⟨w5, hrun, hfar, hend⟩ := trunc_fin HO1.out hd4 hfe f0 f1 hq hdv' huv ((hd4.refl (fun _ => False)).alloc (.cells #[.slice Ad (s1.data f).length cd, .slice Au (s1.data f).length cu] 97)).drew
            have HE := Lib.hid (AEnd.then (HT.out.trans t4) hend)
            have HLK := Lib.hid (hlk _ hfe.map.blk)
            have hq2 : (q : Int) ≤ (cd : Int) := by omega
            have hq3 : (q : Int) ≤ (cu : Int) := by omega
            have z0 : ((w4.alloc (.cells #[.slice Ad (s1.data f).length cd, .slice Au (s1.data f).length cu] 97)).drew).cell? ⟨b, 0, none⟩ = some (.map (some m4)) := (((hd4.refl (fun _ => False)).alloc _).drew).cell (a := ⟨b, 0, none⟩) c0 (fun _ _ h => h)
            have z1 : ((w4.alloc (.cells #[.slice Ad (s1.data f).length cd, .slice Au (s1.data f).length cu] 97)).drew).cell? ⟨w4.heap.size, 0, none⟩ = some (.slice Ad (s1.data f).length cd) := cell_of_row _ _ 0 _ _ (0, 0) (heap_alloc_new w4 _)
            have z2 : ((w4.alloc (.cells #[.slice Ad (s1.data f).length cd, .slice Au (s1.data f).length cu] 97)).drew).cell? ⟨w4.heap.size, 1, none⟩ = some (.slice Au (s1.data f).length cu) := cell_of_row _ _ 1 _ _ (0, 0) (heap_alloc_new w4 _)
            have y0 := (World.cell?_of_block (a := ⟨b, 0, none⟩) (hfar b (by simp; omega) (.inr hd4.ob))).trans z0
            have y1 := (World.cell?_of_block (a := ⟨w4.heap.size, 0, none⟩) (hfar w4.heap.size (by simp) (.inl (own_none hd4.inb (Nat.le_refl _))))).trans z1
            have y2 := (World.cell?_of_block (a := ⟨w4.heap.size, 1, none⟩) (hfar w4.heap.size (by simp) (.inl (own_none hd4.inb (Nat.le_refl _))))).trans z2
            clear HL HS HT hd4 ho4 t4 hfe hlk hdv hdv' huv hfar hend eu
            go_wp2_with (at_lookup; refine wpList_lookup_run rfl _ _ _ rfl _ _ rfl rfl _ _ HLK.out ?_)
            go_region_held3 (fun w' => w'.cell? ⟨b, 0, none⟩ = some (.map (some m4)) ∧ w'.cell? ⟨w4.heap.size, 0, none⟩ = some (.slice Ad (s1.data f).length cd) ∧ w'.cell? ⟨w4.heap.size, 1, none⟩ = some (.slice Au (s1.data f).length cu))
              (first | exact ⟨z0, z1, z2⟩ | exact ⟨y0, y1, y2⟩) (fail)
            go_wp2
            go_ret
            exact HE.out

end Go.Proofs.YtjlndgkahmcfdaaDoor
