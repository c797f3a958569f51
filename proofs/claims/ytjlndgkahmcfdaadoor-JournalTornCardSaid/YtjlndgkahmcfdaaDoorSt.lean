/- The walk of store: bytes are put into a file, and the sectors of its bytes become pending. Conditions: sizes; the pending sectors are the marked ones. -/
import Derived.Test.YtjlndgkahmcfdaaDoorKy
import Derived.Deep.RegionLaw
import Derived.Lib.Strings
import Derived.Lib.SmallJoins
namespace Go.Proofs.YtjlndgkahmcfdaaDoor
set_option maxRecDepth 8000
open Go.RowKit Go.ChangeMaps

def addS (l : List (Int × Int)) (p : Int × Int) : List (Int × Int) := if p ∈ l then l else l ++ [p]
/-- The pending sectors, with j sectors of file f from n0 on. -/
def addUpto (l : List (Int × Int)) (f : Int) (n0 : Nat) : Nat → List (Int × Int)
  | 0 => l
  | j + 1 => addS (addUpto l f n0 j) (f, ((n0 + j : Nat) : Int))
theorem addS_len (l : List (Int × Int)) (p : Int × Int) : (addS l p).length ≤ l.length + 1 := by unfold addS; split <;> simp
theorem addUpto_len (l : List (Int × Int)) (f : Int) (n0 j : Nat) : (addUpto l f n0 j).length ≤ l.length + j := by
  induction j with
  | zero => exact Nat.le_refl _
  | succ j ih => exact Nat.le_trans (addS_len _ _) (by omega)

theorem addUpto_step (l : List (Int × Int)) (f : Int) {n0 n : Nat} (h : n0 ≤ n) : addUpto l f n0 (n + 1 - n0) = addS (addUpto l f n0 (n - n0)) (f, (n : Int)) := by
  rw [show n + 1 - n0 = (n - n0) + 1 from by omega]
  show addS (addUpto l f n0 (n - n0)) (f, ((n0 + (n - n0) : Nat) : Int)) = _
  rw [show n0 + (n - n0) = n from by omega]
theorem addS_in {l : List (Int × Int)} {p : Int × Int} (h : p ∈ l) : addS l p = l := by simp [addS, h]
theorem addS_out {l : List (Int × Int)} {p : Int × Int} (h : ¬ p ∈ l) : addS l p = l ++ [p] := by simp [addS, h]

/-- What stands behind put and behind the store into the map, where the bytes of a file have turned. -/
theorem data_fin {w W0 w2 : World} {own : Nat → Option Nat} {b m k : Nat} {pv kv dv uv : Value} {mark : Int × Int → Prop} {s : Ds} {f : Int} {n1 dl : Nat} {l : List UInt8} {es : Array MapEntry} {clock : Nat} {e : Ending}
    (h : Dk w own b m k pv kv mark s) (hfe : FilesE w own m es clock s.data s.dur) (h0 : 0 ≤ f) (h1 : f < 16) (hdv : Row w own (daR f) 5 1 dv dl (bv (s.data f))) (huv : Row w own (duR f) 5 1 uv (s.dur f).length (bv (s.dur f)))
    (t0 : Tr (fun _ => False) w own own W0) (he : NewRow W0 dv n1 l e w2) :
    ∃ A' c', e = .returned (.slice A' n1 c') ∧ ∃ w3, (Instr.mapUpdate 79 (.map (some m)) (.int .i64 f) (.agg #[.slice A' n1 c', uv])).run Tryd.prog w2 = .ok () w3 ∧
      (∀ g, g < W0.heap.size → own g = none ∨ own g = some 0 → w2.heap[g]? = W0.heap[g]? ∧ w3.heap[g]? = W0.heap[g]?) ∧ ∃ own', Dk w3 own' b m k pv kv mark { s with data := upd s.data f l } ∧ Tr (fun _ => True) w own own' w3 := by
  obtain ⟨v', rfl, hown, hgr, hb⟩ := he
  obtain ⟨A', c', rfl, _, _⟩ := own_slice hown
  have hdv0 := hdv.keep t0 (fun h => h)
  obtain ⟨own', hrow, t1⟩ := Row.after (R := fun r => r = daR f) hdv0 t0.inb rfl hgr hown hb
  have t2 : Tr (fun r => r = daR f) w own own' w2 := (t0.weak (fun _ h => h.elim)).trans t1
  have hlen : l.length = n1 := by have := hown.1; rw [bv_len] at this; omega
  have hne : duR f ≠ daR f := by unfold daR duR; omega
  have huv2 := huv.keep t2 (fun h => hne h)
  obtain ⟨es', clock', hrun, hfe', _, _⟩ := hfe.put h.om h0 h1 t2 (fun r h => .inl h) (by rw [hlen]; exact hrow) huv2
  have hd2 : daR f ≥ 5 := by unfold daR; omega
  refine ⟨A', c', rfl, _, hrun, fun g hg hr => ?_, own', ?_, ?_⟩
  · have hg2 : w2.heap[g]? = W0.heap[g]? := t1.block g hg (fun r e hr' => by
      rcases hr with hr | hr
      · rw [hr] at e; cases e
      · rw [hr] at e; cases e; omega)
    refine ⟨hg2, (setBlock_other (fun e => ?_) _).trans hg2⟩
    rw [e, h.om] at hr
    rcases hr with hr | hr <;> cases hr
  · have t3 : Tr (fun r => r = 1 ∨ r = daR f) w own own' (setBlock w2 m (.map es' clock')) := (t2.weak (fun _ h => .inr h)).setMap (r := 1) h.om (.inl rfl) _
    have e1 : upd s.dur f (s.dur f) = s.dur := upd_self _ _
    have hfe2 : FilesE (setBlock w2 m (.map es' clock')) own' m es' clock' (upd s.data f l) s.dur := by
      have := hfe'
      rw [e1] at this
      exact this
    exact ⟨t3.blkR h.blk h.ob (by omega), t3.role h.blk.lt h.ob, t3.role hfe.map.lt h.om, t3.role (by obtain ⟨es, c, hf⟩ := h.marks; exact hf.map.lt) h.ok, ⟨_, _, hfe2⟩, h.marks.keep h.ok t3 (by omega), h.pend.keep t3 (by omega), h.keep.keep t3 (by omega), t3.inb⟩
  · exact (t2.weak (fun _ _ => trivial)).setMap (r := 1) h.om trivial _

theorem emp_of {s : ByteArray} (h : 0 < s.size) : s.toList.isEmpty = false := by
  rw [Lib.toList_data]
  rw [Lib.size_eq] at h
  cases hs : s.data.toList with
  | nil => simp [hs] at h
  | cons a l => rfl
theorem nil_of {s : ByteArray} (h : 0 < s.size) : ¬ s.toList = [] := by
  intro e
  have := emp_of h
  rw [e] at this
  cases this

theorem sec_new (W : World) (f n : Int) : Reads (W.drew.alloc (.cells #[.int .i64 f, .int .i64 n] 93)) (W.heap.size + 1) 2 (some ⟨W.heap.size, 0, none⟩) 1 [.int .i64 f, .int .i64 n] :=
  ⟨rfl, fun _ => ⟨_, rfl, Nat.lt_succ_self _, World.news_of_block (cs := #[.int .i64 f, .int .i64 n]) (t := 93) (fr := (0, 0)) (heap_alloc_new W.drew _)⟩⟩

/-- How store ends. -/
def StoreEnd (w : World) (own : Nat → Option Nat) (b m k : Nat) (kv : Value) (s : Ds) (e : Ending) (w' : World) : Prop :=
  e = .returned (.tuple #[]) ∧ ∃ own' pv, Dk w' own' b m k pv kv (fun p => p ∈ s.pend) s ∧ Tr (fun _ => True) w own own' w'

set_option maxRecDepth 4000 in
set_option maxHeartbeats 1000000 in
theorem store_nil (w : World) (own : Nat → Option Nat) (b m k : Nat) (pv kv : Value) (s : Ds) (f a : Int) (t : ByteArray) (h : Dk w own b m k pv kv (fun p => p ∈ s.pend) s) (ht : t.size = 0) :
    Calls Tryd.prog 65 #[.pointer (some ⟨b, 0, none⟩), .int .i64 f, .int .i64 a, .string t] w (StoreEnd w own b m k kv s) := by
  have he : t = ⟨#[]⟩ := by
    cases t
    rename_i d
    have : d = #[] := Array.eq_empty_of_size_eq_zero ht
    rw [this]
  subst he
  have HE := Lib.hid (show StoreEnd w own b m k kv s (.returned (.tuple #[])) w from ⟨rfl, own, pv, h, h.refl _⟩)
  clear h
  go_enter Tryd.func65, Tryd.ntmps65
  go_wp2
  go_end0
  exact HE.out

set_option maxRecDepth 4000 in
set_option maxHeartbeats 1000000 in
theorem store_any (w : World) (own : Nat → Option Nat) (b m k : Nat) (pv kv : Value) (s : Ds) (f : Int) (a : Nat) (t : ByteArray) (h : Dk w own b m k pv kv (fun p => p ∈ s.pend) s) (ht : 0 < t.size)
    (h0 : 0 ≤ f) (h1 : f < 16) (ha : a + t.size ≤ 16777216) (hd : (s.data f).length ≤ 16777216) (hp : s.pend.length ≤ 33554432) :
    Calls Tryd.prog 65 #[.pointer (some ⟨b, 0, none⟩), .int .i64 f, .int .i64 a, .string t] w
      (StoreEnd w own b m k kv { s with data := upd s.data f (putB (s.data f) a t.data.toList), pend := addUpto s.pend f (a / 64) ((a + t.size + 63) / 64 - a / 64) }) := by
  obtain ⟨i0, hi, hz0, hz1, hz2⟩ := info_parts infoSec
  obtain ⟨es, clock, hfe⟩ := h.files
  obtain ⟨dv, uv, hlk, hdv, huv⟩ := hfe.look (i64_small h0 (by omega))
  obtain ⟨Ad, cd, rfl, hcd1, hcd2⟩ := own_slice hdv.1
  obtain ⟨Au, cu, rfl, hcu1, hcu2⟩ := own_slice huv.1
  generalize hdl : (s.data f).length = dl at *
  generalize hul : (s.dur f).length = ul at *
  have HDL := Lib.hid hdl
  have HUL := Lib.hid hul
  clear hdl hul
  have c0 := h.blk.cell 0
  have hmb : Mb m es clock w := hfe.map.blk
  have HD := Lib.hid h
  have HFE := Lib.hid hfe
  have HDV := Lib.hid hdv
  have HUV := Lib.hid huv
  have hb0 := h.blk.lt
  have hm0 := hfe.map.lt
  have HP := Lib.hid hp
  clear h hfe hdv huv hp
  have ht1 := emp_of ht
  have ht2 := nil_of ht
  have HQ : Hid (∀ W0 : World, Tr (fun _ => False) w own own W0 → Calls Tryd.prog 96 #[.slice Ad dl cd, .int .i64 a, .string t] W0 (NewRow W0 (.slice Ad dl cd) (max dl (a + t.size)) (putB (s.data f) a t.data.toList))) := fun W0 t0 =>
    putS_any _ dl a (s.data f) t W0 (HDV.out.keep t0 (fun h => h)).1 (by omega) (by omega) ht
  generalize hn1 : max dl (a + t.size) = n1 at HQ
  clear hn1
  have HN := Lib.hid (own_none HD.out.inb (Nat.le_refl w.heap.size))
  have HLK := Lib.hid hlk
  clear hlk
  obtain ⟨n0, hn0⟩ : ∃ n0, a / 64 = n0 := ⟨_, rfl⟩
  rw [hn0]
  obtain ⟨K, hK⟩ : ∃ K, (a + t.size + 63) / 64 - n0 = K := ⟨_, rfl⟩
  rw [hK]
  have hq1 : 64 * n0 ≤ a := by omega
  have hk1 : a + t.size ≤ 64 * (n0 + K) := by omega
  have hk2 : 64 * (n0 + K) < a + t.size + 64 := by omega
  have HN0 := Lib.hid hn0
  clear hn0 hK
  go_enter Tryd.func65, Tryd.ntmps65
  go_wp2_with (at_lookup; refine wpList_lookup_run rfl _ _ _ rfl _ _ rfl rfl _ _ (HLK.out _ hmb) ?_)
  clear ht1 ht2
  go_region_held3 (fun w' => w'.cell? ⟨b, 0, none⟩ = some (.map (some m)) ∧ w'.cell? ⟨w.heap.size, 0, none⟩ = some (.slice Ad dl cd) ∧ w'.cell? ⟨w.heap.size, 1, none⟩ = some (.slice Au ul cu))
    (first | exact ⟨k1.1, k3.1, k4.1⟩ | exact ⟨k1.2, k3.2, k4.2⟩ | ((go_split_ands; (refine ⟨?_, ?_, ?_⟩) <;> go_keep)))
    (first | (go_at_call 96; refine (HQ.out _ ?_).mono ?_; (next => exact ((HD.out.refl _).alloc _).drew); intro e w2 he
              obtain ⟨A', c', rfl, w3, hrun, hfar, own', hdk, htr⟩ := data_fin HD.out HFE.out h0 h1 HDV.out (by rw [HUL.out]; exact HUV.out) ((HD.out.refl _).alloc _).drew he
              have HDK := Lib.hid hdk
              have HTR := Lib.hid htr
              have k1 := cells_far (hfar b (by simp; omega) (.inr HD.out.ob)) (i := 0) (u := .map (some m)) (by simp [*])
              have k3 := cells_far (hfar w.heap.size (by simp) (.inl HN.out)) (i := 0) (u := .slice Ad dl cd) (by simp [*])
              have k4 := cells_far (hfar w.heap.size (by simp) (.inl HN.out)) (i := 1) (u := .slice Au ul cu) (by simp [*])
              clear hfar hdk htr he
              simp only []))
  go_wp2_with fail
  clear hrun k1 k3 k4
  go_loopw [9] (fun i wr => ∃ (n : Nat) (own2 : Nat → Option Nat) (pv2 : Value), i = .int .i64 (n : Int) ∧ n0 ≤ n ∧ n ≤ n0 + K ∧ Hid (Dk wr own2 b m k pv2 kv (fun p => p ∈ addUpto s.pend f n0 (n - n0)) { s with data := upd s.data f (putB (s.data f) a t.data.toList), pend := addUpto s.pend f n0 (n - n0) }) ∧ Hid (Tr (fun _ => True) w own own2 wr)) (fun i _ => a + t.size + 64 - 64 * (RowKit.intOf i).toNat)
  case atStart => exact ⟨n0, own', pv, by rw [← HN0.out]; congr 1, Nat.le_refl _, by omega, by rw [Nat.sub_self]; exact HDK, HTR⟩
  case round =>
    obtain ⟨n, own2, pv2, rfl, hn0, hnK, HDJ, HTJ⟩ := hrel
    clear HDK HTR HFE HDV HUV HLK HN HQ
    by_cases hlt : (n : Int) * 64 < (a : Int) + (t.size : Int)
    · have hDJ := HDJ.out
      have c2 := hDJ.blk.cell 2
      have c1 := hDJ.blk.cell 1
      have f1 := hDJ.blk.frozen 1
      have hb2 := hDJ.blk.lt
      obtain ⟨es2, clock2, hme⟩ := hDJ.marks
      have hk2b := hme.map.lt
      have hmb2 : Mb k es2 clock2 wr := hme.map.blk
      have hsec : SecOk (f, (n : Int)) := ⟨h0, h1, by show (0 : Int) ≤ n; omega, by show (n : Int) ≤ 262144; omega⟩
      have HLP := Lib.hid (addUpto_len s.pend f n0 (n - n0))
      have HSEC := Lib.hid hsec
      have HME := Lib.hid hme
      have HST := Lib.hid (addUpto_step s.pend f hn0)
      generalize addUpto s.pend f n0 (n - n0) = pl at *
      rcases hme.look hsec with ⟨hin, hlk2⟩ | ⟨hin, hlk2⟩
      · have HE1 := Lib.hid (show Dk ((wr.alloc (.cells #[.int .i64 f, .int .i64 n] 93)).drew) own2 b m k pv2 kv (fun p => p ∈ addS pl (f, (n : Int))) { s with data := upd s.data f (putB (s.data f) a t.data.toList), pend := addS pl (f, (n : Int)) } by
          rw [addS_in hin]
          exact hDJ.far (((hDJ.refl _).alloc _).drew))
        have HE2 := Lib.hid (show Tr (fun _ => True) w own own2 ((wr.alloc (.cells #[.int .i64 f, .int .i64 n] 93)).drew) from (HTJ.out.alloc _).drew)
        clear hin hsec hme hDJ HDJ HTJ HME HSEC
        simp only [secV] at hlk2
        go_wp2_with fail
        go_region_held3 (fun w' => w'.cell? ⟨b, 2, none⟩ = some (.map (some k)) ∧ w'.cell? ⟨wr.heap.size, 0, none⟩ = some (.int .i64 f) ∧ w'.cell? ⟨wr.heap.size, 1, none⟩ = some (.int .i64 (n : Int)) ∧ Mb k es2 clock2 w')
          ((go_split_ands; (refine ⟨?_, ?_, ?_, ?_⟩); (next => go_keep); (next => go_keep); (next => go_keep); (next => first | exact (hmb2.alloc _).drew | assumption))) (fail)
        clear hlk2
        go_wp2
        go_roundw
        case rel => exact ⟨n + 1, own2, pv2, by go_num, by omega, by omega, by rw [HST.out]; exact HE1, HE2⟩
        case measure => simp [RowKit.intOf]; omega
      · have hme1 := hme.keep hDJ.ok (((hDJ.refl (fun _ => False)).alloc (.cells #[.int .i64 f, .int .i64 n] 93)).drew).drew (fun h => h)
        have hD1 := hDJ.far (((hDJ.refl (fun _ => False)).alloc (.cells #[.int .i64 f, .int .i64 n] 93)).drew).drew
        obtain ⟨es3, clock3, hup, hme3⟩ := hme1.put hsec
        obtain ⟨hD2, t2⟩ := hD1.setMarks hme3
        have HT2 := Lib.hid (((HTJ.out.alloc (.cells #[.int .i64 f, .int .i64 n] 93)).drew).drew.trans (t2.weak (fun _ _ => trivial)))
        have b0 : wr.heap.size ≠ k := by omega
        have z0 : (((wr.alloc (.cells #[.int .i64 f, .int .i64 n] 93)).drew).drew).cell? ⟨wr.heap.size, 0, none⟩ = some (.int .i64 f) := by simp
        have z1 : (((wr.alloc (.cells #[.int .i64 f, .int .i64 n] 93)).drew).drew).cell? ⟨wr.heap.size, 1, none⟩ = some (.int .i64 (n : Int)) := by simp
        have x0 := (setBlock_cell (.map es3 clock3) (p := ⟨wr.heap.size, 0, none⟩) b0).trans z0
        have x1 := (setBlock_cell (.map es3 clock3) (p := ⟨wr.heap.size, 1, none⟩) b0).trans z1
        have hsz : (setBlock (((wr.alloc (.cells #[.int .i64 f, .int .i64 n] 93)).drew).drew) k (.map es3 clock3)).heap.size = wr.heap.size + 1 := by rw [setBlock_size]; simp
        generalize setBlock (((wr.alloc (.cells #[.int .i64 f, .int .i64 n] 93)).drew).drew) k (.map es3 clock3) = W2 at hup hme3 hD2 HT2 x0 x1 hsz
        obtain ⟨Ap, cp, rfl, hcp1, hcp2⟩ := own_slice hD2.pend.1
        have HPR := Lib.hid hD2.pend.1
        have hnpb : pl.length ≤ 40000000 := by have h5 := HLP.out; have h6 := HP.out; omega
        have y1 := hD2.blk.cell 1
        have y2 := hD2.blk.cell 2
        have HD2 := Lib.hid hD2
        have HIN := Lib.hid hin
        have HSZ := Lib.hid hsz
        clear hin hsec hme hDJ HDJ HTJ HME HSEC hme1 hD1 hme3 hD2 t2 z0 z1 hsz
        simp only [secV] at hlk2 hup
        go_wp2_with fail
        go_region_held3 (fun w' => w'.cell? ⟨b, 2, none⟩ = some (.map (some k)) ∧ w'.cell? ⟨wr.heap.size, 0, none⟩ = some (.int .i64 f) ∧ w'.cell? ⟨wr.heap.size, 1, none⟩ = some (.int .i64 (n : Int)) ∧ Mb k es2 clock2 w')
          ((go_split_ands; (refine ⟨?_, ?_, ?_, ?_⟩); (next => go_keep); (next => go_keep); (next => go_keep); (next => first | exact (hmb2.alloc _).drew | assumption))) (fail)
        clear hlk2
        go_wp2_with fail
        go_region_held3 (fun w' => w'.cell? ⟨b, 2, none⟩ = some (.map (some k)) ∧ w'.cell? ⟨wr.heap.size, 0, none⟩ = some (.int .i64 f) ∧ w'.cell? ⟨wr.heap.size, 1, none⟩ = some (.int .i64 (n : Int)))
          (first | exact ⟨y2, x0, x1⟩ | ((go_split_ands; (refine ⟨?_, ?_, ?_⟩); (next => go_keep); (next => go_keep); (next => go_keep)))) (fail)
        go_wp2_with fail
        clear hup
        have y1a := (World.cell?_alloc_some W2 ⟨b, 1, none⟩ (.cells #[.int .i64 f, .int .i64 n] 93) (by rw [y1]; rfl)).trans y1
        go_region_law ((refine step_append_any _ rfl (.tmp 62) (.tmp 64) 81 rfl 0 93 i0 _ 2 16 Tryd.underlying81 hi hz0 hz1 hz2 rfl (by decide) (.slice Ap pl.length cp) pl.length (secC pl) rfl (by exact (((HPR.out.alloc _).drew))) (W2.heap.size + 1) (some ⟨W2.heap.size, 0, none⟩) 1 1 [.int .i64 f, .int .i64 n] rfl (sec_new _ _ _) (by simp [Value.oneCell']) (by unfold maxLen; omega) (by omega) (Nat.zero_le _) ?_; intro v' w4 q1 q2 q3; obtain ⟨A4, c4, rfl, _, _⟩ := own_slice q1; obtain ⟨hblk, own3, hdk3, htr3⟩ := pend_fin HD2.out (((HD2.out.refl _).drew).alloc _) q1 q2 (by simpa using q3); have y4 := hblk.cell 1; have fr4 := hblk.frozen 1; have HK3 := Lib.hid (hdk3.congr (mark' := fun p => p ∈ addS pl (f, (n : Int))) (by funext p; rw [addS_out HIN.out]; simp only [List.mem_append, List.mem_singleton, eq_iff_iff]; exact Or.comm)); have HT3 := Lib.hid (HT2.out.trans htr3); clear hblk hdk3 htr3 q1 q2 q3))
        all_goals
          go_wp2
          go_roundw
          case rel => exact ⟨n + 1, own3, _, by go_num, by omega, by omega, by
            rw [HST.out]
            have h7 := HK3.out
            rw [addS_out HIN.out] at h7 ⊢
            exact h7, HT3⟩
          case measure => simp [RowKit.intOf]; omega
    · have hjK : n = n0 + K := by omega
      have HE := Lib.hid (show StoreEnd w own b m k kv { s with data := upd s.data f (putB (s.data f) a t.data.toList), pend := addUpto s.pend f n0 K } (.returned (.tuple #[])) wr from ⟨rfl, own2, pv2, by
        have h1 := HDJ.out
        rw [show n - n0 = K from by omega] at h1
        exact h1, HTJ.out⟩)
      clear HDJ hjK
      go_wp2
      go_end0
      exact HE.out

end Go.Proofs.YtjlndgkahmcfdaaDoor
