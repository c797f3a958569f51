/- The walk of harden: the bytes of a sector are put into the durable part of its file. Conditions: the sector begins within the file. -/
import Derived.Test.YtjlndgkahmcfdaaDoorAm
import Derived.Deep.DeepCutAuto
namespace Go.Proofs.YtjlndgkahmcfdaaDoor
set_option maxRecDepth 8000
open Go.RowKit Go.ChangeMaps

/-- The bytes of sector n. -/
def secB (d : List UInt8) (n : Nat) : List UInt8 := (d.drop (64 * n)).take 64
theorem secB_len {d : List UInt8} {n : Nat} : (secB d n).length = min 64 (d.length - 64 * n) := by simp [secB]
/-- The durable parts, behind the survival of sector n of file f. -/
def hard (data dur : Int → List UInt8) (f : Int) (n : Nat) : Int → List UInt8 := upd dur f (putB (dur f) (64 * n) (secB (data f) n))

/-- How harden ends. -/
def HardEnd (w : World) (own : Nat → Option Nat) (b m k : Nat) (pv kv : Value) (mark : Int × Int → Prop) (s : Ds) (f : Int) (e : Ending) (w' : World) : Prop :=
  e = .returned (.tuple #[]) ∧ ∃ own', Dk w' own' b m k pv kv mark s ∧ Tr (fun r => r = 1 ∨ r = duR f) w own own' w'

/-- What stands behind put and behind the store into the map. -/
theorem hard_fin {w W0 w2 : World} {own : Nat → Option Nat} {b m k : Nat} {pv kv dv uv : Value} {mark : Int × Int → Prop} {s : Ds} {f : Int} {n n1 ul : Nat} {es : Array MapEntry} {clock : Nat} {e : Ending}
    (h : Dk w own b m k pv kv mark s) (hfe : FilesE w own m es clock s.data s.dur) (h0 : 0 ≤ f) (h1 : f < 16) (hdv : Row w own (daR f) 5 1 dv (s.data f).length (bv (s.data f))) (huv : Row w own (duR f) 5 1 uv ul (bv (s.dur f)))
    (t0 : Tr (fun _ => False) w own own W0) (he : NewRow W0 uv n1 (putB (s.dur f) (64 * n) (secB (s.data f) n)) e w2) :
    ∃ A' c', e = .returned (.slice A' n1 c') ∧ ∃ w3, (Instr.mapUpdate 79 (.map (some m)) (.int .i64 f) (.agg #[dv, .slice A' n1 c'])).run Tryd.prog w2 = .ok () w3 ∧
      (∀ g, g < W0.heap.size → own g = none ∨ own g = some 0 → w2.heap[g]? = W0.heap[g]? ∧ w3.heap[g]? = W0.heap[g]?) ∧ HardEnd w own b m k pv kv mark { s with dur := hard s.data s.dur f n } f (.returned (.tuple #[])) w3 := by
  obtain ⟨v', rfl, hown, hgr, hb⟩ := he
  obtain ⟨A', c', rfl, _, _⟩ := own_slice hown
  have huv0 := huv.keep t0 (fun h => h)
  obtain ⟨own', hrow, t1⟩ := Row.after (R := fun r => r = duR f) huv0 t0.inb rfl hgr hown hb
  have t2 : Tr (fun r => r = duR f) w own own' w2 := (t0.weak (fun _ h => h.elim)).trans t1
  have hlen : (putB (s.dur f) (64 * n) (secB (s.data f) n)).length = n1 := by have := hown.1; rw [bv_len] at this; omega
  have hne : daR f ≠ duR f := by unfold daR duR; omega
  have hdv2 := hdv.keep t2 (fun h => hne h)
  obtain ⟨es', clock', hrun, hfe', _, _⟩ := hfe.put h.om h0 h1 t2 (fun r h => .inr (.inl h)) hdv2 (by rw [hlen]; exact hrow)
  have hd2 : duR f ≥ 5 := by unfold duR; omega
  refine ⟨A', c', rfl, _, hrun, fun g hg hr => ?_, rfl, own', ?_, ?_⟩
  · have hg2 : w2.heap[g]? = W0.heap[g]? := t1.block g hg (fun r e hr' => by
      rcases hr with hr | hr
      · rw [hr] at e; cases e
      · rw [hr] at e; cases e; omega)
    refine ⟨hg2, (setBlock_other (fun e => ?_) _).trans hg2⟩
    rw [e, h.om] at hr
    rcases hr with hr | hr <;> cases hr
  · have t3 : Tr (fun r => r = 1 ∨ r = duR f) w own own' (setBlock w2 m (.map es' clock')) := (t2.weak (fun _ h => .inr h)).setMap (r := 1) h.om (.inl rfl) _
    have e1 : upd s.data f (s.data f) = s.data := upd_self _ _
    have hfe2 : FilesE (setBlock w2 m (.map es' clock')) own' m es' clock' s.data (hard s.data s.dur f n) := by
      have := hfe'
      rw [e1] at this
      exact this
    exact ⟨t3.blkR h.blk h.ob (by omega), t3.role h.blk.lt h.ob, t3.role hfe.map.lt h.om, t3.role (by obtain ⟨es, c, hf⟩ := h.marks; exact hf.map.lt) h.ok, ⟨_, _, hfe2⟩, h.marks.keep h.ok t3 (by omega), h.pend.keep t3 (by omega), h.keep.keep t3 (by omega), t3.inb⟩
  · exact (t2.weak (fun _ h => .inr h)).setMap (r := 1) h.om (.inl rfl) _

theorem cells_far {w2 w3 W0 : World} {g i : Nat} {u : Value} (h : w2.heap[g]? = W0.heap[g]? ∧ w3.heap[g]? = W0.heap[g]?) (hc : W0.cell? ⟨g, i, none⟩ = some u) : w2.cell? ⟨g, i, none⟩ = some u ∧ w3.cell? ⟨g, i, none⟩ = some u :=
  ⟨(World.cell?_of_block (a := ⟨g, i, none⟩) h.1).trans hc, (World.cell?_of_block (a := ⟨g, i, none⟩) h.2).trans hc⟩
theorem own_none {own : Nat → Option Nat} {n g : Nat} (h : ∀ g r, own g = some r → g < n) (hg : n ≤ g) : own g = none := by
  cases e : own g with
  | none => rfl
  | some r => have := h g r e; omega

/-- The cells of a part of a row. -/
theorem sec_cells {w : World} {g dl cd : Nat} {d : List UInt8} {n : Nat} (h : w.ownsRow 0 5 1 (.slice (some ⟨g, 0, none⟩) dl cd) dl (bv d)) : ∀ j u, (bv (secB d n))[j]? = some u → w.cell? ((⟨g, 64 * n, none⟩ : Addr).add j) = some u := fun j u hj => by
  have h1 : (bv d)[64 * n + j]? = some u := by
    unfold secB at hj
    rw [bv_take, bv_drop, List.getElem?_take] at hj
    split at hj
    · rw [List.getElem?_drop] at hj; exact hj
    · cases hj
  have h2 := h.cells (g := g) rfl _ _ h1
  have e1 : (⟨g, 0, none⟩ : Addr).add (64 * n + j) = (⟨g, 64 * n, none⟩ : Addr).add j := by
    unfold Addr.add
    by_cases hj0 : j = 0 <;> by_cases hn0 : n = 0 <;> simp [hj0, hn0] <;> omega
  rw [← e1]
  exact h2

set_option maxRecDepth 4000 in
set_option maxHeartbeats 400000 in
theorem harden_any (w : World) (own : Nat → Option Nat) (b m k : Nat) (pv kv : Value) (mark : Int × Int → Prop) (s : Ds) (f : Int) (n : Nat) (h : Dk w own b m k pv kv mark s)
    (h0 : 0 ≤ f) (h1 : f < 16) (hn : 64 * n < (s.data f).length) (hd : (s.data f).length ≤ 16777216) (hu : (s.dur f).length ≤ 16777216) :
    Calls Tryd.prog 63 #[.pointer (some ⟨b, 0, none⟩), .agg #[.int .i64 f, .int .i64 n]] w (HardEnd w own b m k pv kv mark { s with dur := hard s.data s.dur f n } f) := by
  obtain ⟨es, clock, hfe⟩ := h.files
  obtain ⟨dv, uv, hlk, hdv, huv⟩ := hfe.look (i64_small h0 (by omega))
  obtain ⟨ga, cd, rfl, hcd1, hcd2⟩ := own_some hdv.1 rfl (by omega)
  obtain ⟨Au, cu, rfl, hcu1, hcu2⟩ := own_slice huv.1
  generalize hdl : (s.data f).length = dl at *
  generalize hul : (s.dur f).length = ul at *
  have HDL := Lib.hid hdl
  have HUL := Lib.hid hul
  clear hdl hul
  have c0 := h.blk.cell 0
  have hmb : Mb m es clock w := hfe.map.blk
  have HD := Lib.hid h
  have HFE := Lib.hid hfe
  have HDV := Lib.hid hdv
  have HUV := Lib.hid huv
  have hb0 := h.blk.lt
  have hm0 := hfe.map.lt
  clear h hfe hdv huv
  go_enter Tryd.func63, Tryd.ntmps63
  go_upto_region 1 with fail
  go_cut [4] (fun s4 wx => s4 = .pointer (some ⟨w.heap.size + 1, 0, none⟩) ∧ wx = ((w.alloc (.cells #[.int .i64 f, .int .i64 n] 93)).alloc (.cells #[.slice (some ⟨ga, 0, none⟩) dl cd, .slice Au ul cu] 97)).drew)
  case first =>
    go_region_held3 (fun w' => w'.cell? ⟨b, 0, none⟩ = some (.map (some m)) ∧ w'.cell? ⟨w.heap.size, 0, none⟩ = some (.int .i64 f) ∧ Mb m es clock w')
      ((go_split_ands; (refine ⟨?_, ?_, ?_⟩); (next => go_keep); (next => go_keep); (next => first | exact (hmb.alloc _).drew | exact ((hmb.alloc _).alloc _).drew | exact Mb.alloc (by assumption) _ | exact Mb.setAt (by assumption) (by simp; omega) _ | assumption))) (fail)
    all_goals (go_wp2_with fail; go_meet; exact ⟨rfl, rfl⟩)
  case rest =>
    obtain ⟨rfl, hw⟩ := hcut
    have HLK := Lib.hid hlk
    clear hlk
    subst hw
    go_upto_region 3 with fail
    go_cut [5, 6] (fun s5 s6 wx => ∃ x u : Nat, s5 = .int .i64 x ∧ s6 = .int .i64 u ∧ x = 64 * n ∧ u = min (64 * n + 64) dl ∧ wx = ((w.alloc (.cells #[.int .i64 f, .int .i64 n] 93)).alloc (.cells #[.slice (some ⟨ga, 0, none⟩) dl cd, .slice Au ul cu] 97)).drew)
    case first =>
      go_wp2_with fail
      all_goals go_meet
      · exact ⟨64 * n, dl, by congr 1; omega, rfl, rfl, by omega, rfl⟩
      · exact ⟨64 * n, 64 * n + 64, by congr 1; omega, by congr 1; omega, rfl, by omega, rfl⟩
    case rest =>
      obtain ⟨x, u, rfl, rfl, hx, hu2, hw⟩ := hcut
      subst hw
      have hx1 : x < dl := by omega
      have hxu : x < u := by omega
      have hud : u ≤ dl := by omega
      have hx0 : (0 : Int) ≤ (x : Int) := by omega
      have hx2 : (x : Int) ≤ (u : Int) := by omega
      have hx3 : (x : Int) < (dl : Int) := by omega
      have hx4 : (u : Int) ≤ (dl : Int) := by omega
      have hx5 : (u : Int) ≤ (cd : Int) := by omega
      have hx6 : ¬ cd = x := by omega
      have HX := Lib.hid hx
      have HU2 := Lib.hid hu2
      clear hx hu2
      go_upto_region 4 with fail
      have HQ : Hid (∀ W0 : World, Tr (fun _ => False) w own own W0 → Calls Tryd.prog 95 #[.slice Au ul cu, .int .i64 x, .slice (some ⟨ga, x, none⟩) (u - x) (cd - x)] W0 (NewRow W0 (.slice Au ul cu) (max ul (x + (u - x))) (putB (s.dur f) x (secB (s.data f) n)))) := fun W0 t0 => by
        have hdv0 := HDV.out.keep t0 (fun h => h)
        have huv0 := HUV.out.keep t0 (fun h => h)
        have hxx := HX.out
        have huu := HU2.out
        refine putB_any _ ul x (s.dur f) (secB (s.data f) n) (u - x) (cd - x) ⟨ga, x, none⟩ W0 huv0.1 (by omega) (by omega) (by omega) (by rw [secB_len, HDL.out]; omega) (by rw [hxx]; exact sec_cells hdv0.1) ?_
        intro e
        have h3 := HUV.out.2 _ e
        have h4 := HDV.out.2 ga rfl
        rw [h4] at h3
        injection h3 with h3
        unfold daR duR at h3
        omega
      generalize hn1 : max ul (x + (u - x)) = n1 at HQ
      clear hn1
      have HN := Lib.hid (own_none HD.out.inb (Nat.le_refl w.heap.size))
      have HN1 := Lib.hid (own_none HD.out.inb (Nat.le_succ w.heap.size))
      go_region_held3 (fun w' => w'.cell? ⟨b, 0, none⟩ = some (.map (some m)) ∧ w'.cell? ⟨w.heap.size, 0, none⟩ = some (.int .i64 f) ∧ w'.cell? ⟨w.heap.size + 1, 0, none⟩ = some (.slice (some ⟨ga, 0, none⟩) dl cd) ∧ w'.cell? ⟨w.heap.size + 1, 1, none⟩ = some (.slice Au ul cu))
        (first | exact ⟨k1.1, k2.1, k3.1, k4.1⟩ | exact ⟨k1.2, k2.2, k3.2, k4.2⟩ | ((go_split_ands; (refine ⟨?_, ?_, ?_, ?_⟩) <;> go_keep)))
        (first | (go_at_call 95; refine (HQ.out _ ?_).mono ?_; (next => exact ((((HD.out.refl _).alloc _).alloc _).drew).drew); intro e w2 he
                  obtain ⟨A', c', rfl, w3, hrun, hfar, hend⟩ := hard_fin HD.out HFE.out h0 h1 (by rw [HDL.out]; exact HDV.out) HUV.out ((((HD.out.refl _).alloc _).alloc _).drew).drew (by rw [← HX.out]; exact he)
                  have HE := Lib.hid hend
                  have k1 := cells_far (hfar b (by simp; omega) (.inr HD.out.ob)) (i := 0) (u := .map (some m)) (by simp [*])
                  have k2 := cells_far (hfar w.heap.size (by simp; omega) (.inl HN.out)) (i := 0) (u := .int .i64 f) (by simp [*])
                  have k3 := cells_far (hfar (w.heap.size + 1) (by simp) (.inl HN1.out)) (i := 0) (u := .slice (some ⟨ga, 0, none⟩) dl cd) (by simp [*])
                  have k4 := cells_far (hfar (w.heap.size + 1) (by simp) (.inl HN1.out)) (i := 1) (u := .slice Au ul cu) (by simp [*])
                  clear hfar hend he
                  simp only []))
      go_wp2
      go_end0
      exact HE.out

end Go.Proofs.YtjlndgkahmcfdaaDoor
