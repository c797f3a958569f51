/- The walk of Crash: the surviving sectors are hardened, the files become their durable parts. Conditions: the machine is up; the pending sectors are right; sizes. -/
import Derived.Test.YtjlndgkahmcfdaaDoorIt
namespace Go.Proofs.YtjlndgkahmcfdaaDoor
set_option maxRecDepth 8000
open Go.RowKit Go.ChangeMaps Go.Maps Go.MapKept

/-- The durable parts, behind the survivors among l, the first of which has the index i. -/
def crashD (data : Int → List UInt8) (keep : List Int) : (Int → List UInt8) → List (Int × Int) → Nat → (Int → List UInt8)
  | dur, [], _ => dur
  | dur, p :: l, i => crashD data keep (if survB keep i = true then hard data dur p.1 p.2.toNat else dur) l (i + 1)
theorem crashD_snoc (data : Int → List UInt8) (keep : List Int) (l : List (Int × Int)) (p : Int × Int) : ∀ (dur : Int → List UInt8) (i : Nat),
    crashD data keep dur (l ++ [p]) i = if survB keep (i + l.length) = true then hard data (crashD data keep dur l i) p.1 p.2.toNat else crashD data keep dur l i := by
  induction l with
  | nil => intro dur i; rfl
  | cons q l ih =>
    intro dur i
    show crashD data keep _ (l ++ [p]) (i + 1) = _
    rw [ih, List.length_cons, show i + 1 + l.length = i + (l.length + 1) from by omega]
    rfl
/-- The pending sectors are right. -/
def PendOk (data : Int → List UInt8) (l : List (Int × Int)) : Prop := ∀ p ∈ l, 0 ≤ p.1 ∧ p.1 < 16 ∧ ∃ y : Nat, p.2 = (y : Int) ∧ 64 * y < (data p.1).length
theorem crashD_len {data : Int → List UInt8} {keep : List Int} {M : Nat} (h1 : ∀ f, (data f).length ≤ M) : ∀ (l : List (Int × Int)) (dur : Int → List UInt8) (i : Nat), PendOk data l → (∀ f, (dur f).length ≤ M) → ∀ f, (crashD data keep dur l i f).length ≤ M
  | [], _, _, _, h => h
  | p :: l, dur, i, hp, h => by
    refine crashD_len h1 l _ (i + 1) (fun q hq => hp q (by simp [hq])) ?_
    intro f
    split
    · obtain ⟨_, _, y, e, hy⟩ := hp p (by simp)
      rw [e]
      by_cases hf : f = p.1
      · rw [hf]
        exact hard_len hy (h1 _) (h _)
      · unfold hard
        rw [upd_other _ hf]
        exact h f
    · exact h f

/-- What stands behind an append onto a file's own row and behind the store into the map, in a round of a range. -/
theorem data_fin2 {w W0 w2 : World} {own : Nat → Option Nat} {b m k r : Nat} {pv kv dv uv : Value} {mark : Int × Int → Prop} {s : Ds} {f : Int} {n1 dl : Nat} {l : List UInt8} {es : Array MapEntry} {clock : Nat} {e : Ending} {seen : Array Nat} {Done Done' : Value → Prop}
    (h : Dk w own b m k pv kv mark s) (hfe : FilesE w own m es clock s.data s.dur) (h0 : 0 ≤ f) (h1 : f < 16) (hdv : Row w own (daR f) 5 1 dv dl (bv (s.data f))) (huv : Row w own (duR f) 5 1 uv (s.dur f).length (bv (s.dur f)))
    (t0 : Tr (fun _ => False) w own own W0) (he : NewRow W0 dv n1 l e w2) (hit : ItAt w m r es clock seen Done) (hr : own r = none) (hrl : r < w.heap.size) (hin : ∃ x ∈ es.toList, x.key = .int .i64 f) (hdk : Done' (.int .i64 f)) (hdd : ∀ q, Done q → Done' q) :
    ∃ A' c', e = .returned (.slice A' n1 c') ∧ ∃ w3, (Instr.mapUpdate 79 (.map (some m)) (.int .i64 f) (.agg #[.slice A' n1 c', uv])).run Tryd.prog w2 = .ok () w3 ∧
      (∀ g, g < W0.heap.size → own g = none ∨ own g = some 0 → w2.heap[g]? = W0.heap[g]? ∧ w3.heap[g]? = W0.heap[g]?) ∧ (∃ own', Dk w3 own' b m k pv kv mark { s with data := upd s.data f l } ∧ Tr (fun _ => True) w own own' w3) ∧
      It w3 m r Done' ∧ w3.rangeLeft m r = (leftOf es seen).size := by
  obtain ⟨v', rfl, hown, hgr, hb⟩ := he
  obtain ⟨A', c', rfl, _, _⟩ := own_slice hown
  have hdv0 := hdv.keep t0 (fun h => h)
  obtain ⟨own', hrow, t1⟩ := Row.after (R := fun r => r = daR f) hdv0 t0.inb rfl hgr hown hb
  have t2 : Tr (fun r => r = daR f) w own own' w2 := (t0.weak (fun _ h => h.elim)).trans t1
  have hlen : l.length = n1 := by have := hown.1; rw [bv_len] at this; omega
  have hne : duR f ≠ daR f := by unfold daR duR; omega
  have huv2 := huv.keep t2 (fun h => hne h)
  obtain ⟨es', clock', hrun, hfe', hborn, hwho⟩ := hfe.put h.om h0 h1 t2 (fun r h => .inl h) (by rw [hlen]; exact hrow) huv2
  have hd2 : daR f ≥ 5 := by unfold daR; omega
  have hfar : ∀ g, g < W0.heap.size → own g = none ∨ own g = some 0 → w2.heap[g]? = W0.heap[g]? ∧ (setBlock w2 m (.map es' clock')).heap[g]? = W0.heap[g]? := fun g hg hr => by
    have hg2 : w2.heap[g]? = W0.heap[g]? := t1.block g hg (fun r e hr' => by
      rcases hr with hr | hr
      · rw [hr] at e; cases e
      · rw [hr] at e; cases e; omega)
    refine ⟨hg2, (setBlock_other (fun e => ?_) _).trans hg2⟩
    rw [e, h.om] at hr
    rcases hr with hr | hr <;> cases hr
  have hit2 := It.stored (w' := setBlock w2 m (.map es' clock')) (Done' := Done') hit ((hfar r (Nat.lt_of_lt_of_le hrl t0.size) (.inl hr)).2.trans (t0.block r hrl (fun _ _ h => h))) hfe'.map.blk (hborn hin) hwho hdk hdd
  refine ⟨A', c', rfl, _, hrun, hfar, ⟨own', ?_, ?_⟩, ⟨es', clock', seen, hit2.1⟩, (It.left hit2.1).trans hit2.2⟩
  · have t3 : Tr (fun r => r = 1 ∨ r = daR f) w own own' (setBlock w2 m (.map es' clock')) := (t2.weak (fun _ h => .inr h)).setMap (r := 1) h.om (.inl rfl) _
    have e1 : upd s.dur f (s.dur f) = s.dur := upd_self _ _
    have hfe2 : FilesE (setBlock w2 m (.map es' clock')) own' m es' clock' (upd s.data f l) s.dur := by
      have := hfe'
      rw [e1] at this
      exact this
    exact ⟨t3.blkR h.blk h.ob (by omega), t3.role h.blk.lt h.ob, t3.role hfe.map.lt h.om, t3.role (by obtain ⟨es, c, hf⟩ := h.marks; exact hf.map.lt) h.ok, ⟨_, _, hfe2⟩, h.marks.keep h.ok t3 (by omega), h.pend.keep t3 (by omega), h.keep.keep t3 (by omega), t3.inb⟩
  · exact (t2.weak (fun _ _ => trivial)).setMap (r := 1) h.om trivial _

section
variable {w w' : World} {own : Nat → Option Nat} {b m k : Nat} {pv kv : Value} {mark : Int × Int → Prop} {s : Ds}
theorem Row.kept0 {r : Nat} {e : TypeId} {size : Nat} {v : Value} {n : Nat} {xs : List Value} (h : Row w own r e size v n xs) (hk : ∀ g r, own g = some r → w'.heap[g]? = w.heap[g]?) : Row w' own r e size v n xs := by
  refine ⟨⟨h.1.1, ?_⟩, h.2⟩
  rcases h.1.2 with hn | ⟨g, cap, cur, rfl, hb, hgg, rest⟩
  · exact .inl hn
  · exact .inr ⟨g, cap, cur, rfl, hb, (hk g r (h.2 g rfl)).trans hgg, rest⟩
/-- A block that is none of the disk's has turned. -/
theorem Dk.kept0 (h : Dk w own b m k pv kv mark s) {r : Nat} (hg : w.grownBy w' (some r)) (hr : own r = none) : Dk w' own b m k pv kv mark s := by
  have hk : ∀ g ρ, own g = some ρ → w'.heap[g]? = w.heap[g]? := fun g ρ e => hg.block g (h.inb g ρ e) (fun e1 => by cases e1; rw [hr] at e; cases e)
  obtain ⟨es, clock, hf⟩ := h.files
  obtain ⟨es2, clock2, hm⟩ := h.marks
  refine ⟨(hk b 0 h.ob).trans h.blk, h.ob, h.om, h.ok, ⟨es, clock, hf.map.kept (hk m 1 h.om), fun e he => ?_, hf.out⟩, ⟨es2, clock2, hm.map.kept (hk k 2 h.ok), hm.ent, hm.iff_⟩, h.pend.kept0 hk, h.keep.kept0 hk, fun g ρ e => Nat.lt_of_lt_of_le (h.inb g ρ e) hg.size⟩
  obtain ⟨f, f0, f1, e1, dv, uv, e2, r1, r2⟩ := hf.ent e he
  exact ⟨f, f0, f1, e1, dv, uv, e2, r1.kept0 hk, r2.kept0 hk⟩
theorem own_cut0 {e : TypeId} {size : Nat} {A : Option Addr} {n c : Nat} {xs : List Value} (h : w.ownsRow 0 e size (.slice A n c) n xs) : w.ownsRow 0 e size (.slice A 0 c) 0 [] := by
  rcases h.2 with ⟨hv, _⟩ | ⟨g, cap, cur, hv, hb, hg, h1, h2, h3, h4⟩
  · injection hv with hA _ hc
    subst hA
    subst hc
    exact World.ownsRow_nil _ _ _ _
  · injection hv with hA _ hc
    subst hA
    subst hc
    exact ⟨by simp, .inr ⟨g, c, cur, rfl, hb, hg, Nat.zero_le _, h2, h3, by simp⟩⟩
end

/-- How Crash ends. -/
def CrashEnd (w : World) (own : Nat → Option Nat) (b m k : Nat) (s : Ds) (e : Ending) (w' : World) : Prop :=
  e = .returned (.tuple #[]) ∧ ∃ own' pv kv, Dk w' own' b m k pv kv (fun _ => False) s ∧ Tr (fun _ => True) w own own' w'
def crashed (s : Ds) (keep : List Int) : Ds := { s with data := crashD s.data keep s.dur s.pend 0, dur := crashD s.data keep s.dur s.pend 0, pend := [], left := 0, keep := [], down := true }

set_option maxRecDepth 4000 in
set_option maxHeartbeats 2000000 in
theorem crash_any (w : World) (own : Nat → Option Nat) (b m k : Nat) (pv kv : Value) (mark : Int × Int → Prop) (s : Ds) (A : Option Addr) (nk ck : Nat) (l : List Int) (h : Dk w own b m k pv kv mark s) (hup : s.down = false) (hn : s.pend.length ≤ 40000000)
    (hr : Reads w w.heap.size 1 A nk (inV l)) (hA : 0 < nk → ∀ ad, A = some ad → own ad.block = none ∨ own ad.block = some 4) (hnk : nk ≤ 1000000) (hok : PendOk s.data s.pend) (hd : ∀ f, (s.data f).length ≤ 16777216) (hu : ∀ f, (s.dur f).length ≤ 16777216) :
    Calls Tryd.prog 24 #[.pointer (some ⟨b, 0, none⟩), .slice A nk ck] w (CrashEnd w own b m k (crashed s l)) := by
  obtain ⟨i0, hi, hz0, hz1, hz2⟩ := info_parts infoU8
  obtain ⟨Ap, cp, rfl, _, _⟩ := own_slice h.pend.1
  have c6 := h.blk.cell 6
  rw [hup] at c6
  have c1 := h.blk.cell 1
  have HD := Lib.hid h
  have HR := Lib.hid hr
  have HA := Lib.hid hA
  have HOK := Lib.hid hok
  have HDL := Lib.hid hd
  have HUL := Lib.hid hu
  have HRC : Hid (∀ (R : Nat → Prop) (own2 : Nat → Option Nat) (w2 : World), Tr R w own own2 w2 → ¬ R 4 → Reads w2 w.heap.size 1 A nk (inV l)) := fun R own2 w2 t hR4 => by
    refine ⟨hr.1, fun hp => ?_⟩
    obtain ⟨ad, e1, e2, e3⟩ := hr.2 hp
    refine ⟨ad, e1, e2, fun j u hj => t.cell (e3 j u hj) (fun r e => ?_)⟩
    rw [block_of_add] at e
    rcases hA hp ad e1 with h5 | h5
    · rw [h5] at e; cases e
    · rw [h5] at e; cases e; exact hR4
  clear h hup hr hA hok hd hu
  generalize hpl : s.pend.length = np at *
  have HPL := Lib.hid hpl
  clear hpl
  go_enter Tryd.func24, Tryd.ntmps24
  go_wp2_with fail
  go_loopw [4, 5, 17] (fun _ _ ti wr => ∃ (j : Nat) (own2 : Nat → Option Nat), ti = .int .i64 (j : Int) ∧ j ≤ np ∧ Hid (Dk wr own2 b m k (.slice Ap np cp) kv mark { s with dur := crashD s.data l s.dur (s.pend.take j) 0 }) ∧ Hid (Tr (fun r => r = 1 ∨ r ≥ 5) w own own2 wr)) (fun _ _ ti _ => np - (RowKit.intOf ti).toNat)
  case atStart => exact ⟨0, own, rfl, Nat.zero_le _, HD.out, HD.out.refl _⟩
  case round =>
    obtain ⟨j, own2, rfl, hj, HDJ, HTJ⟩ := hrel
    clear c6 c1
    by_cases hlt : j < np
    · obtain ⟨p, hp⟩ : ∃ p, s.pend[j]? = some p := ⟨_, List.getElem?_eq_getElem (by rw [HPL.out]; exact hlt)⟩
      have hrow := HDJ.out.pend
      simp only [HPL.out] at hrow
      obtain ⟨g, c', hv, _, _⟩ := own_some hrow.1 rfl (by omega)
      injection hv with hA2 _ hC
      subst hA2
      subst hC
      obtain ⟨q1, q2⟩ := hrow.secCell hp
      obtain ⟨f0, f1, y, e2, hy⟩ := HOK.out p (List.mem_of_getElem? hp)
      have HST := Lib.hid (crashD_snoc s.data l (s.pend.take j) p s.dur 0)
      have hlen : (s.pend.take j).length = j := by rw [List.length_take, HPL.out]; omega
      rw [hlen, ← take_snoc_ hp, Nat.zero_add] at HST
      obtain ⟨f, p2⟩ := p
      simp only at f0 f1 e2 hy q1 q2 HST
      subst e2
      have HY := Lib.hid hy
      have HQ : Hid (∀ W : World, Tr (fun _ => False) wr own2 own2 W → Calls Tryd.prog 62 #[.slice A nk ck, .int .i64 (j : Int)] W fun e w' => e = .returned (.bool (survB l j)) ∧ W = w') := fun W t =>
        survives_any W w.heap.size A nk ck j l (HRC.out (fun r => r = 1 ∨ r ≥ 5) own2 W (HTJ.out.trans (t.weak (fun _ h => h.elim))) (by omega)) (by omega) (by omega)
      have hj1 : (0 : Int) ≤ (j : Int) := by omega
      have hj2 : (j : Int) < (np : Int) := by omega
      clear hp hrow hlen hy
      cases hsv : survB l j with
      | true =>
        rw [hsv] at HQ HST
        clear hsv
        go_wp2_with fail
        refine (HQ.out _ ((HDJ.out.refl _).alloc _)).mono ?_
        rintro e w' ⟨rfl, rfl⟩
        go_wp2_with fail
        have HLU := Lib.hid (crashD_len HDL.out (s.pend.take j) s.dur 0 (keep := l) (fun q hq => HOK.out q (List.mem_of_mem_take hq)) HUL.out f)
        refine (harden_any _ own2 b m k (.slice (some ⟨g, 0, none⟩) np cp) kv mark { s with dur := crashD s.data l s.dur (s.pend.take j) 0 } f y (HDJ.out.far ((HDJ.out.refl _).alloc _)) f0 f1 HY.out (HDL.out f) HLU.out).mono ?_
        rintro e w4 ⟨rfl, own4, hD4, t4⟩
        have HD4 := Lib.hid (show Dk w4 own4 b m k (.slice (some ⟨g, 0, none⟩) np cp) kv mark { s with dur := crashD s.data l s.dur (s.pend.take (j + 1)) 0 } from by
          rw [HST.out]
          exact hD4)
        have HT4 := Lib.hid ((HTJ.out.alloc (.cells #[.int .i64 f, .int .i64 y] 93)).trans (t4.weak (fun r h => show r = 1 ∨ r ≥ 5 by unfold duR at h; omega)))
        clear hD4 t4 q1 q2 HDJ HTJ HQ HLU
        go_wp2_with fail
        go_roundw
        case rel => exact ⟨j + 1, own4, by go_num, by omega, HD4, HT4⟩
        case measure => simp [RowKit.intOf]; omega
      | false =>
        rw [hsv] at HQ HST
        clear hsv
        have HD4 := Lib.hid (show Dk (wr.alloc (.cells #[.int .i64 f, .int .i64 y] 93)) own2 b m k (.slice (some ⟨g, 0, none⟩) np cp) kv mark { s with dur := crashD s.data l s.dur (s.pend.take (j + 1)) 0 } from by
          rw [HST.out]
          exact HDJ.out.far ((HDJ.out.refl _).alloc _))
        have HT4 := Lib.hid (HTJ.out.alloc (.cells #[.int .i64 f, .int .i64 y] 93))
        go_wp2_with fail
        refine (HQ.out _ ((HDJ.out.refl _).alloc _)).mono ?_
        rintro e w' ⟨rfl, rfl⟩
        clear HDJ HTJ HQ q1 q2
        go_wp2_with fail
        go_roundw
        case rel => exact ⟨j + 1, own2, by go_num, by omega, HD4, HT4⟩
        case measure => simp [RowKit.intOf]; omega
    · obtain rfl : j = np := by omega
      have htk : s.pend.take j = s.pend := List.take_of_length_le (by rw [HPL.out]; exact Nat.le_refl _)
      have hDD := HDJ.out
      rw [htk] at hDD
      have HLU := Lib.hid (crashD_len HDL.out s.pend s.dur 0 (keep := l) HOK.out HUL.out)
      have HG := Lib.hid (show crashed s l = { s with data := crashD s.data l s.dur s.pend 0, dur := crashD s.data l s.dur s.pend 0, pend := [], left := 0, keep := [], down := true } from rfl)
      generalize crashD s.data l s.dur s.pend 0 = D at *
      have c0 := hDD.blk.cell 0
      obtain ⟨es, clock, hfe⟩ := hDD.files
      have hrg := run_range_map (P := Tryd.prog) wr 79 _ _ m es clock Tryd.underlying79 hfe.map.blk
      have HIT := Lib.hid (It.start hfe.map (fun q => ∀ f, q = .int .i64 f → s.data f = D f))
      have HD1 := Lib.hid (hDD.far ((hDD.refl (fun _ => False)).alloc (.mapIter (some m) clock #[] clock)))
      have HT1 := Lib.hid ((HTJ.out.weak (fun _ _ => trivial : ∀ r, (r = 1 ∨ r ≥ 5) → True)).alloc (.mapIter (some m) clock #[] clock))
      have HR0 := Lib.hid (show own2 wr.heap.size = none ∧ wr.heap.size < (wr.alloc (.mapIter (some m) clock #[] clock)).heap.size from ⟨own_none hDD.inb (Nat.le_refl _), by simp⟩)
      have hrw : w.heap.size ≤ wr.heap.size := HTJ.out.size
      clear hDD hfe HDJ HTJ htk HRC HR HA HD
      go_wp2_with (at_range; refine wpList_range_run rfl _ _ rfl _ rfl _ _ hrg ?_)
      clear hrg
      obtain ⟨wi, rfl⟩ : ∃ x, x = wr := ⟨_, rfl⟩
      go_loopw [6, 7] (fun _ _ w2 => ∃ (own3 : Nat → Option Nat) (dk : Int → List UInt8), Hid (Dk w2 own3 b m k (.slice Ap j cp) kv mark { s with data := dk, dur := D }) ∧ Hid (Tr (fun _ => True) w own own3 w2) ∧ Hid (It w2 m wi.heap.size (fun q => ∀ f, q = .int .i64 f → dk f = D f)) ∧ Hid (own3 wi.heap.size = none ∧ wi.heap.size < w2.heap.size) ∧ Hid (∀ f, (dk f).length ≤ 16777216)) (fun _ _ w2 => w2.rangeLeft m wi.heap.size)
      case atStart => exact ⟨own2, s.data, HD1.out, HT1.out, HIT.out, HR0.out, HDL.out⟩
      case round =>
        obtain ⟨own3, dk, HDK, HTK, HI, HRN, HDKL⟩ := hrel
        clear HD1 HT1 HIT HR0 c0
        obtain ⟨es, clock, seen, hit⟩ := HI.out
        obtain ⟨es2, clock2, hfe⟩ := HDK.out.files
        have hee : es2 = es ∧ clock2 = clock := by
          have h1 := hfe.map.blk
          rw [hit.1] at h1
          injection h1 with h1
          injection h1 with h1 h2
          exact ⟨h1.symm, h2.symm⟩
        obtain ⟨rfl, rfl⟩ := hee
        rcases It.next 0 hit hfe.map with ⟨hrun, hall⟩ | ⟨e, he, w5, hrun, hg5, hs5, hen, hlt5, hit5⟩
        · have hdkD : dk = D := by
            funext f
            by_cases hx : ∃ e ∈ es2.toList, e.key = .int .i64 f
            · obtain ⟨e, he, hk⟩ := hx
              exact hall e he f hk
            · obtain ⟨e1, e2⟩ := hfe.out f (fun e he hk => hx ⟨e, he, hk⟩)
              exact e1.trans e2.symm
          subst hdkD
          have HRUN := Lib.hid hrun
          have hD1 := HDK.out
          have g1 := hD1.blk.cell 1
          have g1f := hD1.blk.frozen 1
          have hD2 := hD1.setPend (l := []) (v := .slice none 0 0) (Row.nil _ _ _ _ _)
          have g2 := hD2.blk.cell 2
          obtain ⟨es3, clock3, hme⟩ := hD2.marks
          obtain ⟨hcl, hme3⟩ := hme.clear 0
          obtain ⟨hD3, t3⟩ := hD2.setMarks hme3
          have HT3 := Lib.hid (((HTK.out.trans ((hD1.set0 1 (.slice none 0 0)).weak (fun _ _ => trivial))).trans (t3.weak (fun _ _ => trivial))))
          have HCL := Lib.hid hcl
          have HA := Lib.hid (arm_any _ own3 b m k (.slice none 0 0) kv (fun _ => False) _ 0 none 0 0 [] hD3 Reads.none_ rfl (fun _ ad e => by cases e) (by omega))
          generalize setBlock (wr.setCell ⟨b, 1, none⟩ (.slice none 0 0)) k (.map #[] clock3) = w6 at HCL hD3 HT3 HA
          clear hrun hall hD1 hD2 hme hcl hme3 hD3 t3 hit hfe
          go_wp2_with (first | (at_next; refine wpList_next_run rfl _ rfl _ rfl _ _ HRUN.out ?_) | (refine wpList_clear_at rfl (.tmp 59) _ rfl _ rfl w6 HCL.out ?_))
          refine HA.out.mono ?_
          rintro e w7 ⟨rfl, own7, kv7, hD7, t7⟩
          have c6 := hD7.blk.cell 6
          have f6 := hD7.blk.frozen 6
          have HE := Lib.hid (show CrashEnd w own b m k (crashed s l) (.returned (.tuple #[])) (w7.setCell ⟨b, 6, none⟩ (.bool true)) from by
            rw [HG.out]
            exact ⟨rfl, own7, _, kv7, hD7.setDown true, (HT3.out.trans (t7.weak (fun _ _ => trivial))).trans ((hD7.set0 6 (.bool true)).weak (fun _ _ => trivial))⟩)
          clear hD7 t7 HA HT3 HG HCL HDK HTK HI
          go_wp2_with fail
          go_end0
          exact HE.out
        · obtain ⟨f, f0, f1, hk, dv, uv, hval, hdv, huv⟩ := hfe.ent e he
          obtain ⟨Ad, cd, rfl, hcd1, _⟩ := own_slice hdv.1
          obtain ⟨Au, cu, rfl, hcu1, _⟩ := own_slice huv.1
          rw [hk, hval] at hrun hen
          have HRUN := Lib.hid hrun
          have HEN := Lib.hid hen
          clear hrun hen
          go_wp2_with (first | (at_next; refine wpList_next_run rfl _ rfl _ rfl _ _ HRUN.out ?_) | (refine wpList_entry_run rfl (.tmp 33) rfl _ rfl _ _ HEN.out ?_))
          have hD5 := HDK.out.kept0 hg5 HRN.out.1
          have c0 := hD5.blk.cell 0
          have HT5 := Lib.hid (HTK.out.grown hg5 (fun g e => by cases e; exact .inl hrw))
          have hfe5 : FilesE w5 own3 m es2 clock2 dk D := ⟨hfe.map.kept (hit5.1.trans hfe.map.blk.symm), fun e he => by
            obtain ⟨f, f0, f1, e1, dv, uv, e2, r1, r2⟩ := hfe.ent e he
            have hk5 : ∀ g ρ, own3 g = some ρ → w5.heap[g]? = wr.heap[g]? := fun g ρ e => hg5.block g (HDK.out.inb g ρ e) (fun e1 => by cases e1; rw [HRN.out.1] at e; cases e)
            exact ⟨f, f0, f1, e1, dv, uv, e2, r1.kept0 hk5, r2.kept0 hk5⟩, hfe.out⟩
          have hk5 : ∀ g ρ, own3 g = some ρ → w5.heap[g]? = wr.heap[g]? := fun g ρ e => hg5.block g (HDK.out.inb g ρ e) (fun e1 => by cases e1; rw [HRN.out.1] at e; cases e)
          have hdv5 := hdv.kept0 hk5
          have huv5 := huv.kept0 hk5
          have t0 : Tr (fun _ => False) w5 own3 own3 ((w5.alloc (.cells #[.slice Ad (dk f).length cd, .slice Au (D f).length cu] 97)).drew) := ((hD5.refl _).alloc _).drew
          have HOWN := Lib.hid (own_cut0 (hdv5.keep t0 (fun h => h)).1)
          have HRD := Lib.hid (Reads.of_own (huv5.keep t0 (fun h => h)).1)
          have z0 : ((w5.alloc (.cells #[.slice Ad (dk f).length cd, .slice Au (D f).length cu] 97)).drew).cell? ⟨b, 0, none⟩ = some (.map (some m)) := t0.cell (a := ⟨b, 0, none⟩) c0 (fun _ _ h => h)
          have z1 : ((w5.alloc (.cells #[.slice Ad (dk f).length cd, .slice Au (D f).length cu] 97)).drew).cell? ⟨wr.heap.size, 0, none⟩ = some (.slice Ad (dk f).length cd) := by rw [← hs5]; exact cell_of_row _ _ 0 _ _ (0, 0) (heap_alloc_new w5 _)
          have z2 : ((w5.alloc (.cells #[.slice Ad (dk f).length cd, .slice Au (D f).length cu] 97)).drew).cell? ⟨wr.heap.size, 1, none⟩ = some (.slice Au (D f).length cu) := by rw [← hs5]; exact cell_of_row _ _ 1 _ _ (0, 0) (heap_alloc_new w5 _)
          have HFIN : Hid (∀ (v' : Value) (w4 : World), w4.ownsRow 0 5 1 v' (0 + (D f).length) ([] ++ bv (D f)) → ((w5.alloc (.cells #[.slice Ad (dk f).length cd, .slice Au (D f).length cu] 97)).drew).grownBy w4 (Value.slice Ad 0 cd).ownBlock →
              (v'.ownBlock = (Value.slice Ad 0 cd).ownBlock ∨ v'.ownBlock = some ((w5.alloc (.cells #[.slice Ad (dk f).length cd, .slice Au (D f).length cu] 97)).drew).heap.size) → _) := fun v' w4 q1 q2 q3 =>
            data_fin2 (Done' := fun q => ∀ f', q = .int .i64 f' → upd dk f (D f) f' = D f') hD5 hfe5 f0 f1 hdv5 huv5 t0 (e := .returned v') (l := D f) (n1 := (D f).length) ⟨v', rfl, by simpa using q1, (by cases Ad <;> exact q2), (by cases Ad <;> exact q3.imp id (fun e => ⟨_, Nat.le_refl _, e⟩))⟩ hit5 HRN.out.1 (by rw [hs5]; exact HRN.out.2) ⟨e, by exact he, hk⟩
              (fun f' e1 => by injection e1 with _ e1; subst e1; exact upd_same _ _ _)
              (fun q hq f' e1 => by
                by_cases hff : f' = f
                · subst hff; exact upd_same _ _ _
                · rw [upd_other _ hff]
                  rcases hq with hq | hq
                  · rw [hk, e1] at hq; injection hq with _ hq; exact absurd hq hff
                  · exact hq f' e1)
          have hlen1 := HDKL.out f
          have hlen2 := HLU.out f
          have HB := Lib.hid (show own3 b = some 0 ∧ own3 wi.heap.size = none ∧ own3 wr.heap.size = none from ⟨hD5.ob, HRN.out.1, own_none HDK.out.inb (Nat.le_refl _)⟩)
          have hbw := hD5.blk.lt
          have HLT := Lib.hid hlt5
          have HLE := Lib.hid (It.left hit)
          have HRL := Lib.hid (show wi.heap.size < w5.heap.size by rw [hs5]; exact HRN.out.2)
          clear hit5 hit hk5 hdv5 huv5 t0 hfe5 hfe hdv huv hD5 hg5 hlt5 he
          go_region_held3 (fun w' => w'.cell? ⟨b, 0, none⟩ = some (.map (some m)) ∧ w'.cell? ⟨wr.heap.size, 0, none⟩ = some (.slice Ad (dk f).length cd) ∧ w'.cell? ⟨wr.heap.size, 1, none⟩ = some (.slice Au (D f).length cu))
            (first | exact ⟨z0, z1, z2⟩ | exact ⟨k1.1, k3.1, k4.1⟩ | exact ⟨k1.2, k3.2, k4.2⟩)
            (first | (refine step_append_any _ rfl (.tmp 46) (.tmp 48) 58 rfl 0 5 i0 _ 1 1 Tryd.underlying58 hi hz0 hz1 hz2 rfl (by decide) (.slice Ad 0 cd) 0 [] rfl HOWN.out _ Au (D f).length cu (bv (D f)) rfl HRD.out (bv_one _) (by unfold maxLen; omega) (by omega) (Nat.zero_le _) ?_; intro v' w4 q1 q2 q3; obtain ⟨A', c', hv', w3, hup, hfar, ⟨own4, hdk4, htr4⟩, hit4, hleft⟩ := HFIN.out v' w4 q1 q2 q3; injection hv' with hv'; subst hv'; have k1 := cells_far (hfar b (by simp; omega) (.inr HB.out.1)) (i := 0) (u := .map (some m)) z0; have k3 := cells_far (hfar wr.heap.size (by simp [hs5]) (.inl HB.out.2.2)) (i := 0) (u := .slice Ad (dk f).length cd) z1; have k4 := cells_far (hfar wr.heap.size (by simp [hs5]) (.inl HB.out.2.2)) (i := 1) (u := .slice Au (D f).length cu) z2; have HDK4 := Lib.hid hdk4; have HTR4 := Lib.hid htr4; have HIT4 := Lib.hid hit4; have HLF := Lib.hid hleft; clear hfar hdk4 htr4 hit4 hleft q1 q2 q3))
          go_wp2_with fail
          go_roundw
          case rel => exact ⟨own4, upd dk f (D f), HDK4, HT5.out.trans HTR4.out, HIT4, ⟨(HTR4.out.kept _ HRL.out).trans HB.out.2.1, Nat.lt_of_lt_of_le HRL.out HTR4.out.size⟩, fun f' => by
            by_cases hff : f' = f
            · subst hff; rw [upd_same]; exact HLU.out _
            · rw [upd_other _ hff]; exact HDKL.out _⟩
          case measure => rw [HLF.out, HLE.out]; exact HLT.out

end Go.Proofs.YtjlndgkahmcfdaaDoor
