/- What the law JournalStays says of the states, plainly. Conditions: no crash is scheduled; records of at most 200 bytes. -/
import Derived.Test.YtjlndgkahmcfdaaDoorJv
import Derived.StillTailTactics
namespace Go.Proofs.YtjlndgkahmcfdaaDoor

/-- Sync of a journal. -/
def jsyncP (S : Ds) (f : Int) (j : Js) : Ds × Js × Int :=
  if j.broken = true then (S, j, 7) else ((syncP S f).1, { j with broken := (syncP S f).2 != 0 }, (syncP S f).2)

/-- The machine is up, no crash is scheduled; the file has at most 245 bytes for each of K records; it is the list of a journal that hasn't failed. -/
structure Inv (S : Ds) (j : Option Js) (K : Nat) : Prop where
  left : S.left = 0
  down : S.down = false
  size : (S.data 0).length ≤ 245 * K
  list : ∀ js, j = some js → (formsP js.list).length ≤ 245 * K ∧ (∀ t ∈ js.list, t.length ≤ 20000) ∧ (js.broken = false → S.data 0 = formsP js.list)

theorem strike_up {S : Ds} (h : S.left = 0) : strikeP S = (S, false) := by unfold strikeP; rw [if_pos h]
theorem write_up {S : Ds} (hl : S.left = 0) (hd : S.down = false) {f : Int} (hf : isF f = true) {a : Nat} {l : List UInt8} (ha : a + l.length ≤ 16777216) : writeP S f (a : Int) l = (stored S f a l, 0) := by
  have hc : chk f (a : Int) l.length = 0 := by
    unfold chk
    rw [if_neg (fun h => by rcases h with h | h <;> first | (rw [hf] at h; cases h; done) | omega), if_neg (by omega)]
  have hw : writeS S f (a : Int) l = stored S f a l := by unfold writeS; rw [if_pos hc, Int.toNat_natCast]
  have hst : strikeP (stored S f a l) = (stored S f a l, false) := strike_up (by unfold stored; split <;> exact hl)
  unfold writeP
  rw [if_neg (by rw [hd]; decide), hw, hst, if_neg (by simp), hc]
theorem sync_up {S : Ds} (hl : S.left = 0) (hd : S.down = false) {f : Int} (hf : isF f = true) : syncP S f = if 0 < S.lost then ({ S with lost := S.lost - 1 }, 9) else (settled S f, 0) := by
  unfold syncP
  rw [if_neg (by rw [hd]; decide), strike_up hl, if_neg (by simp), if_neg (by rw [hf]; decide)]
theorem putB_end (a b : List UInt8) : putB a a.length b = a ++ b := by
  unfold putB extB
  rw [show a.length + b.length - a.length = b.length from by omega]
  rw [List.take_left' rfl, List.drop_eq_nil_of_le (by simp), List.append_nil]
theorem stored_end {S : Ds} {f : Int} {l b : List UInt8} (h : S.data f = l) : (stored S f l.length b).data f = l ++ b ∧ (stored S f l.length b).left = S.left ∧ (stored S f l.length b).down = S.down ∧ (stored S f l.length b).lost = S.lost := by
  unfold stored
  split
  · rename_i h0
    rw [List.eq_nil_of_length_eq_zero h0, List.append_nil]
    exact ⟨h, rfl, rfl, rfl⟩
  · refine ⟨?_, rfl, rfl, rfl⟩
    show upd S.data f (putB (S.data f) l.length b) f = _
    rw [upd_same, h, putB_end]

theorem Inv.app {S : Ds} {js : Js} {K : Nat} (h : Inv S (some js) K) (hK : K ≤ 100) {t : List UInt8} (ht : t.length ≤ 200) :
    (js.broken = true ∧ appP S 0 js t = (S, js, 7)) ∨ (js.broken = false ∧ ∃ S', appP S 0 js t = (S', ⟨js.list ++ [t], false⟩, 0) ∧ Inv S' (some ⟨js.list ++ [t], false⟩) (K + 1)) := by
  cases hb : js.broken with
  | true =>
    refine .inl ⟨rfl, ?_⟩
    unfold appP
    rw [if_pos hb]
  | false =>
    refine .inr ⟨rfl, ?_⟩
    obtain ⟨h1, h2, h3⟩ := h.list js rfl
    have hd := h3 hb
    have hfl := formP_len (t := t) (by omega)
    have hw := write_up h.left h.down (f := 0) (by decide) (a := (formsP js.list).length) (l := formP t) (by omega)
    obtain ⟨s1, s2, s3, s4⟩ := stored_end (f := 0) (b := formP t) hd
    refine ⟨stored S 0 (formsP js.list).length (formP t), ?_, ?_⟩
    · unfold appP
      rw [if_neg (by rw [hb]; decide), if_neg (by omega), if_neg (by omega), hw]
      simp only [hb]
      rw [if_neg (by decide)]
    · refine ⟨s2.trans h.left, s3.trans h.down, ?_, fun q hq => ?_⟩
      · rw [s1, List.length_append]; omega
      · cases hq
        refine ⟨by show (formsP (js.list ++ [t])).length ≤ _; rw [formsP_snoc, List.length_append]; omega, fun q hq => ?_, fun _ => by show _ = formsP (js.list ++ [t]); rw [s1, formsP_snoc]⟩
        rcases List.mem_append.1 hq with hq | hq
        · exact h2 q hq
        · simp at hq; subst hq; omega
theorem Inv.more {S : Ds} {j : Option Js} {K K' : Nat} (h : Inv S j K) (hK : K ≤ K') : Inv S j K' :=
  ⟨h.left, h.down, by have := h.size; omega, fun js e => ⟨by have := (h.list js e).1; omega, (h.list js e).2⟩⟩
theorem Inv.sync {S : Ds} {js : Js} {K : Nat} (h : Inv S (some js) K) : Inv (jsyncP S 0 js).1 (some (jsyncP S 0 js).2.1) K ∧ (jsyncP S 0 js).2.1.list = js.list := by
  obtain ⟨h1, h2, h3⟩ := h.list js rfl
  unfold jsyncP
  by_cases hb : js.broken = true
  · rw [if_pos hb]
    exact ⟨h, rfl⟩
  · have hb' : js.broken = false := by simpa using hb
    rw [if_neg hb, sync_up h.left h.down (by decide)]
    by_cases hl : 0 < S.lost
    · rw [if_pos hl]
      exact ⟨⟨h.left, h.down, h.size, fun q hq => by cases hq; exact ⟨h1, h2, fun e => by cases e⟩⟩, rfl⟩
    · rw [if_neg hl]
      exact ⟨⟨h.left, h.down, h.size, fun q hq => by cases hq; exact ⟨h1, h2, fun _ => h3 hb'⟩⟩, rfl⟩
theorem Inv.lose {S : Ds} {j : Option Js} {K : Nat} (h : Inv S j K) (n : Int) : Inv { S with lost := n } j K := ⟨h.left, h.down, h.size, h.list⟩
/-- Opening at a disk that is up, with no crash scheduled. -/
theorem open_up {S : Ds} (hl : S.left = 0) (hd : S.down = false) (h0 : ¬ 0 < S.lost → S.lost = 0) :
    (0 < S.lost ∧ openP S 0 = ({ S with lost := S.lost - 1 }, 9, [])) ∨ (¬ 0 < S.lost ∧ ∃ S' ts r, openP S 0 = (S', 0, ts) ∧ recs (S.data 0) = (ts, r) ∧ Calm S' ∧ S'.data 0 = formsP ts) := by
  by_cases hz : 0 < S.lost
  · refine .inl ⟨hz, ?_⟩
    unfold openP
    rw [sync_up hl hd (by decide), if_pos hz]
    rw [if_pos (show (9 : Int) ≠ 0 by decide)]
  · refine .inr ⟨hz, ?_⟩
    obtain ⟨ts, r, hr⟩ : ∃ ts r, recs (S.data 0) = (ts, r) := ⟨_, _, rfl⟩
    obtain ⟨S', h1, h2, h3, -⟩ := calm_open (S := S) ⟨hl, h0 hz, hd⟩ (f := 0) (by decide) hr
    exact ⟨S', ts, r, h1, hr, h2, h3⟩
theorem crash_len {S : Ds} (ho : Ok S) (keep : List Int) (f : Int) : ((crashP S keep).data f).length ≤ (S.data f).length := by
  unfold crashP
  split
  · exact Nat.le_refl _
  · show (crashD S.data keep S.dur S.pend 0 f).length ≤ _
    rw [crashD_eq]
    exact (hardL_all _ _ (fun p hp => ho.pend p (survs_sub keep _ _ p hp)) ho.dur f).2.1
theorem Inv.reopen {S : Ds} {j : Option Js} {K : Nat} (h : Inv S j K) (ho : Ok S) (keep : List Int) :
    ∃ S' ts e, openP { crashP S keep with down := false } 0 = (S', e, ts) ∧ Inv S' (if e = 0 then some ⟨ts, false⟩ else none) K := by
  have hc : crashP S keep = crashed S keep := by unfold crashP; rw [if_neg (by rw [h.down]; decide)]
  have hlen := crash_len ho keep 0
  rw [hc] at hlen ⊢
  have hsz := h.size
  have hlo : ¬ 0 < S.lost → S.lost = 0 := fun hn => by have := ho.lost; omega
  rcases open_up (S := { crashed S keep with down := false }) rfl rfl hlo with ⟨-, h1⟩ | ⟨-, S', ts, r, h1, hr, hcm, hd⟩
  · exact ⟨_, _, _, h1, rfl, rfl, by show ((crashed S keep).data 0).length ≤ _; omega, fun js e => by cases e⟩
  · refine ⟨S', ts, 0, h1, ?_⟩
    obtain ⟨k1, k2, -⟩ := recs_end ((crashed S keep).data 0)
    have hr' : recs ((crashed S keep).data 0) = (ts, r) := hr
    rw [hr'] at k1 k2
    have hle : (formsP ts).length ≤ ((crashed S keep).data 0).length := by
      have := congrArg List.length k1
      rw [List.length_append] at this
      have e : (formsP (ts, r).1).length = (formsP ts).length := rfl
      omega
    rw [if_pos rfl]
    exact ⟨hcm.left, hcm.down, by rw [hd]; omega, fun js e => by cases e; exact ⟨by show (formsP ts).length ≤ _; omega, k2, fun _ => hd⟩⟩

/-- The file is wholly durable. -/
structure Dur (S : Ds) (us : List (List UInt8)) : Prop where
  calm : Calm S
  data : S.data 0 = formsP us
  dur : S.dur 0 = formsP us
  pend : ∀ p ∈ S.pend, p.1 ≠ 0
theorem settled_dur {S : Ds} (hc : Calm S) {us : List (List UInt8)} (hd : S.data 0 = formsP us) : Dur (settled S 0) us :=
  ⟨⟨hc.left, hc.lost, hc.down⟩, hd, by show upd S.dur 0 (S.data 0) 0 = _; rw [upd_same, hd], fun p hp => (mem_keepL.1 hp).2⟩
/-- Sync has returned OK. -/
theorem Inv.sure {S : Ds} {js : Js} {K : Nat} (h : Inv S (some js) K) (h0 : ¬ 0 < S.lost → S.lost = 0) (he : (jsyncP S 0 js).2.2 = 0) : Dur (jsyncP S 0 js).1 js.list ∧ (jsyncP S 0 js).2.1 = ⟨js.list, false⟩ := by
  obtain ⟨h1, h2, h3⟩ := h.list js rfl
  revert he
  unfold jsyncP
  by_cases hb : js.broken = true
  · rw [if_pos hb]
    intro he; cases he
  · have hb' : js.broken = false := by simpa using hb
    rw [if_neg hb, sync_up h.left h.down (by decide)]
    by_cases hl : 0 < S.lost
    · rw [if_pos hl]
      intro he; cases he
    · rw [if_neg hl]
      intro _
      exact ⟨settled_dur ⟨h.left, h0 hl, h.down⟩ (h3 hb'), rfl⟩
/-- A crash, a start, and an opening leave it. -/
theorem Dur.again {S : Ds} {us : List (List UInt8)} (h : Dur S us) (ht : ∀ t ∈ us, t.length ≤ 20000) (keep : List Int) :
    ∃ S', openP { crashP S keep with down := false } 0 = (S', 0, us) ∧ Dur S' us := by
  have hc : crashP S keep = crashed S keep := by unfold crashP; rw [if_neg (by rw [h.calm.down]; decide)]
  rw [hc]
  have hd : (crashed S keep).data 0 = formsP us := by
    show crashD S.data keep S.dur S.pend 0 0 = _
    rw [crashD_eq, hardL_other _ _ (fun p hp => h.pend p (survs_sub keep _ _ p hp)), h.dur]
  have hcm : Calm { crashed S keep with down := false } := ⟨rfl, h.calm.lost, rfl⟩
  refine ⟨settled { crashed S keep with down := false } 0, ?_, settled_dur hcm hd⟩
  have hdd : (settled { crashed S keep with down := false } 0).data 0 = formsP us := hd
  unfold openP
  rw [calm_sync hcm (by decide)]
  simp only [hdd, recs_forms ht]
  rw [if_neg (by decide), if_neg (by omega)]

end Go.Proofs.YtjlndgkahmcfdaaDoor

/- The journal's laws' operations in memory; the walks of few, texts, and Sync. Conditions: what the arguments read as. -/
namespace Go.Proofs.YtjlndgkahmcfdaaDoor
set_option maxRecDepth 8000
open Go.RowKit Go.ChangeMaps

structure Oq where
  d : Int
  s : ByteArray
  n : Int
  keep : List Int
structure Oq.Fits (x : Oq) : Prop where
  d : I64 x.d
  n : I64 x.n
  s : x.s.size ≤ 9223372036854775807
  keep : x.keep.length ≤ 9223372036854775807

/-- The four fields of an operation, and where its list lies. -/
def OqIs (w : World) (B : Nat) (x : Oq) (v0 v1 v2 v3 : Value) : Prop :=
  ∃ A c, v0 = .int .i64 x.d ∧ v1 = .string x.s ∧ v2 = .int .i64 x.n ∧ v3 = .slice A x.keep.length c ∧ Reads w B 1 A x.keep.length (inV x.keep)
/-- A slice of operations: element i lies at i times 4 cells. -/
def OsIs (w : World) (B : Nat) (A : Option Addr) (n : Nat) (xs : List Oq) : Prop :=
  xs.length = n ∧ (0 < n → ∃ ad, A = some ad ∧ ad.block < B ∧ ∀ i (h : i < xs.length), ∃ v0 v1 v2 v3, OqIs w B xs[i] v0 v1 v2 v3 ∧ w.cell? (ad.add (i * 4)) = some v0 ∧ w.cell? (ad.add (i * 4 + 1)) = some v1 ∧ w.cell? (ad.add (i * 4 + 2)) = some v2 ∧ w.cell? (ad.add (i * 4 + 3)) = some v3)
theorem OsIs.below {w w' : World} {B n : Nat} {A : Option Addr} {xs : List Oq} (h : OsIs w B A n xs) (hb : Below B w w') : OsIs w' B A n xs := by
  refine ⟨h.1, fun hp => ?_⟩
  obtain ⟨ad, rfl, hlt, hx⟩ := h.2 hp
  refine ⟨ad, rfl, hlt, fun i hi => ?_⟩
  obtain ⟨v0, v1, v2, v3, ⟨A1, c1, e0, e1, e2, e3, hr⟩, g0, g1, g2, g3⟩ := hx i hi
  have k : ∀ j, w'.cell? (ad.add j) = w.cell? (ad.add j) := fun j => hb.cell (by rw [block_of_add]; exact hlt)
  exact ⟨v0, v1, v2, v3, ⟨A1, c1, e0, e1, e2, e3, hr.below hb⟩, (k _).trans g0, (k _).trans g1, (k _).trans g2, (k _).trans g3⟩
theorem OsIs.at_ {w : World} {B n k : Nat} {A : Option Addr} {xs : List Oq} (h : OsIs w B A n xs) (hk : k < n) : ∃ (ad : Addr) (x : Oq), A = some ad ∧ ad.block < B ∧ xs[k]? = some x ∧ ∃ A1 c1,
    w.cell? (ad.add (k * 4)) = some (.int .i64 x.d) ∧ w.cell? ⟨(ad.add (k * 4)).block, (ad.add (k * 4)).off + 1, none⟩ = some (.string x.s) ∧
    w.cell? ⟨(ad.add (k * 4)).block, (ad.add (k * 4)).off + 2, none⟩ = some (.int .i64 x.n) ∧ w.cell? ⟨(ad.add (k * 4)).block, (ad.add (k * 4)).off + 3, none⟩ = some (.slice A1 x.keep.length c1) ∧ Reads w B 1 A1 x.keep.length (inV x.keep) := by
  obtain ⟨hl, hh⟩ := h
  have hkx : k < xs.length := by rw [hl]; exact hk
  obtain ⟨ad, rfl, hab, hx⟩ := hh (by omega)
  obtain ⟨v0, v1, v2, v3, ⟨A1, c1, rfl, rfl, rfl, rfl, hr1⟩, g0, g1, g2, g3⟩ := hx k hkx
  have e (j : Nat) : (⟨(ad.add (k * 4)).block, (ad.add (k * 4)).off + (j + 1), none⟩ : Addr) = ad.add (k * 4 + (j + 1)) := by
    rw [← add_of_add]
    simp [Addr.add]
  exact ⟨ad, xs[k], rfl, hab, List.getElem?_eq_getElem hkx, A1, c1, g0, by rw [e 0]; exact g1, by rw [e 1]; exact g2, by rw [e 2]; exact g3, hr1⟩

/-! ### few, texts -/
def Oq.okB (x : Oq) : Bool := !(decide (200 < x.s.size) || decide (50 < x.keep.length))
def fewP (xs : List Oq) : Bool := xs.all Oq.okB && decide (xs.length ≤ 25)
def textsP (ts : List (List UInt8)) : Bool := ts.all (fun t => !decide (200 < t.length)) && decide (ts.length ≤ 8)
theorem all_snoc {α : Type} {p : α → Bool} {l : List α} {k : Nat} {x : α} (h : l[k]? = some x) : (l.take (k + 1)).all p = ((l.take k).all p && p x) := by
  rw [take_snoc_ h, List.all_append]
  simp
theorem all_no {α : Type} {p : α → Bool} {l : List α} {k : Nat} {x : α} (h : l[k]? = some x) (hp : p x = false) : l.all p = false := by
  rw [List.all_eq_false]
  exact ⟨x, List.mem_of_getElem? h, by simp [hp]⟩
theorem ret_b {a b : Bool} (h : a = b) : Ending.returned (.bool a) = .returned (.bool b) := by rw [h]

set_option maxHeartbeats 2000000 in
theorem few_any (A : Option Addr) (n c B : Nat) (xs : List Oq) (w : World) (h : OsIs w B A n xs) (hn : n ≤ 9223372036854775807) (hf : ∀ x ∈ xs, x.Fits) :
    Calls Tryd.prog 14 #[.slice A n c] w fun e w' => e = .returned (.bool (fewP xs)) ∧ w = w' := by
  have HW := Lib.hid h
  have HF := Lib.hid hf
  have HL := Lib.hid h.1
  clear h hf
  go_enter Tryd.func14, Tryd.ntmps14
  go_wp2_with fail
  go_loopw [3] (fun i wr => ∃ k : Nat, k ≤ n ∧ i = .int .i64 k ∧ Hid ((xs.take k).all Oq.okB = true) ∧ w = wr) (fun i _ => n - (RowKit.intOf i).toNat)
  case atStart => exact ⟨0, Nat.zero_le _, rfl, rfl, rfl⟩
  case round =>
    obtain ⟨k, hk, rfl, hok, rfl⟩ := hrel
    by_cases hlt : k < n
    · obtain ⟨ad, x, rfl, _, hx, A1, c1, g0, g1, g2, g3, hr⟩ := HW.out.at_ hlt
      have hfx := HF.out x (List.mem_of_getElem? hx)
      have HS := Lib.hid (all_snoc (p := Oq.okB) hx)
      have HN : Hid (Oq.okB x = false → xs.all Oq.okB = false) := all_no hx
      have hs := hfx.s
      have hkp := hfx.keep
      clear hx hfx hr g0 g2
      have hlt' : (k : Int) < (n : Int) := by omega
      have hk0 : 0 ≤ (k : Int) := by omega
      by_cases h1 : 200 < x.s.size
      · have hno : fewP xs = false := by unfold fewP; rw [HN.out (by simp [Oq.okB, h1])]; rfl
        have h1' : (200 : Int) < (x.s.size : Int) := by omega
        have HE := Lib.hid hno
        clear hno HS HN hok
        go_wp2_with fail
        go_ret
        exact ⟨ret_b HE.out.symm, rfl⟩
      · have h1' : ¬ (200 : Int) < (x.s.size : Int) := by omega
        by_cases h2 : 50 < x.keep.length
        · have hno : fewP xs = false := by unfold fewP; rw [HN.out (by simp [Oq.okB, h2])]; rfl
          have h2' : (50 : Int) < (x.keep.length : Int) := by omega
          have HE := Lib.hid hno
          clear hno HS HN hok
          go_wp2_with fail
          go_ret
          exact ⟨ret_b HE.out.symm, rfl⟩
        · have h2' : ¬ (50 : Int) < (x.keep.length : Int) := by omega
          have hyes : (xs.take (k + 1)).all Oq.okB = true := by rw [HS.out, hok.out]; simp [Oq.okB, h1, h2]
          have HE := Lib.hid hyes
          clear hyes HS HN hok
          go_wp2_with fail
          go_roundw
          case rel => exact ⟨k + 1, by omega, by go_num, HE.out, trivial⟩
          case measure => simp [RowKit.intOf]; omega
    · obtain rfl : k = n := by omega
      have hall : xs.all Oq.okB = true := by have := hok.out; rwa [List.take_of_length_le (by rw [HL.out]; exact Nat.le_refl _)] at this
      have hres : fewP xs = decide ((k : Int) ≤ 25) := by unfold fewP; rw [hall, HL.out]; simp; omega
      have HE := Lib.hid hres
      clear hall hres hok
      go_wp2_with fail
      all_goals go_ret
      all_goals exact ⟨ret_b HE.out.symm, rfl⟩

set_option maxHeartbeats 2000000 in
theorem texts_any (A : Option Addr) (n c B : Nat) (ts : List (List UInt8)) (w : World) (h : Reads w B 1 A n (ts.map strV)) (hn : n ≤ 9223372036854775807) (hf : ∀ t ∈ ts, t.length ≤ 9223372036854775807) :
    Calls Tryd.prog 27 #[.slice A n c] w fun e w' => e = .returned (.bool (textsP ts)) ∧ w = w' := by
  have hl : ts.length = n := by have := h.1; rw [List.length_map] at this; omega
  have HW := Lib.hid h
  have HF := Lib.hid hf
  have HL := Lib.hid hl
  clear h hf hl
  go_enter Tryd.func27, Tryd.ntmps27
  go_wp2_with fail
  go_loopw [3] (fun i wr => ∃ k : Nat, k ≤ n ∧ i = .int .i64 k ∧ Hid ((ts.take k).all (fun t => !decide (200 < t.length)) = true) ∧ w = wr) (fun i _ => n - (RowKit.intOf i).toNat)
  case atStart => exact ⟨0, Nat.zero_le _, rfl, rfl, rfl⟩
  case round =>
    obtain ⟨k, hk, rfl, hok, rfl⟩ := hrel
    by_cases hlt : k < n
    · obtain ⟨x, hx⟩ : ∃ x, ts[k]? = some x := ⟨_, List.getElem?_eq_getElem (by rw [HL.out]; exact hlt)⟩
      obtain ⟨ad, rfl, _, hc⟩ := HW.out.2 (by omega)
      have g1 : w.cell? (ad.add k) = some (.string (bStr x)) := hc k (strV x) (by rw [List.getElem?_map, hx]; rfl)
      have hxl := HF.out x (List.mem_of_getElem? hx)
      have HS := Lib.hid (all_snoc (p := fun t : List UInt8 => !decide (200 < t.length)) hx)
      have HN : Hid ((!decide (200 < x.length)) = false → ts.all (fun t => !decide (200 < t.length)) = false) := all_no (p := fun t : List UInt8 => !decide (200 < t.length)) hx
      have q0 := bStr_size x
      have hlt' : (k : Int) < (n : Int) := by omega
      have hk0 : 0 ≤ (k : Int) := by omega
      clear hc hx
      by_cases h1 : 200 < x.length
      · have hno : textsP ts = false := by unfold textsP; rw [HN.out (by simp [h1])]; rfl
        have h1' : (200 : Int) < (x.length : Int) := by omega
        have HE := Lib.hid hno
        clear hno HS HN hok
        go_wp2_with fail
        go_ret
        exact ⟨ret_b HE.out.symm, rfl⟩
      · have h1' : ¬ (200 : Int) < (x.length : Int) := by omega
        have hyes : (ts.take (k + 1)).all (fun t => !decide (200 < t.length)) = true := by rw [HS.out, hok.out]; simp [h1]
        have HE := Lib.hid hyes
        clear hyes HS HN hok
        go_wp2_with fail
        go_roundw
        case rel => exact ⟨k + 1, by omega, by go_num, HE.out, trivial⟩
        case measure => simp [RowKit.intOf]; omega
    · obtain rfl : k = n := by omega
      have hall : ts.all (fun t => !decide (200 < t.length)) = true := by have := hok.out; rwa [List.take_of_length_le (by rw [HL.out]; exact Nat.le_refl _)] at this
      have hres : textsP ts = decide ((k : Int) ≤ 8) := by unfold textsP; rw [hall, HL.out]; simp; omega
      have HE := Lib.hid hres
      clear hall hres hok
      go_wp2_with fail
      all_goals go_ret
      all_goals exact ⟨ret_b HE.out.symm, rfl⟩

theorem few_ok {xs : List Oq} (h : fewP xs = true) : xs.length ≤ 25 ∧ ∀ x ∈ xs, x.s.size ≤ 200 ∧ x.keep.length ≤ 50 := by
  unfold fewP at h
  rw [Bool.and_eq_true] at h
  refine ⟨by simpa using h.2, fun x hx => ?_⟩
  have := List.all_eq_true.1 h.1 x hx
  simp [Oq.okB] at this
  omega
theorem texts_ok {ts : List (List UInt8)} (h : textsP ts = true) : ts.length ≤ 8 ∧ ∀ t ∈ ts, t.length ≤ 200 := by
  unfold textsP at h
  rw [Bool.and_eq_true] at h
  refine ⟨by simpa using h.2, fun x hx => ?_⟩
  have := List.all_eq_true.1 h.1 x hx
  simp at this
  omega

/-! ### Sync -/
set_option maxHeartbeats 2000000 in
theorem x_jsync {W w : World} {own oj : Nat → Option Nat} {bd b : Nat} {f : Int} {S : Ds} {j : Js} (h : Dx W w own bd S) (hj : Jx W w oj b bd f j) (ap : Apart own oj) :
    Calls Tryd.prog 23 #[.pointer (some ⟨b, 0, none⟩)] w (AppEnd W w own oj bd b f (jsyncP S f j).1 (jsyncP S f j).2.1 (jsyncP S f j).2.2) := by
  obtain ⟨lv, hjn⟩ := hj.jn
  have c4 : w.cell? ⟨b, 4, none⟩ = some (.bool j.broken) := hjn.blk.cell 4
  unfold jsyncP
  cases hbr : j.broken with
  | true =>
    rw [hbr] at c4
    rw [if_pos rfl]
    have HE : Hid (AppEnd W w own oj bd b f S j 7 (.returned (.int .i64 7)) w) := ⟨own, oj, rfl, h, hj, ap, Far.refl _ _ _⟩
    clear h hj ap hjn
    go_enter Tryd.func23, Tryd.ntmps23
    go_wp2_with fail
    go_ret
    exact HE.out
  | false =>
    rw [hbr] at c4
    rw [if_neg (by decide)]
    have d0 : w.cell? ⟨b, 0, none⟩ = some (.pointer (some ⟨bd, 0, none⟩)) := hjn.blk.cell 0
    have d1 : w.cell? ⟨b, 1, none⟩ = some (.int .i64 f) := hjn.blk.cell 1
    have HS := Lib.hid (x_sync h.drew (f := f) rfl rfl)
    have HJ := Lib.hid hj
    have HAP := Lib.hid ap
    generalize (syncP S f).1 = S1 at *
    generalize (syncP S f).2 = r1 at *
    clear h hj ap hjn
    go_enter Tryd.func23, Tryd.ntmps23
    go_wp2_with fail
    go_still_tail 8, (by kernel_rfl)
    change wpList _ _ _ _ _ w.drew
    go_wp2_with fail
    refine HS.out.mono ?_
    rintro e w2 ⟨o2, rfl, hx2, t2⟩
    obtain ⟨hj2, ap2⟩ := (HJ.out.past (Below.refl _ _).drew).other HAP.out hx2.below t2
    obtain ⟨lv2, hjn2⟩ := hj2.jn
    have t4 := (Tr.refl (fun r => r = 0) hjn2.inb).setOwn (p := ⟨b, 4, none⟩) hjn2.ob rfl (.bool (r1 != 0))
    have hj4 := hj2.turn ⟨lv2, hjn2.setC t4 (hjn2.blk.set_ 4 (.bool (r1 != 0)))⟩ (t4.weak (fun _ _ => trivial))
    obtain ⟨hx4, ap4⟩ := hx2.other2 ap2 hj4.below (t4.weak (fun _ _ => trivial))
    have f4 := hjn2.blk.frozen 4
    have d4 : w2.cell? ⟨b, 4, none⟩ = some (.bool j.broken) := hjn2.blk.cell 4
    have HE : Hid (AppEnd W w own oj bd b f S1 { j with broken := r1 != 0 } r1 (.returned (.int .i64 r1)) (w2.setCell ⟨b, 4, none⟩ (.bool (r1 != 0)))) := ⟨o2, oj, rfl, hx4, hj4, ap4, (Far.below (Below.refl _ _).drew).two t2 (t4.weak (fun _ _ => trivial))⟩
    clear hx2 t2 hj2 ap2 hjn2 t4 hj4 hx4 ap4 HS HJ HAP
    go_wp2_with fail
    go_ret
    exact HE.out

end Go.Proofs.YtjlndgkahmcfdaaDoor
