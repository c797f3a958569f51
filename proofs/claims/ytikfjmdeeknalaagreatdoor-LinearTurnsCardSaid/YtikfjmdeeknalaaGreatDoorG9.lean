/- The walk of big's shorten. Conditions: lengths; the digits lie in blocks of the call's own; the second number is not greater. -/
import Derived.Test.YtikfjmdeeknalaaGreatDoorG7
import Derived.Test.YtikfjmdeeknalaaGreatDoorE8
import Derived.Deep.LoopGhost
namespace Go.Proofs.YtikfjmdeeknalaaGreatDoor
set_option maxRecDepth 20000
open Go.RowKit

/-- The leading bits of two numbers in order, plainly. -/
theorem lead_facts {la lb : List Nat} {n d y : Nat} (na : Norm la) (nb : Norm lb) (hn : la.length = n) (h4 : 4 ≤ n) (hlb : lb.length ≤ n) (hle : dval lb ≤ dval la) (hd : la[n - 1]? = some d) (hy : Lib.bitLen d + y = 20) :
    y < 20 ∧ leadP la n y < 1152921504606846976 ∧ leadP lb n y ≤ leadP la n y ∧ Lead (dval la : Int) (dval lb : Int) ((2 ^ y : Nat) : Int) ((1048576 ^ (n - 3) : Nat) : Int) (leadP la n y : Int) (leadP lb n y : Int) := by
  obtain ⟨y20, -, hhi⟩ := top_shift na hn (by omega) hd hy
  obtain ⟨a0, a1⟩ := lead_sure (y := y) (d := la) (n := n) (by omega) h4 (by omega) na.1
  obtain ⟨b0, b1⟩ := lead_sure (y := y) (d := lb) (n := n) hlb h4 (by omega) nb.1
  have hT : 0 < 2 ^ y := Nat.pow_pos (by decide)
  have hS : 0 < 1048576 ^ (n - 3) := Nat.pow_pos (by decide)
  have hR : 1048576 ^ n = 1152921504606846976 * 1048576 ^ (n - 3) := by
    conv => lhs; rw [show n = 3 + (n - 3) by omega, Nat.pow_add]
  have hm : dval lb * 2 ^ y ≤ dval la * 2 ^ y := Nat.mul_le_mul_right _ hle
  refine ⟨y20, ?_, ?_, ?_⟩
  · rw [hR] at hhi
    exact Nat.lt_of_mul_lt_mul_right (Nat.lt_of_le_of_lt a0 hhi)
  · have : leadP lb n y * 1048576 ^ (n - 3) < (leadP la n y + 1) * 1048576 ^ (n - 3) := Nat.lt_of_le_of_lt (Nat.le_trans b0 hm) a1
    have := Nat.lt_of_mul_lt_mul_right this
    omega
  · refine ⟨by omega, by omega, ?_, ?_, ?_, ?_⟩
    · exact_mod_cast a0
    · exact_mod_cast a1
    · exact_mod_cast b0
    · exact_mod_cast b1
/-- A row of the call's own, if there is anything. -/
def Row (X : Nat) (w : World) (A : Option Addr) (l : List Nat) : Prop := 0 < l.length → ∃ g, A = some ⟨g, 0, none⟩ ∧ X ≤ g ∧ Dig w g l
theorem Row.past {X : Nat} {w w' : World} {A : Option Addr} {l : List Nat} (h : Row X w A l) (hb : Below w.heap.size w w') : Row X w' A l := fun hp => by
  obtain ⟨g, e, hg, hd⟩ := h hp
  exact ⟨g, e, hg, hd.past hb⟩
theorem Row.reads {X : Nat} {w : World} {A : Option Addr} {l : List Nat} (h : Row X w A l) : Reads w w.heap.size 1 A l.length (dv l) := by
  rcases Nat.eq_zero_or_pos l.length with h0 | h0
  · obtain rfl : l = [] := List.eq_nil_of_length_eq_zero h0
    exact Reads.none_
  · obtain ⟨g, rfl, -, hd⟩ := h h0
    exact hd.reads rfl hd.lt
/-- Two numbers on the way to their greatest common divisor. -/
structure ShSt (X N G : Nat) (w wr : World) (la lb : List Nat) (A0 A1 : Option Addr) (c0 c1 : Nat) : Prop where
  na : Norm la
  nb : Norm lb
  le : dval lb ≤ dval la
  gcd : Nat.gcd (dval la) (dval lb) = G
  ra : Row X wr A0 la
  rb : Row X wr A1 lb
  ne : ∀ g g', A0 = some ⟨g, 0, none⟩ → A1 = some ⟨g', 0, none⟩ → 0 < la.length → 0 < lb.length → g ≠ g'
  len : la.length ≤ N
  ca : la.length ≤ c0
  cb : lb.length ≤ c1
  bel : Below X w wr
/-- How shorten ends. -/
def ShEnd (X N G : Nat) (w : World) (e : Ending) (w' : World) : Prop := ∃ la lb A0 A1 c0 c1, e = .returned (.tuple #[.slice A0 la.length c0, .slice A1 lb.length c1]) ∧ ShSt X N G w w' la lb A0 A1 c0 c1 ∧ lb.length ≤ 3
theorem ShSt.divided {X N G : Nat} {w wr w' : World} {la lb lr : List Nat} {A0 A1 A2 : Option Addr} {c0 c1 c2 : Nat} (h : ShSt X N G w wr la lb A0 A1 c0 c1) (hp : 0 < lb.length) (hX : X ≤ wr.heap.size) (hb : Below wr.heap.size wr w')
    (nr : Norm lr) (hr : dval lr = dval la % dval lb) (hc : lr.length ≤ c2) (rr : 0 < lr.length → ∃ g, A2 = some ⟨g, 0, none⟩ ∧ wr.heap.size ≤ g ∧ Dig w' g lr) :
    ShSt X N G w w' lb lr A1 A2 c1 c2 ∧ dval lr < dval lb := by
  have hb0 : 0 < dval lb := by
    rcases Nat.eq_zero_or_pos (dval lb) with e | e
    · have := (dval_zero h.nb).1 e
      rw [this] at hp
      simp at hp
    · exact e
  have hlt : dval lr < dval lb := by rw [hr]; exact Nat.mod_lt _ hb0
  refine ⟨⟨h.nb, nr, Nat.le_of_lt hlt, ?_, h.rb.past hb, ?_, ?_, ?_, h.cb, hc, h.bel.trans (hb.mono hX)⟩, hlt⟩
  · rw [hr, ← h.gcd, Nat.gcd_comm, ← Nat.gcd_rec, Nat.gcd_comm]
  · intro hp2
    obtain ⟨g, e, hg, hd⟩ := rr hp2
    exact ⟨g, e, Nat.le_trans hX hg, hd⟩
  · intro g g' e e' hp1 hp2
    obtain ⟨q, f, hq, hd⟩ := rr hp2
    obtain ⟨q2, f2, hq2, hd2⟩ := h.rb hp1
    rw [e'] at f
    rw [e] at f2
    cases f
    cases f2
    have := hd2.lt
    omega
  · have := len_le h.na h.nb h.le
    have := h.len
    omega
theorem ShSt.leapt {X N G : Nat} {w wr w' : World} {la lb na' nb' : List Nat} {ga gb c0 c1 va vb : Nat} {u0 v0 u1 v1 : Int} (h : ShSt X N G w wr la lb (some ⟨ga, 0, none⟩) (some ⟨gb, 0, none⟩) c0 c1)
    (e1 : (va : Int) = u0 * dval la + v0 * dval lb) (e2 : (vb : Int) = u1 * dval la + v1 * dval lb) (det : u0 * v1 - u1 * v0 = 1 ∨ u0 * v1 - u1 * v0 = -1) (hlt : vb < va) (hvB : va ≤ dval lb) (hX : X ≤ wr.heap.size) (hp : 0 < lb.length)
    (k1 : Norm na') (k2 : Norm nb') (k3 : dval na' = va) (k4 : dval nb' = vb) (k5 : na'.length ≤ c0) (k6 : nb'.length ≤ c1) (k7 : Dig w' ga na') (k8 : Dig w' gb nb') (k9 : ∀ X, X ≤ ga → X ≤ gb → X ≤ wr.heap.size → Below X wr w') :
    ShSt X N G w w' na' nb' (some ⟨ga, 0, none⟩) (some ⟨gb, 0, none⟩) c0 c1 ∧ dval nb' < dval lb := by
  have hlen := len_le h.na h.nb h.le
  obtain ⟨g1, q1, hg1, -⟩ := h.ra (by omega)
  obtain ⟨g2, q2, hg2, -⟩ := h.rb hp
  cases q1
  cases q2
  refine ⟨⟨k1, k2, by omega, ?_, fun _ => ⟨ga, rfl, hg1, k7⟩, fun _ => ⟨gb, rfl, hg2, k8⟩, ?_, ?_, k5, k6, h.bel.trans (k9 X hg1 hg2 hX)⟩, by omega⟩
  · rw [k3, k4, gcd_lin e1 e2 det, h.gcd]
  · intro g g' f f' _ _
    exact h.ne g g' f f' (by omega) hp
  · have := len_le h.na k1 (by rw [k3]; exact Nat.le_trans hvB h.le)
    have := h.len
    omega
end Go.Proofs.YtikfjmdeeknalaaGreatDoor

/- The walk of big's shorten. Conditions: lengths; the digits lie in blocks of the call's own; the second number is not greater. -/
namespace Go.Proofs.YtikfjmdeeknalaaGreatDoor
set_option maxRecDepth 20000
open Go.RowKit

theorem beq_no {a b : Int} (h : ¬ a = b) : (a == b) = false := by simpa using h
set_option maxHeartbeats 8000000 in
theorem shorten_any (X N G : Nat) (A0 A1 : Option Addr) (n1 n2 c0 c1 : Nat) (a b : List Nat) (w : World) (h : ShSt X N G w w a b A0 A1 c0 c1) (h1 : a.length = n1) (h2 : b.length = n2) (hN : N ≤ 1000000) (hX : X ≤ w.heap.size) :
    Calls Tryz.prog 204 #[.slice A0 n1 c0, .slice A1 n2 c1] w (ShEnd X N G w) := by
  have H := Lib.hid h
  have H1 := Lib.hid h1
  have H2 := Lib.hid h2
  clear h h1 h2
  go_enter Tryz.func204, Tryz.ntmps204
  go_wp2_with fail
  go_loopg [0, 1] (dval b) (fun kx s0 s1 wr => ∃ (la lb : List Nat) (A B : Option Addr) (n m c d : Nat), s0 = .slice A n c ∧ s1 = .slice B m d ∧ Hid (la.length = n) ∧ Hid (lb.length = m) ∧ m ≤ 1000000 ∧ n ≤ 1000000 ∧ Hid (dval lb ≤ kx) ∧ Hid (ShSt X N G w wr la lb A B c d))
  case atStart =>
    have e := len_le H.out.na H.out.nb H.out.le
    have e2 := H.out.len
    exact ⟨a, b, A0, A1, n1, n2, c0, c1, rfl, rfl, H1.out, H2.out, by have := H1.out; have := H2.out; omega, by have := H1.out; omega, Nat.le_refl _, H.out⟩
  case round =>
    clear H H1 H2
    obtain ⟨la, lb, A, B, n, m, c, d, rfl, rfl, HN1, HN2, hm6, hn6, HK, HS⟩ := hrel
    by_cases hlt : 3 < m
    · have hlt2 : (3 : Int) < (m : Int) := by omega
      have hmn : m ≤ n := by
        have := len_le HS.out.na HS.out.nb HS.out.le
        have := HN1.out
        have := HN2.out
        omega
      obtain ⟨ga, rfl, hga, hda⟩ := HS.out.ra (by have := HN1.out; omega)
      obtain ⟨gb, rfl, hgb, hdb⟩ := HS.out.rb (by have := HN2.out; omega)
      have HDA := Lib.hid hda
      have HDB := Lib.hid hdb
      obtain ⟨dt, hdt⟩ : ∃ x, la[n - 1]? = some x := ⟨_, List.getElem?_eq_getElem (by have := HN1.out; omega)⟩
      have g1 := hda.cell hdt
      have hdl := HS.out.na.1.at_ hdt
      have hdne : dt ≠ 0 := by
        intro e
        subst e
        apply HS.out.na.2
        rw [List.getLast?_eq_getElem?, HN1.out]
        exact hdt
      obtain ⟨b0, b1, -, -⟩ := bitLen_in hdne hdl
      obtain ⟨y, hy⟩ : ∃ y, Lib.bitLen dt + y = 20 := ⟨20 - Lib.bitLen dt, by omega⟩
      have HF := Lib.hid (lead_facts HS.out.na HS.out.nb HN1.out (by omega) (by have := HN2.out; omega) HS.out.le hdt hy)
      have hy20 := HF.out.1
      have HLEN := Lib.hid ((Tryz.bits_Len (dt : Int) · (by omega) (by omega)))
      have hcv : IntKind.u64.wrap (dt : Int) = (dt : Int) := wraps_u64 _ (by omega) (by omega)
      have hsub : (20 : Int) - (Lib.bitLen dt : Int) = (y : Int) := by omega
      have hdn : (dt : Int).toNat = dt := by omega
      have hi0 : (0 : Int) ≤ (n : Int) - 1 := by omega
      have hi1 : (n : Int) - 1 < (n : Int) := by omega
      have hit : ((n : Int) - 1).toNat = n - 1 := by omega
      clear hda hdb hdt hdne hy
      go_wp2_with fail
      refine (HLEN.out _).mono ?_
      rintro e wr ⟨rfl, rfl⟩
      rw [hdn]
      go_wp2_with fail
      refine (lead_any (some ⟨ga, 0, none⟩) n n c (ga + 1) y la wr (HDA.out.reads HN1.out (Nat.lt_succ_self _)) HS.out.na.1 (Nat.le_refl _) (by omega) hn6 hy20 HF.out.2.1).mono ?_
      rintro e w1 ⟨rfl, q, rfl⟩
      go_wp2_with fail
      refine (lead_any (some ⟨gb, 0, none⟩) m n d (gb + 1) y lb (wr.drewN q) ((HDB.out.drewN q).reads HN2.out (Nat.lt_succ_self _)) HS.out.nb.1 hmn (by omega) hn6 hy20 (Nat.lt_of_le_of_lt HF.out.2.2.1 HF.out.2.1)).mono ?_
      rintro e w1 ⟨rfl, q2, rfl⟩
      go_wp2_with fail
      refine (leapOf_any _ _ _ (by omega) (by have := HF.out.2.2.1; omega) (by have := HF.out.2.1; omega)).mono ?_
      rintro e w3 ⟨u0, v0, u1, v1, rfl, hfine, hb3⟩
      have HFI := Lib.hid hfine
      have HB3 : Hid (Below wr.heap.size wr w3) := (Drew.below ⟨q + q2, rfl⟩ : Below wr.heap.size wr (wr.drewN (q + q2))).trans (hb3.mono (Nat.le_refl _))
      have HTO := Lib.hid (hfine.to _ _ _ _ HF.out.2.2.2)
      clear hfine hb3
      have hXw : X ≤ wr.heap.size := Nat.le_trans hX HS.out.bel.size
      have HD3A := Lib.hid (HDA.out.past HB3.out)
      have HD3B := Lib.hid (HDB.out.past HB3.out)
      have hlb0 : 0 < lb.length := by have := HN2.out; omega
      have hla0 : 0 < la.length := by have := HN1.out; omega
      have hgne : ga ≠ gb := HS.out.ne ga gb rfl rfl hla0 hlb0
      have HL0 := Lib.hid hlb0
      clear hlb0 hla0
      by_cases hv0 : v0 = 0
      · subst hv0
        have hdb0 : Hid (0 < dval lb) := by
          show _ < _
          rcases Nat.eq_zero_or_pos (dval lb) with e | e
          · have := (dval_zero HS.out.nb).1 e
            have h3 := HL0.out
            rw [this] at h3
            simp at h3
          · exact e
        simp only [leapV]
        go_wp2_with fail
        refine (divide_any (some ⟨ga, 0, none⟩) (some ⟨gb, 0, none⟩) n m c d (ga + 1) (gb + 1) la lb _ ((HD3A.out.alloc _).reads HN1.out (Nat.lt_succ_self _)) ((HD3B.out.alloc _).reads HN2.out (Nat.lt_succ_self _)) HS.out.na HS.out.nb hdb0.out hn6 hm6).mono ?_
        rintro e w5 ⟨lq, lr, Aq, cq, Ar, cr, rfl, -, hNr, -, hVr, -, hCr, -, -, -, hRr, hB5⟩
        have HB5 : Hid (Below wr.heap.size wr w5) := (HB3.out.alloc HB3.out.size _).trans (hB5.mono (by have := HB3.out.size; simp; omega))
        obtain ⟨k1, k2⟩ := HS.out.divided HL0.out hXw HB5.out hNr hVr hCr (fun hp => by
          obtain ⟨g, e, hg, hd⟩ := hRr hp
          exact ⟨g, e, by have := HB3.out.size; simp at hg; omega, hd⟩)
        have HK1 := Lib.hid k1
        have HK2 := Lib.hid k2
        have hl6 : lr.length ≤ 1000000 := by
          have := len_le k1.na k1.nb k1.le
          have := HN2.out
          omega
        clear hNr hVr hCr hRr hB5 k1 k2
        go_wp2_with fail
        go_roundg (dval lr)
        case measure => have := HK.out; have := HK2.out; omega
        case rel => exact ⟨lb, lr, _, Ar, m, lr.length, d, cr, rfl, rfl, HN2.out, rfl, hl6, hm6, Nat.le_refl _, HK1.out⟩
      · obtain ⟨p1, p2, p3⟩ : 0 ≤ u1 * (dval la : Int) + v1 * (dval lb : Int) ∧ u1 * (dval la : Int) + v1 * (dval lb : Int) < u0 * (dval la : Int) + v0 * (dval lb : Int) ∧ u0 * (dval la : Int) + v0 * (dval lb : Int) ≤ (dval lb : Int) := by
          rcases HTO.out with ⟨e, -⟩ | ⟨-, q1, q2, q3⟩
          · exact absurd e hv0
          · exact ⟨q1, q2, q3⟩
        obtain ⟨va, hva⟩ : ∃ va : Nat, (va : Int) = u0 * (dval la : Int) + v0 * (dval lb : Int) := ⟨(u0 * (dval la : Int) + v0 * (dval lb : Int)).toNat, by omega⟩
        obtain ⟨vb, hvb⟩ : ∃ vb : Nat, (vb : Int) = u1 * (dval la : Int) + v1 * (dval lb : Int) := ⟨(u1 * (dval la : Int) + v1 * (dval lb : Int)).toNat, by omega⟩
        have hvab : vb < va := by omega
        have hvaB : va ≤ dval lb := by omega
        have hb1 := dval_lt HS.out.nb.1
        have ha1 := dval_lt HS.out.na.1
        rw [HN2.out] at hb1
        rw [HN1.out] at ha1
        have hle0 := HS.out.le
        have HVA := Lib.hid hva
        have HVB := Lib.hid hvb
        have HVAB := Lib.hid hvab
        have HVAX := Lib.hid hvaB
        have HAN : Hid (va < 1048576 ^ n) := Nat.lt_of_le_of_lt (Nat.le_trans hvaB hle0) ha1
        have HBN : Hid (vb < 1048576 ^ m) := Nat.lt_trans hvab (Nat.lt_of_le_of_lt hvaB hb1)
        have q1 := beq_no hv0
        clear p1 p2 p3 hva hvb hvab hvaB hb1 ha1 hle0 hv0
        simp only [leapV]
        go_wp2_with fail
        refine (apply_any ga gb n m c d va vb la lb u0 v0 u1 v1 _ (HD3A.out.alloc _) (HD3B.out.alloc _) HN1.out HN2.out hmn hgne HS.out.na.1 HS.out.nb.1 HFI.out HVA.out HVB.out HAN.out HBN.out (by have := HS.out.ca; have := HN1.out; omega) (by have := HS.out.cb; have := HN2.out; omega) hn6).mono ?_
        rintro e w5 ⟨na', nb', rfl, k1, k2, k3, k4, k5, k6, k7, k8, k9⟩
        obtain ⟨z1, z2⟩ := HS.out.leapt HVA.out HVB.out HFI.out.det HVAB.out HVAX.out hXw HL0.out k1 k2 k3 k4 k5 k6 k7 k8 (fun Y y1 y2 y3 => ((HB3.out.alloc HB3.out.size _).mono y3).trans (k9 Y y1 y2 (by have := HB3.out.size; simp; omega)))
        have HK1 := Lib.hid z1
        have HK2 := Lib.hid z2
        have hl6 : na'.length ≤ 1000000 := by have := z1.len; omega
        have hl7 : nb'.length ≤ 1000000 := by
          have := len_le z1.na z1.nb z1.le
          omega
        clear k1 k2 k3 k4 k5 k6 k7 k8 k9 z1 z2
        go_wp2_with fail
        go_roundg (dval nb')
        case measure => have := HK.out; have := HK2.out; omega
        case rel => exact ⟨na', nb', _, _, na'.length, nb'.length, c, d, rfl, rfl, rfl, rfl, hl7, hl6, Nat.le_refl _, HK1.out⟩
    · have hle : decide ((3 : Int) < (m : Int)) = false := decide_eq_false (by omega)
      have HE : Hid (ShEnd X N G w (.returned (.tuple #[.slice A n c, .slice B m d])) wr) := ⟨la, lb, A, B, c, d, by rw [HN1.out, HN2.out], HS.out, by have := HN2.out; omega⟩
      go_wp2_with fail
      go_ret2
      exact HE.out
end Go.Proofs.YtikfjmdeeknalaaGreatDoor
