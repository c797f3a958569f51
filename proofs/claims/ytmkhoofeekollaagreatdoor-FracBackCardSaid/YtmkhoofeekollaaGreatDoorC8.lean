/- The walks of big's divisor at few digits, and of Gcd over it. Conditions: lengths; the table of math/bits as its text lays it. -/
import Derived.Test.YtmkhoofeekollaaGreatDoorC7
namespace Go.Proofs.YtmkhoofeekollaaGreatDoor
set_option maxRecDepth 8000
open Go.RowKit

theorem Digits.from_ {w w1 w' : World} {l : List Nat} {e : Ending} (h : Digits w1 l e w') (hb : Below w.heap.size w w1) : Digits w l e w' := by
  obtain ⟨A, c, h1, h2, h3, h4, h5⟩ := h
  exact ⟨A, c, h1, h2, h3, fun hp => by
    obtain ⟨g, e, hg, hd⟩ := h4 hp
    exact ⟨g, e, Nat.le_trans hb.size hg, hd⟩, hb.trans (h5.mono hb.size)⟩
theorem Rep.abs {s x : Int} {l : List Nat} (h : Rep s l x) : x.natAbs = dval l := by
  rcases h.cases with ⟨-, -, a, b⟩ | ⟨-, -, a, b⟩ | ⟨-, a, b⟩
  · omega
  · omega
  · rw [a, b]; rfl
set_option maxHeartbeats 4000000 in
theorem Gcd_by (s1 s2 : Int) (A1 A2 : Option Addr) (n1 n2 c1 c2 B1 B2 : Nat) (l1 l2 : List Nat) (x y : Int) (w : World) (h1 : Reads w B1 1 A1 n1 (dv l1)) (h2 : Reads w B2 1 A2 n2 (dv l2)) (r1 : Rep s1 l1 x) (r2 : Rep s2 l2 y) (hn1 : n1 ≤ 1048576) (hn2 : n2 ≤ 1048576) (hT : TabZ w)
    (HDV : ∀ wx : World, Reads wx B1 1 A1 n1 (dv l1) → Reads wx B2 1 A2 n2 (dv l2) → TabZ wx → Calls Tryz.prog 88 #[.slice A1 n1 c1, .slice A2 n2 c2] wx (DigitsV wx (Nat.gcd (dval l1) (dval l2)))) :
    Calls Tryz.prog 55 #[.agg #[.int .i64 s1, .slice A1 n1 c1], .agg #[.int .i64 s2, .slice A2 n2 c2]] w (BigOk w (Int.gcd x y : Nat)) := by
  have H1 := Lib.hid h1
  have H2 := Lib.hid h2
  have R1 := Lib.hid r1
  have R2 := Lib.hid r2
  have HD := Lib.hid HDV
  have HTB := Lib.hid hT
  have K := Lib.hid (Three.new w s1 A1 n1 c1 s2 A2 n2 c2)
  clear h1 h2 r1 r2 HDV hT
  go_enter Tryz.func55, Tryz.ntmps55
  go_wp2_with fail
  refine (right_rep R1.out A1 n1 c1 _ _ (H1.out.past (K.out.bl)) (by omega)).mono ?_
  rintro e w4 ⟨rfl, b4⟩
  have K4 := Lib.hid (K.out.past b4)
  obtain ⟨y0, y1, y2, y3, y4, y5, y6, y7⟩ := K4.out.cells
  clear b4 K
  go_wp2_with fail
  refine (right_rep R2.out A2 n2 c2 _ _ (H2.out.past (K4.out.bl)) (by omega)).mono ?_
  rintro e w5 ⟨rfl, b5⟩
  have K5 := Lib.hid (K4.out.past b5)
  clear y0 y1 y2 y3 y4 y5 y6 y7
  obtain ⟨y0, y1, y2, y3, y4, y5, y6, y7⟩ := K5.out.cells
  clear b5 K4
  go_wp2_with fail
  refine (HD.out w5 (H1.out.past K5.out.bl) (H2.out.past K5.out.bl) (HTB.out.on K5.out.bl)).mono ?_
  rintro e w6 ⟨l, hN, hV, A, c, rfl, hc, hR, hF, hB⟩
  have K6 := Lib.hid (K5.out.past hB)
  have HN := Lib.hid hN
  have HV := Lib.hid hV
  have HC := Lib.hid hc
  have HR := Lib.hid hR
  have HF := Lib.hid hF
  clear hN hV hc hR hF hB y0 y1 y2 y3 y4 y5 y6 y7
  go_wp2_with fail
  refine (signed_any 1 A _ c _ l _ HR.out HN.out (.inl rfl) HC.out).mono ?_
  rintro e w7 ⟨s', A', c', rfl, hc', hrep, hA, hB⟩
  have K7 := Lib.hid (K6.out.past hB)
  obtain ⟨z0, z1, z2, z3, z4, z5, z6, z7⟩ := K7.out.cells
  have HE : Hid (BigOk w (Int.gcd x y : Nat) (.returned (.tuple #[.agg #[.int .i64 s', .slice A' l.length c'], .int .i64 0])) ((w7.setCell ⟨w.heap.size + 1 + 1, 0, none⟩ (.int .i64 s')).setCell ⟨w.heap.size + 1 + 1, 1, none⟩ (.slice A' l.length c'))) :=
    (K7.out.stored (fun hp ad e => by
      obtain ⟨g, e2, hg, -⟩ := HF.out hp
      rw [hA hp, e2] at e
      cases e
      exact Nat.lt_of_lt_of_le K5.out.lt hg) ⟨HR.out.1, fun hp => by rw [hA hp]; exact ((HR.out.past hB).here).2 hp⟩ (by
      have e : (1 : Int) * (dval l : Int) = ((Int.gcd x y : Nat) : Int) := by
        rw [Int.one_mul, HV.out]
        unfold Int.gcd
        rw [R1.out.abs, R2.out.abs]
      rw [e] at hrep
      exact hrep) hc').ok
  clear hc' hrep hA hB
  go_wp2_with fail
  obtain ⟨e0, e1⟩ := two_cells K7.out.k3 (.int .i64 s') (.slice A' l.length c')
  refine bodyPost_ret (v := .tuple #[.agg #[.int .i64 s', .slice A' l.length c'], .int .i64 0]) (by simp [results, Tryz.results55, go_sem, e0, e1]) rfl ?_
  exact HE.out
end Go.Proofs.YtmkhoofeekollaaGreatDoor
