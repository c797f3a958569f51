/- The walk of the law JournalStays. Conditions: the table of strconv; what the arguments read as. -/
import Derived.Test.YtjlndgkahmcfdaaDoorJq
import Derived.Test.YtjlndgkahmcfdaaDoorJw
namespace Go.Proofs.YtjlndgkahmcfdaaDoor
set_option maxRecDepth 8000
open Go.RowKit Go.ChangeMaps

theorem bStr_of' (s : ByteArray) : s = bStr s.data.toList := by
  cases s with
  | mk d => simp [bStr]
/-- A journal, or none. -/
def JAt (W w : World) (own : Nat → Option Nat) (bd : Nat) (f : Int) (v : Value) (j : Option Js) : Prop := match j with
  | none => v = .pointer none
  | some js => ∃ b oj, v = .pointer (some ⟨b, 0, none⟩) ∧ Jx W w oj b bd f js ∧ Apart own oj
theorem JAt.other {W w w' : World} {own own' : Nat → Option Nat} {bd : Nat} {f : Int} {v : Value} {j : Option Js} (h : JAt W w own bd f v j) (hb : Below W.heap.size W w') (t : Tr (fun _ => True) w own own' w') : JAt W w' own' bd f v j := by
  cases j with
  | none => exact h
  | some js =>
    obtain ⟨b, oj, e, hj, ap⟩ := h
    obtain ⟨h1, h2⟩ := hj.other ap hb t
    exact ⟨b, oj, e, h1, h2⟩
/-- Numbers that lie below the disk's blocks. -/
theorem Nums.low {W w : World} {own : Nat → Option Nat} {b : Nat} {s : Ds} {A : Option Addr} {n : Nat} {l : List Int} (h : Dx W w own b s) (hr : Reads W W.heap.size 1 A n (inV l)) (hn : n ≤ 1000000) : Nums w own A n l := by
  refine ⟨(hr.below h.below).more h.below.size, fun h0 ad e => ?_, hn⟩
  subst e
  obtain ⟨ad', e1, h1, _⟩ := hr.2 h0
  cases e1
  cases e2 : own ad.block with
  | none => rfl
  | some r => have := h.new _ _ e2; omega
section
variable {W w w' : World} {own oj : Nat → Option Nat} {b bd : Nat} {f : Int} {j : Js} {S : Ds} {row : Option Nat}
/-- A row of neither has grown. -/
theorem Dx.grownN (h : Dx W w own bd S) (g : w.grownBy w' row) (hr : ∀ g, row = some g → own g = none ∧ W.heap.size ≤ g) : Dx W w' own bd S :=
  ⟨h.da.kept1 (fun x r e => g.block x (h.da.inb x r e) (fun e2 => by rw [(hr x e2.symm).1] at e; cases e)) g.size, h.below.grown g h.below.size (fun x e => (hr x e).2), h.new⟩
theorem Jx.grownN (h : Jx W w oj b bd f j) (g : w.grownBy w' row) (hr : ∀ g, row = some g → oj g = none ∧ W.heap.size ≤ g) : Jx W w' oj b bd f j :=
  h.kept1 (fun x r e => g.block x (h.inb x r e) (fun e2 => by rw [(hr x e2.symm).1] at e; cases e)) g.size (h.below.grown g h.below.size (fun x e => (hr x e).2))
theorem row_far {own' oj' : Nat → Option Nat} {A : Option Addr} {n c : Nat} {xs : List Value} (h : w.ownsRow 0 9 1 (.slice A n c) n xs) (hf : ∀ g, (Value.slice A n c).ownBlock = some g → own g = none ∧ oj g = none ∧ W.heap.size ≤ g) (hF : Far w own oj w' own' oj') :
    w'.ownsRow 0 9 1 (.slice A n c) n xs ∧ ∀ g, (Value.slice A n c).ownBlock = some g → own' g = none ∧ oj' g = none ∧ W.heap.size ≤ g := by
  refine ⟨⟨h.1, ?_⟩, fun g e => ?_⟩
  · rcases h.2 with hn | ⟨g, cap, cur, hv, hb, hgg, rest⟩
    · exact .inl hn
    · refine .inr ⟨g, cap, cur, hv, hb, ?_, rest⟩
      obtain ⟨a1, a2, -⟩ := hf g (by rw [hv]; rfl)
      rw [(hF.2 g (Array.getElem?_eq_some_iff.1 hgg).1 a1 a2).1]
      exact hgg
  · obtain ⟨a1, a2, a3⟩ := hf g e
    obtain ⟨-, k2, k3⟩ := hF.2 g (h.lt g e).2 a1 a2
    exact ⟨k2, k3, a3⟩
end
theorem open_at {W w : World} {own : Nat → Option Nat} {bd : Nat} {S S' : Ds} {f r : Int} {ts : List (List UInt8)} (h : Dx W w own bd S) (hf0 : 0 ≤ f) (hf1 : f < 16) (ho : openP S f = (S', r, ts)) :
    Calls Tryd.prog 16 #[.pointer (some ⟨bd, 0, none⟩), .int .i64 f] w fun e w' => ∃ own' v, e = .returned (.tuple #[v, .int .i64 r]) ∧ Dx W w' own' bd S' ∧ JAt W w' own' bd f v (if r = 0 then some ⟨ts, false⟩ else none) ∧ Tr (fun _ => True) w own own' w' := by
  have := x_open h hf0 hf1
  rw [ho] at this
  refine this.mono ?_
  rintro e w' ⟨own', hd, t, hc⟩
  rcases hc with ⟨hne, rfl⟩ | ⟨h0, bj, oj, rfl, hj, hap⟩
  · exact ⟨own', _, rfl, hd, by rw [if_neg hne]; exact rfl, t⟩
  · have h0 : r = 0 := h0
    subst h0
    exact ⟨own', _, rfl, hd, by rw [if_pos rfl]; exact ⟨bj, oj, rfl, hj, hap⟩, t⟩

set_option maxHeartbeats 8000000 in
theorem stays_walk (A : Option Addr) (n c : Nat) (xs : List Oq) (A1 : Option Addr) (n1 c1 : Nat) (ss : List (List UInt8)) (A2 : Option Addr) (c2 : Nat) (one : List Int) (A3 : Option Addr) (c3 : Nat) (two : List Int) (w : World) (hT : Tab w)
    (h : OsIs w w.heap.size A n xs) (hn : n ≤ 9223372036854775807) (hF : ∀ x ∈ xs, x.Fits) (hs : Reads w w.heap.size 1 A1 n1 (ss.map strV)) (hn1 : n1 ≤ 9223372036854775807) (hsl : ∀ t ∈ ss, t.length ≤ 9223372036854775807)
    (h2 : Reads w w.heap.size 1 A2 one.length (inV one)) (hn2 : one.length ≤ 9223372036854775807) (h3 : Reads w w.heap.size 1 A3 two.length (inV two)) (hn3 : two.length ≤ 9223372036854775807) :
    Calls Tryd.prog 4 #[.slice A n c, .slice A1 n1 c1, .slice A2 one.length c2, .slice A3 two.length c3] w fun e w' => e = .returned (.bool true) ∧ Below w.heap.size w w' := by
  have HS := Lib.hid (small_any w hT)
  have HFEW : Hid (∀ W, Below w.heap.size w W → Calls Tryd.prog 14 #[.slice A n c] W fun e w' => e = .returned (.bool (fewP xs)) ∧ W = w') := fun W hb => few_any A n c _ xs W (h.below hb) hn hF
  have HTX : Hid (∀ W, Below w.heap.size w W → Calls Tryd.prog 27 #[.slice A1 n1 c1] W fun e w' => e = .returned (.bool (textsP ss)) ∧ W = w') := fun W hb => texts_any A1 n1 c1 _ ss W (hs.below hb) hn1 hsl
  have hsn : ss.length = n1 := by have := hs.1; rw [List.length_map] at this; omega
  have HW := Lib.hid h
  have HFF := Lib.hid hF
  have HSS := Lib.hid hs
  have HSN := Lib.hid hsn
  have H2R := Lib.hid h2
  have H3R := Lib.hid h3
  clear h hF hs hsl h2 h3 hsn
  by_cases hbad : fewP xs = false ∨ textsP ss = false ∨ 50 < one.length ∨ 50 < two.length
  · have hcs : fewP xs = false ∨ (fewP xs = true ∧ textsP ss = false) ∨ (fewP xs = true ∧ textsP ss = true ∧ 50 < one.length) ∨ (fewP xs = true ∧ textsP ss = true ∧ ¬ 50 < one.length ∧ 50 < two.length) := by
      cases hq : fewP xs with
      | false => exact .inl rfl
      | true =>
        cases hq2 : textsP ss with
        | false => exact .inr (.inl ⟨rfl, rfl⟩)
        | true =>
          by_cases h5 : 50 < one.length
          · exact .inr (.inr (.inl ⟨rfl, rfl, h5⟩))
          · rcases hbad with e | e | e | e
            · rw [hq] at e; cases e
            · rw [hq2] at e; cases e
            · exact absurd e h5
            · exact .inr (.inr (.inr ⟨rfl, rfl, h5, e⟩))
    clear hbad
    rcases hcs with k1 | ⟨k1, k2⟩ | ⟨k1, k2, k3⟩ | ⟨k1, k2, k3, k4⟩
    · rw [k1] at HFEW
      clear k1
      go_enter Tryd.func4, Tryd.ntmps4
      go_wp2_with fail
      refine HS.out.mono ?_
      rintro e w1 ⟨rfl, b1⟩
      have HB := Lib.hid b1
      clear b1
      go_wp2_with fail
      refine (HFEW.out _ HB.out).mono ?_
      rintro e w' ⟨rfl, rfl⟩
      go_wp2_with fail
      go_ret
      exact ⟨rfl, HB.out⟩
    · rw [k1] at HFEW
      rw [k2] at HTX
      clear k1 k2
      go_enter Tryd.func4, Tryd.ntmps4
      go_wp2_with fail
      refine HS.out.mono ?_
      rintro e w1 ⟨rfl, b1⟩
      have HB := Lib.hid b1
      clear b1
      go_wp2_with fail
      refine (HFEW.out _ HB.out).mono ?_
      rintro e w' ⟨rfl, rfl⟩
      go_wp2_with fail
      refine (HTX.out _ HB.out).mono ?_
      rintro e w' ⟨rfl, rfl⟩
      go_wp2_with fail
      go_ret
      exact ⟨rfl, HB.out⟩
    · rw [k1] at HFEW
      rw [k2] at HTX
      have k3' : (50 : Int) < (one.length : Int) := by omega
      clear k1 k2
      go_enter Tryd.func4, Tryd.ntmps4
      go_wp2_with fail
      refine HS.out.mono ?_
      rintro e w1 ⟨rfl, b1⟩
      have HB := Lib.hid b1
      clear b1
      go_wp2_with fail
      refine (HFEW.out _ HB.out).mono ?_
      rintro e w' ⟨rfl, rfl⟩
      go_wp2_with fail
      refine (HTX.out _ HB.out).mono ?_
      rintro e w' ⟨rfl, rfl⟩
      go_wp2_with fail
      go_ret
      exact ⟨rfl, HB.out⟩
    · rw [k1] at HFEW
      rw [k2] at HTX
      have k3' : ¬ (50 : Int) < (one.length : Int) := by omega
      have k4' : (50 : Int) < (two.length : Int) := by omega
      clear k1 k2
      go_enter Tryd.func4, Tryd.ntmps4
      go_wp2_with fail
      refine HS.out.mono ?_
      rintro e w1 ⟨rfl, b1⟩
      have HB := Lib.hid b1
      clear b1
      go_wp2_with fail
      refine (HFEW.out _ HB.out).mono ?_
      rintro e w' ⟨rfl, rfl⟩
      go_wp2_with fail
      refine (HTX.out _ HB.out).mono ?_
      rintro e w' ⟨rfl, rfl⟩
      go_wp2_with fail
      go_ret
      exact ⟨rfl, HB.out⟩
  · have k1 : fewP xs = true := by
      cases e : fewP xs with
      | true => rfl
      | false => exact absurd (.inl e) hbad
    have k2 : textsP ss = true := by
      cases e : textsP ss with
      | true => rfl
      | false => exact absurd (.inr (.inl e)) hbad
    have k3 : ¬ 50 < one.length := fun e => hbad (.inr (.inr (.inl e)))
    have k4 : ¬ 50 < two.length := fun e => hbad (.inr (.inr (.inr e)))
    have k3' : ¬ (50 : Int) < (one.length : Int) := by omega
    have k4' : ¬ (50 : Int) < (two.length : Int) := by omega
    obtain ⟨hxl, hxo⟩ := few_ok k1
    obtain ⟨htl, hto⟩ := texts_ok k2
    rw [HSN.out] at htl
    have hn25 : n ≤ 25 := by rw [← HW.out.1]; exact hxl
    have HXO := Lib.hid hxo
    have HTO := Lib.hid hto
    rw [k1] at HFEW
    rw [k2] at HTX
    have o0 : openP newD 0 = (settled newD 0, 0, []) := by rfl
    have i0 : Inv (settled newD 0) (some ⟨[], false⟩) 0 := ⟨rfl, rfl, Nat.le_refl _, fun js e => by cases e; exact ⟨Nat.le_refl _, (fun t ht => by cases ht), fun _ => rfl⟩⟩
    have OO := Lib.hid o0
    have II := Lib.hid i0
    clear k1 k2 hbad hxl hxo hto o0 i0
    go_enter Tryd.func4, Tryd.ntmps4
    go_wp2_with fail
    refine HS.out.mono ?_
    rintro e w1 ⟨rfl, b1⟩
    have HB := Lib.hid b1
    clear b1
    go_wp2_with fail
    refine (HFEW.out _ HB.out).mono ?_
    rintro e w' ⟨rfl, rfl⟩
    go_wp2_with fail
    refine (HTX.out _ HB.out).mono ?_
    rintro e w' ⟨rfl, rfl⟩
    go_wp2_with fail
    refine (x_new HB.out).mono ?_
    rintro e w2 ⟨bd, o2, rfl, hx2, -, -⟩
    have H2 := Lib.hid hx2
    clear hx2 HB HFEW HTX HS
    go_wp2_with fail
    refine (open_at H2.out (by decide) (by decide) OO.out).mono ?_
    rintro e w3 ⟨o3, v3, rfl, hx3, hj3, -⟩
    rw [if_pos rfl] at hj3
    have H3 := Lib.hid hx3
    have J3 := Lib.hid hj3
    clear hx3 hj3 H2 OO
    go_wp2_with fail
    go_loopw [11, 13] (fun v i wr => ∃ (k : Nat) (own : Nat → Option Nat) (S : Ds) (jo : Option Js), k ≤ n ∧ i = .int .i64 k ∧ Hid (Dx w wr own bd S) ∧ Hid (JAt w wr own bd 0 v jo) ∧ Hid (Inv S jo k)) (fun _ i _ => n - (RowKit.intOf i).toNat)
    case atStart => exact ⟨0, o3, _, _, Nat.zero_le _, rfl, H3.out, J3.out, II.out⟩
    case round =>
      clear H3 J3 II
      obtain ⟨k, own, S, jo, hk, rfl, HD, HJ, HI⟩ := hrel
      by_cases hlt : k < n
      · obtain ⟨ad, x, rfl, hadb, hx, Ak, ck, g0, g1, g2, g3, hr⟩ := (HW.out.below HD.out.below).at_ hlt
        have hmem := List.mem_of_getElem? hx
        have HFX := Lib.hid (HFF.out x hmem)
        obtain ⟨hsx, hkp⟩ := HXO.out x hmem
        obtain ⟨t, ht⟩ : ∃ t, x.s.data.toList = t := ⟨_, rfl⟩
        have hxs : x.s = bStr t := by rw [← ht]; exact bStr_of' _
        have htl2 : t.length ≤ 200 := by have := bStr_size t; rw [← hxs] at this; omega
        rw [hxs] at g1
        have HK : Hid (Nums _ own Ak x.keep.length x.keep) := ⟨hr.more HD.out.below.size, fun hp ad' e => by
          obtain ⟨ad2, e1, h2, _⟩ := hr.2 hp
          rw [e] at e1
          cases e1
          cases e2 : own ad'.block with
          | none => rfl
          | some r => have := HD.out.new _ _ e2; omega, by omega⟩
        have hxn := HFX.out.n
        have HXN := Lib.hid hxn
        have hlt' : (k : Int) < (n : Int) := by omega
        have hk0 : 0 ≤ (k : Int) := by omega
        obtain ⟨d, hd⟩ : ∃ d, x.d = d := ⟨_, rfl⟩
        rw [hd] at g0
        clear hx hmem hr ht hxs hd hxn
        have hcs : d = 0 ∨ d = 1 ∨ d = 2 ∨ d = 4 ∨ (d ≠ 0 ∧ d ≠ 1 ∧ d ≠ 2 ∧ d ≠ 4) := by omega
        rcases hcs with rfl | rfl | rfl | rfl | ⟨d0, d1, d2, d4⟩
        · clear g2 g3 HK
          cases jo with
          | none =>
            obtain rfl : _ = Value.pointer none := HJ.out
            go_wp2_with fail
            go_roundw
            case rel => exact ⟨k + 1, own, S, none, by omega, by go_num, HD, rfl, HI.out.more (by omega)⟩
            case measure => simp [RowKit.intOf]; omega
          | some js =>
            obtain ⟨b, oj, rfl, hj, ap⟩ := HJ.out
            have HJ2 := Lib.hid hj
            have HAP := Lib.hid ap
            have hszj : (formsP js.list).length ≤ 16777216 := by have := (HI.out.list js rfl).1; omega
            have HA := Lib.hid (x_app HD.out hj ap (hT.on HD.out.below) hszj t (by omega))
            rcases HI.out.app (by omega) htl2 with ⟨hb, he⟩ | ⟨hb, S', he, hi'⟩
            · rw [he] at HA
              clear hj ap he hb HJ hszj
              go_wp2_with fail
              refine HA.out.mono ?_
              rintro e w4 ⟨o4, j4, rfl, hx4, hj4, ap4, -⟩
              have H4 := Lib.hid hx4
              have J4 : Hid (JAt w w4 o4 bd 0 (.pointer (some ⟨b, 0, none⟩)) (some js)) := ⟨b, j4, rfl, hj4, ap4⟩
              clear hx4 hj4 ap4 HA HD HJ2 HAP g0 g1
              go_wp2_with fail
              go_roundw
              case rel => exact ⟨k + 1, o4, S, some js, by omega, by go_num, H4, J4, HI.out.more (by omega)⟩
              case measure => simp [RowKit.intOf]; omega
            · rw [he] at HA
              have HI' := Lib.hid hi'
              clear hj ap he hb HJ hszj hi'
              go_wp2_with fail
              refine HA.out.mono ?_
              rintro e w4 ⟨o4, j4, rfl, hx4, hj4, ap4, -⟩
              have H4 := Lib.hid hx4
              have J4 : Hid (JAt w w4 o4 bd 0 (.pointer (some ⟨b, 0, none⟩)) (some ⟨js.list ++ [t], false⟩)) := ⟨b, j4, rfl, hj4, ap4⟩
              clear hx4 hj4 ap4 HA HD HJ2 HAP g0 g1
              go_wp2_with fail
              go_roundw
              case rel => exact ⟨k + 1, o4, S', some _, by omega, by go_num, H4, J4, HI'⟩
              case measure => simp [RowKit.intOf]; omega
        · clear g1 g2 g3 HK
          cases jo with
          | none =>
            obtain rfl : _ = Value.pointer none := HJ.out
            go_wp2_with fail
            go_roundw
            case rel => exact ⟨k + 1, own, S, none, by omega, by go_num, HD, rfl, HI.out.more (by omega)⟩
            case measure => simp [RowKit.intOf]; omega
          | some js =>
            obtain ⟨b, oj, rfl, hj, ap⟩ := HJ.out
            have HA := Lib.hid (x_jsync HD.out hj ap)
            have HI' := Lib.hid HI.out.sync.1
            generalize (jsyncP S 0 js).1 = S' at *
            generalize (jsyncP S 0 js).2.1 = js' at *
            generalize (jsyncP S 0 js).2.2 = r' at *
            clear hj ap HJ
            go_wp2_with fail
            refine HA.out.mono ?_
            rintro e w4 ⟨o4, j4, rfl, hx4, hj4, ap4, -⟩
            have H4 := Lib.hid hx4
            have J4 : Hid (JAt w w4 o4 bd 0 (.pointer (some ⟨b, 0, none⟩)) (some js')) := ⟨b, j4, rfl, hj4, ap4⟩
            clear hx4 hj4 ap4 HA HD g0
            go_wp2_with fail
            go_roundw
            case rel => exact ⟨k + 1, o4, S', some js', by omega, by go_num, H4, J4, HI'.out.more (by omega)⟩
            case measure => simp [RowKit.intOf]; omega
        · clear g1 g3 HK
          go_wp2_with fail
          refine (x_lose HD.out HXN.out).mono ?_
          rintro e w4 ⟨o4, rfl, hx4, t4⟩
          have H4 := Lib.hid hx4
          have J4 := Lib.hid (HJ.out.other hx4.below t4)
          clear hx4 t4 HD HJ g0 g2
          go_wp2_with fail
          go_roundw
          case rel => exact ⟨k + 1, o4, _, jo, by omega, by go_num, H4, J4, (HI.out.lose _).more (by omega)⟩
          case measure => simp [RowKit.intOf]; omega
        · clear g1 g2
          obtain ⟨S', ts, r', ho', hi'⟩ := HI.out.reopen HD.out.da.1 x.keep
          have HO' := Lib.hid ho'
          have HI' := Lib.hid hi'
          clear ho' hi'
          go_wp2_with fail
          refine (x_crash HD.out HK.out rfl).mono ?_
          rintro e w4 ⟨o4, rfl, hx4, -⟩
          have H4 := Lib.hid hx4
          clear hx4 HD HJ HK g0 g3
          go_wp2_with fail
          refine (x_start H4.out).mono ?_
          rintro e w5 ⟨o5, rfl, hx5, -⟩
          have H5 := Lib.hid hx5
          clear hx5 H4
          go_wp2_with fail
          refine (open_at H5.out (by decide) (by decide) HO'.out).mono ?_
          rintro e w6 ⟨o6, v6, rfl, hx6, hj6, -⟩
          have H6 := Lib.hid hx6
          have J6 := Lib.hid hj6
          clear hx6 hj6 H5
          go_wp2_with fail
          go_roundw
          case rel => exact ⟨k + 1, o6, S', _, by omega, by go_num, H6, J6, HI'.out.more (by omega)⟩
          case measure => simp [RowKit.intOf]; omega
        · have b0 : (d == 0) = false := by simpa using d0
          have b1 : (d == 1) = false := by simpa using d1
          have b2 : (d == 2) = false := by simpa using d2
          have b4 : (d == 4) = false := by simpa using d4
          clear g1 g2 g3 HK
          go_wp2_with fail
          go_roundw
          case rel => exact ⟨k + 1, own, S, jo, by omega, by go_num, HD, HJ, HI.out.more (by omega)⟩
          case measure => simp [RowKit.intOf]; omega
      · obtain rfl : k = n := by omega
        cases jo with
        | none =>
          obtain rfl : _ = Value.pointer none := HJ.out
          have HE := Lib.hid HD.out.below
          clear HD HJ HI
          go_wp2_with fail
          go_ret
          exact ⟨rfl, HE.out⟩
        | some js0 =>
          obtain ⟨b, oj, rfl, hj0, ap0⟩ := HJ.out
          have hl0 : js0.list.length ≤ 245 * 25 := by have h5 := (HI.out.list js0 rfl).1; have h6 := list_len js0.list; omega
          have HJ0 := Lib.hid hj0
          have HAP0 := Lib.hid ap0
          clear hj0 ap0 HJ
          go_wp2_with fail
          refine (x_all HJ0.out (by omega)).mono ?_
          rintro e w5 ⟨v5, rfl, ho5, b5, n5⟩
          obtain ⟨A5, c5, rfl, _, _⟩ := own_slice ho5
          have H5 := Lib.hid (HD.out.go b5)
          have J5 := Lib.hid (HJ0.out.past b5)
          have HO5 := Lib.hid ho5
          have HF5 : Hid (∀ g, (Value.slice A5 js0.list.length c5).ownBlock = some g → own g = none ∧ oj g = none ∧ w.heap.size ≤ g) := fun g e => ⟨own_none HD.out.da.inb (n5 g e), own_none HJ0.out.inb (n5 g e), Nat.le_trans HD.out.below.size (n5 g e)⟩
          have HI5 := Lib.hid (HI.out.more (show k ≤ 25 by omega))
          clear ho5 b5 n5 HD HJ0 HI
          go_wp2_with fail
          go_loopw [14, 15] (fun o i wr => ∃ (q : Nat) (own oj : Nat → Option Nat) (S : Ds) (js : Js) (A : Option Addr) (c : Nat), q ≤ n1 ∧ i = .int .i64 q ∧ o = .slice A js.list.length c ∧ Hid (Dx w wr own bd S) ∧ Hid (Jx w wr oj b bd 0 js) ∧ Hid (Apart own oj) ∧ Hid (Inv S (some js) (25 + q)) ∧ Hid (wr.ownsRow 0 9 1 (.slice A js.list.length c) js.list.length (js.list.map strV)) ∧ Hid (∀ g, (Value.slice A js.list.length c).ownBlock = some g → own g = none ∧ oj g = none ∧ w.heap.size ≤ g)) (fun _ i _ => n1 - (RowKit.intOf i).toNat)
          case atStart => exact ⟨0, own, oj, S, js0, A5, c5, Nat.zero_le _, rfl, rfl, H5.out, J5.out, HAP0.out, HI5.out, HO5.out, HF5.out⟩
          case round =>
            clear H5 J5 HAP0 HI5 HO5 HF5 hl0
            obtain ⟨q, own, oj, S, js, Aw, cw, hq, rfl, rfl, HD, HJ, HAP, HI, HO, HFR⟩ := hrel
            have hlj : js.list.length ≤ 245 * 40 := by have h5 := (HI.out.list js rfl).1; have h6 := list_len js.list; omega
            have hszj : (formsP js.list).length ≤ 16777216 := by have := (HI.out.list js rfl).1; omega
            by_cases hlt : q < n1
            · obtain ⟨t, hx⟩ : ∃ t, ss[q]? = some t := ⟨_, List.getElem?_eq_getElem (by rw [HSN.out]; exact hlt)⟩
              obtain ⟨ad, rfl, hadb, hc⟩ := HSS.out.2 (by omega)
              have g1 : wr.cell? (ad.add q) = some (.string (bStr t)) := (HD.out.below.cell (p := ad.add q) (by rw [block_of_add]; exact hadb)).trans (hc q (strV t) (by rw [List.getElem?_map, hx]; rfl))
              have htl2 := HTO.out t (List.mem_of_getElem? hx)
              have hlt' : (q : Int) < (n1 : Int) := by omega
              have hk0 : 0 ≤ (q : Int) := by omega
              have HC : Hid (∀ W', Below w.heap.size w W' → W'.cell? (ad.add q) = some (.string (bStr t))) := fun W' hb => (hb.cell (p := ad.add q) (by rw [block_of_add]; exact hadb)).trans (hc q (strV t) (by rw [List.getElem?_map, hx]; rfl))
              have HA := Lib.hid (x_app HD.out HJ.out HAP.out (hT.on HD.out.below) hszj t (by omega))
              clear hc hx
              rcases HI.out.app (by omega) htl2 with ⟨hb, he⟩ | ⟨hb, S', he, hi'⟩
              · rw [he] at HA
                clear he hb
                go_wp2_with fail
                refine HA.out.mono ?_
                rintro e w6 ⟨o6, j6, rfl, hx6, hj6, ap6, far6⟩
                obtain ⟨hr6, hf6⟩ := row_far (W := w) HO.out HFR.out far6
                have H6 := Lib.hid hx6
                have J6 := Lib.hid hj6
                have A6 := Lib.hid ap6
                have R6 := Lib.hid hr6
                have F6 := Lib.hid hf6
                clear hx6 hj6 ap6 far6 hr6 hf6 HA HD HJ HAP HO HFR g1 HC
                go_wp2_with fail
                go_roundw
                case rel => exact ⟨q + 1, o6, j6, S, js, Aw, cw, by omega, by go_num, rfl, H6, J6, A6, HI.out.more (by omega), R6, F6⟩
                case measure => simp [RowKit.intOf]; omega
              · rw [he] at HA
                have HI' := Lib.hid hi'
                clear he hb hi'
                go_wp2_with fail
                refine HA.out.mono ?_
                rintro e w6 ⟨o6, j6, rfl, hx6, hj6, ap6, far6⟩
                obtain ⟨hr6, hf6⟩ := row_far (W := w) HO.out HFR.out far6
                have g6 := HC.out w6 hx6.below
                have H6 := Lib.hid (hx6.alloc (.cells #[.string (bStr t)] 9))
                have J6 := Lib.hid (hj6.past ((Below.refl w6.heap.size w6).alloc (Nat.le_refl _) (.cells #[.string (bStr t)] 9)))
                have A6 := Lib.hid ap6
                have R6 := Lib.hid (own_below hr6 ((Below.refl w6.heap.size w6).alloc (Nat.le_refl _) (.cells #[.string (bStr t)] 9)) (fun g e => (hr6.lt g e).2))
                have F6 := Lib.hid hf6
                have N6 : Hid (∀ g, w6.heap.size ≤ g → o6 g = none ∧ j6 g = none ∧ w.heap.size ≤ g) := fun g hg => ⟨own_none hx6.da.inb hg, own_none hj6.inb hg, Nat.le_trans hx6.below.size hg⟩
                have HRA := Lib.hid (one_new w6 t)
                obtain ⟨i0, hi, hz0, hz1, hz2⟩ := info_parts infoStr
                clear hx6 hj6 ap6 far6 hr6 hf6 HA HD HJ HAP HO HFR g1 HC
                go_wp2_with (at_builtin; refine wpList_append_any _ rfl (.tmp 125) (.tmp 130) 32 rfl 0 9 i0 _ 1 16 Tryd.underlying32 hi hz0 hz1 hz2 rfl (by decide) (.slice Aw js.list.length cw) js.list.length (js.list.map strV) rfl R6.out _ (some ⟨w6.heap.size, 0, none⟩) 1 1 ([t].map strV) rfl HRA.out (strV_one _) (by unfold maxLen; omega) (by omega) (Nat.zero_le _) ?_; intro v' w' p1 p2 p3)
                obtain ⟨A7, c7, rfl, _, _⟩ := own_slice p1
                have H7 := Lib.hid (H6.out.grownN p2 (fun g e => ⟨(F6.out g e).1, (F6.out g e).2.2⟩))
                have J7 := Lib.hid (J6.out.grownN p2 (fun g e => ⟨(F6.out g e).2.1, (F6.out g e).2.2⟩))
                have F7 : Hid (∀ g, (Value.slice A7 (js.list.length + 1) c7).ownBlock = some g → o6 g = none ∧ j6 g = none ∧ w.heap.size ≤ g) := fun g e => by
                  rcases p3 with p3 | p3
                  · exact F6.out g (p3 ▸ e)
                  · rw [p3] at e; cases e; exact N6.out _ (by simp)
                have R7 : Hid (w'.ownsRow 0 9 1 (.slice A7 (js.list.length + 1) c7) (js.list.length + 1) ((js.list ++ [t]).map strV)) := by
                  rw [List.map_append]
                  exact p1
                clear p1 p2 p3 H6 J6 R6 F6 N6 HRA g6
                go_wp2_with fail
                go_roundw
                case rel => exact ⟨q + 1, o6, j6, S', ⟨js.list ++ [t], false⟩, A7, c7, by omega, by go_num, by show _ = Value.slice A7 (js.list ++ [t]).length c7; rw [List.length_append]; rfl, H7, J7, A6, HI', by
                  show Hid (w'.ownsRow 0 9 1 (.slice A7 (js.list ++ [t]).length c7) (js.list ++ [t]).length ((js.list ++ [t]).map strV))
                  rw [List.length_append]
                  exact R7.out, by
                  show Hid (∀ g, (Value.slice A7 (js.list ++ [t]).length c7).ownBlock = some g → _)
                  rw [List.length_append]
                  exact F7.out⟩
                case measure => simp [RowKit.intOf]; omega
            · obtain rfl : q = n1 := by omega
              obtain ⟨hi', hjl⟩ := HI.out.sync
              have h0l : ¬ 0 < S.lost → S.lost = 0 := fun hn => by have := HD.out.da.1.lost; omega
              have hsure := HI.out.sure h0l
              have HA := Lib.hid (x_jsync HD.out HJ.out HAP.out)
              have hlist := (HI.out.list js rfl).2.1
              have HLI := Lib.hid hlist
              generalize (jsyncP S 0 js).1 = S' at *
              generalize (jsyncP S 0 js).2.1 = js' at *
              generalize (jsyncP S 0 js).2.2 = r' at *
              have hl' : js'.list.length ≤ 1073741824 := by rw [hjl]; omega
              clear hi' h0l hlist
              by_cases hr0 : r' = 0
              · subst hr0
                obtain ⟨hdur, hjs⟩ := hsure rfl
                have HDU := Lib.hid hdur
                have HJS := Lib.hid hjs
                clear hdur hjs hsure hjl hl'
                go_wp2_with fail
                refine HA.out.mono ?_
                rintro e w6 ⟨o6, j6, rfl, hx6, hj6, ap6, far6⟩
                obtain ⟨hr6, hf6⟩ := row_far (W := w) HO.out HFR.out far6
                rw [HJS.out] at hj6
                have H6 := Lib.hid hx6
                have J6 := Lib.hid hj6
                have A6 := Lib.hid ap6
                have R6 := Lib.hid hr6
                have F6 := Lib.hid hf6
                clear hx6 hj6 ap6 far6 hr6 hf6 HA HD HJ HAP HO HFR
                go_wp2_with fail
                refine (x_lose H6.out (n := 0) (by unfold I64; omega)).mono ?_
                rintro e w7 ⟨o7, rfl, hx7, t7⟩
                obtain ⟨hj7, ap7⟩ := J6.out.other A6.out hx7.below t7
                have H7 : Hid (Dx w w7 o7 bd { S' with lost := max 0 0 }) := hx7
                have J7 : Hid (JAt w w7 o7 bd 0 (.pointer (some ⟨b, 0, none⟩)) (some ⟨js.list, false⟩)) := ⟨b, j6, rfl, hj7, ap7⟩
                have D7 : Hid (Dur { S' with lost := max 0 0 } js.list) := ⟨⟨HDU.out.calm.left, rfl, HDU.out.calm.down⟩, HDU.out.data, HDU.out.dur, HDU.out.pend⟩
                have W7 : Hid (Reads w7 w6.heap.size 1 Aw js.list.length (js.list.map strV)) := (Reads.of_own R6.out).free (own_free (P := fun g => o6 g = none) R6.out (fun g e => (F6.out g e).1)) t7
                have E7 : Hid (0 < js.list.length → ∀ ad, Aw = some ad → o7 ad.block = none) := own_free (P := fun g => o7 g = none) R6.out (fun g e => (t7.kept g (R6.out.lt g e).2).trans (F6.out g e).1)
                have G7 : Hid (0 < js.list.length → ∀ ad, Aw = some ad → ad.block < w6.heap.size) := own_free (P := fun g => g < w6.heap.size) R6.out (fun g e => (R6.out.lt g e).2)
                have hs7 : w6.heap.size ≤ w7.heap.size := t7.size
                clear hx7 t7 hj7 ap7 H6 J6 A6 R6 F6 HDU HJS
                go_wp2_with fail
                go_loopw [11, 17] (fun v i wr => ∃ (q : Nat) (own : Nat → Option Nat) (S : Ds), q ≤ 2 ∧ i = .int .i64 q ∧ Hid (Dx w wr own bd S) ∧ Hid (JAt w wr own bd 0 v (some ⟨js.list, false⟩)) ∧ Hid (Dur S js.list) ∧ Hid (Reads wr w6.heap.size 1 Aw js.list.length (js.list.map strV)) ∧ Hid (0 < js.list.length → ∀ ad, Aw = some ad → own ad.block = none) ∧ Hid (w6.heap.size ≤ wr.heap.size)) (fun _ i _ => 2 - (RowKit.intOf i).toNat)
                case atStart => exact ⟨0, o7, _, by omega, rfl, H7.out, J7.out, D7.out, W7.out, E7.out, hs7⟩
                case round =>
                  clear H7 J7 D7 W7 E7 hs7
                  obtain ⟨q2, own2, S2, hq2, rfl, HD, HJ, HDU, HWR, HER, HSZ⟩ := hrel
                  obtain ⟨b2, oj2, rfl, hj2, ap2⟩ := HJ.out
                  have HJ2 := Lib.hid hj2
                  clear hj2 ap2 HJ
                  by_cases hq : q2 < 2
                  · have hlt' : (q2 : Int) < 2 := by omega
                    go_wp2_with fail
                    refine (x_all HJ2.out (show js.list.length ≤ 1073741824 by omega)).mono ?_
                    rintro e w8 ⟨v8, rfl, ho8, b8, n8⟩
                    obtain ⟨A8, c8, rfl, _, _⟩ := own_slice ho8
                    have H8 := Lib.hid (HD.out.go b8)
                    have R8 := Lib.hid (Reads.of_own ho8)
                    have W8 := Lib.hid (HWR.out.below (b8.mono HSZ.out))
                    have S8 : Hid (w6.heap.size ≤ w8.heap.size) := Nat.le_trans HSZ.out b8.size
                    clear ho8 b8 n8 HD HJ2 HWR HSZ
                    go_wp2_with fail
                    refine (same_any A8 Aw js.list.length js.list.length c8 cw _ _ js.list js.list w8 R8.out W8.out (by omega) (by omega) (r := true) (by simp)).mono ?_
                    rintro e w9 ⟨rfl, hd9⟩
                    have H9 := Lib.hid (H8.out.go hd9.below)
                    have W9 := Lib.hid (W8.out.below (hd9.below.mono S8.out))
                    have S9 : Hid (w6.heap.size ≤ w9.heap.size) := Nat.le_trans S8.out hd9.below.size
                    clear hd9 H8 R8 W8 S8
                    have hcs : q2 = 0 ∨ q2 = 1 := by omega
                    rcases hcs with rfl | rfl
                    · obtain ⟨S3, ho3, hd3⟩ := HDU.out.again HLI.out one
                      have HO3 := Lib.hid ho3
                      have HD3 := Lib.hid hd3
                      have NK := Lib.hid (Nums.low H9.out H2R.out (by omega))
                      clear ho3 hd3 HDU
                      go_wp2_with fail
                      refine (x_crash H9.out NK.out rfl).mono ?_
                      rintro e wa ⟨oa, rfl, hxa, ta⟩
                      have HA2 := Lib.hid hxa
                      have WA := Lib.hid (W9.out.free HER.out ta)
                      have EA : Hid (0 < js.list.length → ∀ ad, Aw = some ad → oa ad.block = none) := fun hp ad e => (ta.kept _ (Nat.lt_of_lt_of_le (G7.out hp ad e) S9.out)).trans (HER.out hp ad e)
                      have SA : Hid (w6.heap.size ≤ wa.heap.size) := Nat.le_trans S9.out ta.size
                      clear hxa ta H9 W9 NK HER S9
                      go_wp2_with fail
                      refine (x_start HA2.out).mono ?_
                      rintro e wb ⟨ob, rfl, hxb, tb⟩
                      have HB2 := Lib.hid hxb
                      have WB := Lib.hid (WA.out.free EA.out tb)
                      have EB : Hid (0 < js.list.length → ∀ ad, Aw = some ad → ob ad.block = none) := fun hp ad e => (tb.kept _ (Nat.lt_of_lt_of_le (G7.out hp ad e) SA.out)).trans (EA.out hp ad e)
                      have SB : Hid (w6.heap.size ≤ wb.heap.size) := Nat.le_trans SA.out tb.size
                      clear hxb tb HA2 WA EA SA
                      go_wp2_with fail
                      refine (open_at HB2.out (by decide) (by decide) HO3.out).mono ?_
                      rintro e wd ⟨od, vd, rfl, hxd, hjd, td⟩
                      rw [if_pos rfl] at hjd
                      obtain ⟨bk, ok, rfl, hkd, apd⟩ := hjd
                      have HD4 := Lib.hid hxd
                      have JD : Hid (JAt w wd od bd 0 (.pointer (some ⟨bk, 0, none⟩)) (some ⟨js.list, false⟩)) := ⟨bk, ok, rfl, hkd, apd⟩
                      have WD := Lib.hid (WB.out.free EB.out td)
                      have ED : Hid (0 < js.list.length → ∀ ad, Aw = some ad → od ad.block = none) := fun hp ad e => (td.kept _ (Nat.lt_of_lt_of_le (G7.out hp ad e) SB.out)).trans (EB.out hp ad e)
                      have SD : Hid (w6.heap.size ≤ wd.heap.size) := Nat.le_trans SB.out td.size
                      clear hxd hkd apd td HB2 WB EB SB
                      go_wp2_with fail
                      go_roundw
                      case rel => exact ⟨1, od, S3, by omega, by go_num, HD4, JD, HD3, WD, ED, SD⟩
                      case measure => simp [RowKit.intOf]
                    · obtain ⟨S3, ho3, hd3⟩ := HDU.out.again HLI.out two
                      have HO3 := Lib.hid ho3
                      have HD3 := Lib.hid hd3
                      have NK := Lib.hid (Nums.low H9.out H3R.out (by omega))
                      clear ho3 hd3 HDU
                      go_wp2_with fail
                      refine (x_crash H9.out NK.out rfl).mono ?_
                      rintro e wa ⟨oa, rfl, hxa, ta⟩
                      have HA2 := Lib.hid hxa
                      have WA := Lib.hid (W9.out.free HER.out ta)
                      have EA : Hid (0 < js.list.length → ∀ ad, Aw = some ad → oa ad.block = none) := fun hp ad e => (ta.kept _ (Nat.lt_of_lt_of_le (G7.out hp ad e) S9.out)).trans (HER.out hp ad e)
                      have SA : Hid (w6.heap.size ≤ wa.heap.size) := Nat.le_trans S9.out ta.size
                      clear hxa ta H9 W9 NK HER S9
                      go_wp2_with fail
                      refine (x_start HA2.out).mono ?_
                      rintro e wb ⟨ob, rfl, hxb, tb⟩
                      have HB2 := Lib.hid hxb
                      have WB := Lib.hid (WA.out.free EA.out tb)
                      have EB : Hid (0 < js.list.length → ∀ ad, Aw = some ad → ob ad.block = none) := fun hp ad e => (tb.kept _ (Nat.lt_of_lt_of_le (G7.out hp ad e) SA.out)).trans (EA.out hp ad e)
                      have SB : Hid (w6.heap.size ≤ wb.heap.size) := Nat.le_trans SA.out tb.size
                      clear hxb tb HA2 WA EA SA
                      go_wp2_with fail
                      refine (open_at HB2.out (by decide) (by decide) HO3.out).mono ?_
                      rintro e wd ⟨od, vd, rfl, hxd, hjd, td⟩
                      rw [if_pos rfl] at hjd
                      obtain ⟨bk, ok, rfl, hkd, apd⟩ := hjd
                      have HD4 := Lib.hid hxd
                      have JD : Hid (JAt w wd od bd 0 (.pointer (some ⟨bk, 0, none⟩)) (some ⟨js.list, false⟩)) := ⟨bk, ok, rfl, hkd, apd⟩
                      have WD := Lib.hid (WB.out.free EB.out td)
                      have ED : Hid (0 < js.list.length → ∀ ad, Aw = some ad → od ad.block = none) := fun hp ad e => (td.kept _ (Nat.lt_of_lt_of_le (G7.out hp ad e) SB.out)).trans (EB.out hp ad e)
                      have SD : Hid (w6.heap.size ≤ wd.heap.size) := Nat.le_trans SB.out td.size
                      clear hxd hkd apd td HB2 WB EB SB
                      go_wp2_with fail
                      go_roundw
                      case rel => exact ⟨2, od, S3, by omega, by go_num, HD4, JD, HD3, WD, ED, SD⟩
                      case measure => simp [RowKit.intOf]
                  · have hq' : ¬ (q2 : Int) < 2 := by omega
                    go_wp2_with fail
                    refine (x_all HJ2.out (show js.list.length ≤ 1073741824 by omega)).mono ?_
                    rintro e w8 ⟨v8, rfl, ho8, b8, n8⟩
                    obtain ⟨A8, c8, rfl, _, _⟩ := own_slice ho8
                    have H8 := Lib.hid (HD.out.go b8)
                    have R8 := Lib.hid (Reads.of_own ho8)
                    have W8 := Lib.hid (HWR.out.below (b8.mono HSZ.out))
                    clear ho8 b8 n8 HD HJ2 HWR HSZ
                    go_wp2_with fail
                    refine (same_any A8 Aw js.list.length js.list.length c8 cw _ _ js.list js.list w8 R8.out W8.out (by omega) (by omega) (r := true) (by simp)).mono ?_
                    rintro e w9 ⟨rfl, hd9⟩
                    have HE := Lib.hid (H8.out.go hd9.below).below
                    clear hd9 H8 R8 W8
                    go_wp2_with fail
                    go_ret
                    exact ⟨rfl, HE.out⟩
              · have hb0 : (r' != 0) = true := by simpa using hr0
                clear hsure
                go_wp2_with fail
                refine HA.out.mono ?_
                rintro e w6 ⟨o6, j6, rfl, hx6, hj6, ap6, far6⟩
                obtain ⟨hr6, hf6⟩ := row_far (W := w) HO.out HFR.out far6
                have H6 := Lib.hid hx6
                have J6 := Lib.hid hj6
                have R6 := Lib.hid (Reads.of_own hr6)
                clear hx6 hj6 ap6 far6 hr6 hf6 HA HD HJ HAP HO HFR
                go_wp2_with fail
                refine (x_all J6.out hl').mono ?_
                rintro e w8 ⟨v8, rfl, ho8, b8, n8⟩
                obtain ⟨A8, c8, rfl, _, _⟩ := own_slice ho8
                have H8 := Lib.hid (H6.out.go b8)
                have R8 : Hid (Reads w8 w8.heap.size 1 A8 js'.list.length (js'.list.map strV)) := Reads.of_own ho8
                have W8 := Lib.hid (R6.out.below b8)
                have HJL := Lib.hid hjl
                clear ho8 b8 n8 H6 J6 R6 hjl
                go_wp2_with fail
                refine (same_any A8 Aw js'.list.length js.list.length c8 cw _ _ js'.list js.list w8 R8.out W8.out (by omega) (by omega) (r := true) (by rw [HJL.out]; simp)).mono ?_
                rintro e w9 ⟨rfl, hd9⟩
                have HE := Lib.hid (H8.out.go hd9.below).below
                clear hd9 H8 R8 W8
                go_wp2_with fail
                go_ret
                exact ⟨rfl, HE.out⟩
end Go.Proofs.YtjlndgkahmcfdaaDoor
