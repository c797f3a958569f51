/- The walk of lexer's Scan. Conditions: the variables that the calls read; the length of the text. -/
import Derived.Test.YtkhkdgkafocpoaaDoorL7
import Derived.Deep.Draws
namespace Go.Proofs.YtkhkdgkafocpoaaDoor
set_option maxRecDepth 8000
open Go.RowKit

theorem own_below {w w' : World} {base : Nat} {e : TypeId} {size n : Nat} {v : Value} {xs : List Value} {B : Nat} (h : w.ownsRow base e size v n xs) (hb : Below B w w') (hB : ∀ g, v.ownBlock = some g → g < B) : w'.ownsRow base e size v n xs := by
  refine ⟨h.1, ?_⟩
  rcases h.2 with hn | ⟨g, cap, cur, rfl, hb1, hgg, rest⟩
  · exact .inl hn
  · exact .inr ⟨g, cap, cur, rfl, hb1, (hb.block g (hB g rfl)).trans hgg, rest⟩
theorem own_on {w w' : World} {base : Nat} {e : TypeId} {size n : Nat} {v : Value} {xs : List Value} (h : w.ownsRow base e size v n xs) (hb : Below w.heap.size w w') : w'.ownsRow base e size v n xs :=
  own_below h hb (fun g e => (h.lt g e).2)
theorem own_slice {w : World} {base : Nat} {e : TypeId} {size n : Nat} {v : Value} {xs : List Value} (h : w.ownsRow base e size v n xs) : ∃ A c, v = .slice A n c ∧ n ≤ c ∧ c ≤ maxLen := by
  rcases h.2 with ⟨rfl, rfl⟩ | ⟨g, cap, cur, rfl, _, _, h1, h2, _⟩
  · exact ⟨_, _, rfl, Nat.le_refl _, by unfold maxLen; omega⟩
  · exact ⟨_, _, rfl, h1, h2⟩
def tok1 (t : Tok) : List Value := [.int .i64 t.kind, .string ⟨t.text.toArray⟩, .int .i64 t.n, .int .i64 (t.pos : Int)]
def tokC (ts : List Tok) : List Value := ts.flatMap tok1
theorem tokC_len (ts : List Tok) : (tokC ts).length = ts.length * 4 := by
  induction ts with
  | nil => rfl
  | cons t ts ih =>
    have : tokC (t :: ts) = tok1 t ++ tokC ts := rfl
    rw [this, List.length_append, ih, List.length_cons]
    show 4 + _ = _
    omega
theorem tokC_app (ts us : List Tok) : tokC (ts ++ us) = tokC ts ++ tokC us := List.flatMap_append
theorem tokC_one (ts : List Tok) : ∀ u ∈ tokC ts, u.oneCell' = true := by
  intro u hu
  obtain ⟨t, _, h⟩ := List.mem_flatMap.1 hu
  simp [tok1] at h
  rcases h with rfl | rfl | rfl | rfl <;> rfl
theorem infoTok : (Tryd.prog.info? 25).map (fun i => (i.zero, i.size, i.bytes)) = some (some (.agg #[.int .i64 0, .string ⟨#[]⟩, .int .i64 0, .int .i64 0]), 4, 40) := by kernel_rfl
/-- How Scan ends. -/
def ScanEnd (r : Res) (w : World) (e : Ending) (w' : World) : Prop :=
  (match r with
    | .ok ts => ∃ A c, e = .returned (.tuple #[.slice A ts.length c, .int .i64 0, .int .i64 0]) ∧ w'.ownsRow w.heap.size 25 4 (.slice A ts.length c) ts.length (tokC ts)
    | .err a x => e = .returned (.tuple #[.slice none 0 0, .int .i64 (a : Int), .int .i64 x])) ∧ Below w.heap.size w w'
theorem ScanEnd.no {r : Res} {a : Nat} {x : Int} {w w' : World} {e : Ending} (h : Hid (r = .err a x)) (he : e = .returned (.tuple #[.slice none 0 0, .int .i64 (a : Int), .int .i64 x])) (hb : Below w.heap.size w w') : ScanEnd r w e w' := by
  refine ⟨?_, hb⟩
  rw [h.out]; exact he
theorem ScanEnd.yes {r : Res} {ts : List Tok} {A : Option Addr} {n c : Nat} {w w' : World} {e : Ending} (h : Hid (r = .ok ts)) (hn : n = ts.length) (he : e = .returned (.tuple #[.slice A n c, .int .i64 0, .int .i64 0])) (ho : w'.ownsRow w.heap.size 25 4 (.slice A n c) n (tokC ts)) (hb : Below w.heap.size w w') : ScanEnd r w e w' := by
  subst hn
  refine ⟨?_, hb⟩
  rw [h.out]; exact ⟨A, c, he, ho⟩
def scanT (l : List UInt8) : Res := if 4000 < l.length then .err 0 6 else scanP 0 l
theorem extract_from (s : ByteArray) (k : Nat) : (s.extract k s.size).data.toList = s.data.toList.drop k := Lib.extract_to_end s k
theorem extract_from_size {s : ByteArray} {k : Nat} : (s.extract k s.size).size = s.size - k := by
  have h : (s.extract k s.size).data.toList.length = (s.extract k s.size).size := by simp
  have h2 : s.data.toList.length = s.size := by simp
  rw [extract_from, List.length_drop] at h
  omega
/-- first, where there is an error, and where there is a token. -/
theorem first_bad {s : ByteArray} {w : World} {l : List UInt8} {x : Int} (hs : s.size ≤ 268435456) (h0 : 0 < s.size) (hE : Env w) (hl : s.data.toList = l) (h : firstP l = .bad x) :
    Calls Tryd.prog 26 #[.string s] w fun e w' => e = .returned (.tuple #[.agg #[.int .i64 0, .string ⟨#[]⟩, .int .i64 0, .int .i64 0], .int .i64 0, .int .i64 x]) ∧ Below w.heap.size w w' := by
  subst hl
  have := first_any s w hs h0 hE
  rw [h] at this
  exact this
theorem first_tok {s : ByteArray} {w : World} {l : List UInt8} {t : Tok} {n : Nat} (hs : s.size ≤ 268435456) (h0 : 0 < s.size) (hE : Env w) (hl : s.data.toList = l) (h : firstP l = .tok t n) :
    Calls Tryd.prog 26 #[.string s] w fun e w' => e = .returned (.tuple #[.agg #[.int .i64 t.kind, .string ⟨t.text.toArray⟩, .int .i64 t.n, .int .i64 0], .int .i64 (n : Int), .int .i64 0]) ∧ Below w.heap.size w w' := by
  subst hl
  have := first_any s w hs h0 hE
  rw [h] at this
  exact this
set_option maxHeartbeats 4000000 in
theorem Scan_any (s : ByteArray) (w : World) (hE : Hid (Env w)) :
    Calls Tryd.prog 11 #[.string s] w (ScanEnd (scanT s.data.toList) w) := by
  have hl : s.data.toList.length = s.size := by simp
  have HB0 : Hid (Below w.heap.size w w) := Below.refl _ _
  by_cases h4 : (4000 : Int) < (s.size : Int)
  · have hres : Hid (scanT s.data.toList = .err 0 6) := by
      show _ = _
      rw [scanT, hl, if_pos (by omega)]
    clear hl
    go_enter Tryd.func11, Tryd.ntmps11
    go_wp2_with fail
    go_ret3
    exact ScanEnd.no hres rfl HB0.out
  · have hs : s.size ≤ 4000 := by omega
    have hres : Hid (scanT s.data.toList = scanP 0 s.data.toList) := by
      show _ = _
      rw [scanT, hl, if_neg (by omega)]
    have hgl := gapP_le s.data.toList false
    rw [hl] at hgl
    obtain ⟨i0, hi, hz0, hz1, hz2⟩ := info_parts infoTok
    have C0 := Lib.hid (gap_any s w (by omega))
    have hst : Hid (scanP 0 s.data.toList = (scanP (gapP false s.data.toList) (s.data.toList.drop (gapP false s.data.toList))).pre [] ∧ gapP false (s.data.toList.drop (gapP false s.data.toList)) = 0) :=
      ⟨by rw [Res.pre_nil, scanP_gap0 0, Nat.zero_add], gapP_drop _ _⟩
    obtain ⟨k0, hk0⟩ : ∃ k0, gapP false s.data.toList = k0 := ⟨_, rfl⟩
    rw [hk0] at hst hgl C0
    clear hl hk0 h4
    go_enter Tryd.func11, Tryd.ntmps11
    go_wp2_with fail
    refine C0.out.mono ?_
    rintro e w' ⟨rfl, rfl⟩
    go_wp2_with fail
    go_loopw [5, 6] (fun v i wr => ∃ (k n : Nat) (ts : List Tok) (A : Option Addr) (c : Nat), k ≤ s.size ∧ n ≤ k ∧ i = .int .i64 k ∧ v = .slice A n c ∧ Hid (n = ts.length) ∧ Hid (wr.ownsRow w.heap.size 25 4 (.slice A n c) n (tokC ts)) ∧ Hid (Below w.heap.size w wr) ∧ Hid (scanP 0 s.data.toList = (scanP k (s.data.toList.drop k)).pre ts ∧ gapP false (s.data.toList.drop k) = 0)) (fun _ i _ => s.size - (RowKit.intOf i).toNat)
    case atStart => exact ⟨k0, 0, [], none, 0, hgl, Nat.zero_le _, rfl, rfl, rfl, World.ownsRow_nil _ _ _ _, HB0.out, hst⟩
    case round =>
      clear hst hgl C0 HB0
      obtain ⟨k, n, ts, A, c, hk, hnk, rfl, rfl, HN, HO, HB, HS⟩ := hrel
      by_cases hlt : k < s.size
      · have hkc : (k : Int) < (s.size : Int) := by omega
        have hes : (s.extract k s.size).size ≤ 268435456 := by rw [extract_from_size]; omega
        have he0 : 0 < (s.extract k s.size).size := by rw [extract_from_size]; omega
        have hne : s.data.toList.drop k ≠ [] := by rw [str_drop hlt]; simp
        cases hf : firstP (s.data.toList.drop k) with
        | bad x =>
          have hbad := firstP_bad hf
          have hxx : (x != 0) = true := by rcases hbad with rfl | rfl | rfl <;> rfl
          have C := Lib.hid (first_bad hes he0 (hE.out.on HB.out) (extract_from s k) hf)
          have hr2 : Hid (scanT s.data.toList = .err k x) := by
            show _ = _
            rw [hres.out, HS.out.1, scanP_bad k hne HS.out.2 hf]; rfl
          clear hf hbad hne
          go_wp2_with fail
          refine C.out.mono ?_
          rintro e w2 ⟨rfl, hb⟩
          have HB2 : Hid (Below w.heap.size w w2) := HB.out.trans (hb.mono HB.out.size)
          clear hb
          go_wp2_with fail
          go_ret3
          exact ScanEnd.no hr2 rfl (HB2.out.alloc HB2.out.size _)
        | tok t m =>
          have htk := firstP_tok hf
          have hm1 := htk.1
          have hm2 := htk.2.1
          rw [List.length_drop, show s.data.toList.length = s.size by simp] at hm2
          have C := Lib.hid (first_tok hes he0 (hE.out.on HB.out) (extract_from s k) hf)
          have HS2 : Hid (scanP 0 s.data.toList = (scanP (k + m) (s.data.toList.drop (k + m))).pre (ts ++ [{ t with pos := k }])) := by
            show _ = _
            rw [HS.out.1, scanP_tok k hf, Res.pre_pre, List.drop_drop]
          clear hf htk hne
          go_wp2_with fail
          refine C.out.mono ?_
          rintro e w2 ⟨rfl, hb⟩
          have HB2 : Hid (Below w.heap.size w w2) := HB.out.trans (hb.mono HB.out.size)
          have HO2 := Lib.hid (own_on HO.out hb)
          clear hb
          have HB3 := Lib.hid ((HB2.out.alloc HB2.out.size (.cells #[.int .i64 t.kind, .string ⟨t.text.toArray⟩, .int .i64 t.n, .int .i64 (k : Int)] 25)).alloc (by have := HB2.out.size; simp; omega) (.cells #[.int .i64 t.kind, .string ⟨t.text.toArray⟩, .int .i64 t.n, .int .i64 (k : Int)] 25))
          have HO3 := Lib.hid ((HO2.out.alloc (.cells #[.int .i64 t.kind, .string ⟨t.text.toArray⟩, .int .i64 t.n, .int .i64 (k : Int)] 25)).alloc (.cells #[.int .i64 t.kind, .string ⟨t.text.toArray⟩, .int .i64 t.n, .int .i64 (k : Int)] 25))
          have HR3 : Hid (Reads ((w2.alloc (.cells #[.int .i64 t.kind, .string ⟨t.text.toArray⟩, .int .i64 t.n, .int .i64 (k : Int)] 25)).alloc (.cells #[.int .i64 t.kind, .string ⟨t.text.toArray⟩, .int .i64 t.n, .int .i64 (k : Int)] 25)) (w2.heap.size + 2) 4 (some ⟨w2.heap.size + 1, 0, none⟩) 1 (tokC [{ t with pos := k }])) := by
            refine ⟨rfl, fun _ => ⟨_, rfl, by simp, fun j u hj => ?_⟩⟩
            have hc := cell_of_row ((w2.alloc (.cells #[.int .i64 t.kind, .string ⟨t.text.toArray⟩, .int .i64 t.n, .int .i64 (k : Int)] 25)).alloc (.cells #[.int .i64 t.kind, .string ⟨t.text.toArray⟩, .int .i64 t.n, .int .i64 (k : Int)] 25)) (w2.alloc (.cells #[.int .i64 t.kind, .string ⟨t.text.toArray⟩, .int .i64 t.n, .int .i64 (k : Int)] 25)).heap.size j _ _ (0, 0) (heap_alloc_new (w2.alloc (.cells #[.int .i64 t.kind, .string ⟨t.text.toArray⟩, .int .i64 t.n, .int .i64 (k : Int)] 25)) _)
            rw [show (Addr.mk (w2.heap.size + 1) 0 none).add j = ⟨(w2.alloc (.cells #[.int .i64 t.kind, .string ⟨t.text.toArray⟩, .int .i64 t.n, .int .i64 (k : Int)] 25)).heap.size, j, none⟩ from by simp [Addr.add]; omega, hc]
            simpa [tokC, tok1] using hj
          have HOX := Lib.hid (tokC_one [{ t with pos := k }])
          have hww : w.heap.size ≤ w2.heap.size := HB2.out.size
          have CG := Lib.hid (fun w => gap_any (s.extract (k + m) s.size) w (by rw [extract_from_size]; omega))
          have hgl := gapP_le (s.data.toList.drop (k + m)) false
          rw [List.length_drop, show s.data.toList.length = s.size by simp] at hgl
          have HS3 : Hid (scanP 0 s.data.toList = (scanP (k + m + gapP false (s.data.toList.drop (k + m))) (s.data.toList.drop (k + m + gapP false (s.data.toList.drop (k + m))))).pre (ts ++ [{ t with pos := k }]) ∧ gapP false (s.data.toList.drop (k + m + gapP false (s.data.toList.drop (k + m)))) = 0) := by
            refine ⟨?_, ?_⟩
            · rw [HS2.out, scanP_gap0 (k + m), List.drop_drop]
            · have := gapP_drop (s.data.toList.drop (k + m)) false
              rwa [List.drop_drop] at this
          obtain ⟨g, hg⟩ : ∃ g, gapP false (s.data.toList.drop (k + m)) = g := ⟨_, rfl⟩
          rw [extract_from, hg] at CG
          rw [hg] at hgl HS3
          clear HO2 HB2 hg HS2
          go_wp2_with (at_builtin; refine wpList_append_any _ rfl (.tmp 39) (.tmp 41) 22 rfl w.heap.size 25 i0 _ 4 40 Tryd.underlying22 hi hz0 hz1 hz2 rfl (by decide) (.slice A n c) n _ rfl HO3.out _ (some ⟨w2.heap.size + 1, 0, none⟩) 1 1 (tokC [{ t with pos := k }]) rfl HR3.out HOX.out (by unfold maxLen; omega) (by omega) (by simp; omega) ?_; intro v' w' p1 p2 p3)
          obtain ⟨A5, c5, rfl, _, _⟩ := own_slice p1
          have HO5 : Hid (w'.ownsRow w.heap.size 25 4 (.slice A5 (n + 1) c5) (n + 1) (tokC (ts ++ [{ t with pos := k }]))) := by
            rw [tokC_app]
            exact p1
          have HN5 : Hid (n + 1 = (ts ++ [{ t with pos := k }]).length) := by
            show _ = _
            rw [List.length_append, HN.out]; rfl
          have HB5 : Hid (Below w.heap.size w w') := HB3.out.grown p2 (by simp; omega) (fun g e => (HO3.out.lt g e).1)
          clear p1 p2 p3 HO3 HR3 HB3 HN HO HB HS
          go_wp2_with fail
          refine (CG.out _).mono ?_
          rintro e w5 ⟨rfl, rfl⟩
          go_wp2_with fail
          go_roundw
          case rel => exact ⟨k + m + g, n + 1, ts ++ [{ t with pos := k }], A5, c5, by omega, by omega, by go_num, rfl, HN5, HO5, HB5, HS3⟩
          case measure => simp [RowKit.intOf]; omega
      · obtain rfl : k = s.size := by omega
        have hr2 : Hid (scanT s.data.toList = .ok ts) := by
          show _ = _
          rw [hres.out, HS.out.1, str_end, scanP_nil]
          show Res.ok (ts ++ []) = _
          rw [List.append_nil]
        go_wp2_with fail
        go_ret3
        exact ScanEnd.yes hr2 HN.out rfl HO.out HB.out
end Go.Proofs.YtkhkdgkafocpoaaDoor
