/- The walks of put at strings and at slices of bytes. No condition but sizes, and that something is put. -/
import Derived.Test.YtjlndgkahmcfdaaDoorUt
namespace Go.Proofs.YtjlndgkahmcfdaaDoor
set_option maxRecDepth 8000
open Go.RowKit Go.ChangeMaps

section
variable {P : Program} {w : World}
/-- copy of a string's bytes into a row. -/
theorem run_copy_string (dT sT ty elem : TypeId) (g o dLen dCap : Nat) (s : ByteArray) (cur : Array Value) (t : TypeId)
    (hu : P.underlying dT = some (.slice elem)) (hs : (P.info? elem).map (·.size) = some 1)
    (hg : w.heap[g]? = some (.cells cur t (0, 0))) (hn : s.size ≤ dLen) (hfit : o + s.size ≤ cur.size) :
    (Builtin.copy_ #[dT, sT] ty #[.slice (some ⟨g, o, none⟩) dLen dCap, .string s]).run P w =
      .ok (goInt s.size) (w.setRow g (cur.toList.take o ++ bv s.data.toList ++ cur.toList.drop (o + (bv s.data.toList).length)).toArray) := by
  have hl : (bv s.data.toList).length = s.size := by rw [bv_len]; rfl
  have hst := run_storeCells_at P g o t (bv s.data.toList) 0 cur w hg (by rw [hl]; simpa using hfit) (bv_one _)
  simp only [Nat.add_zero] at hst
  have htk : List.take s.size (List.map (fun b : UInt8 => Value.int .u8 (b.toNat : Int)) s.data.toList) = bv s.data.toList := List.take_of_length_le (by rw [List.length_map]; exact Nat.le_refl _)
  have hmin : Nat.min s.size dLen = s.size := Nat.min_eq_left hn
  cases hq : P.info? elem with
  | none => simp [hq] at hs
  | some i =>
    simp [Builtin.copy_, run_underlying hu, Builtin.lenOf, Builtin.firstCells, sizeOf, typeInfo, hq, hmin, htk, hst]

theorem wp_copy_run {o : Oper} {a : Act} {K : Act → World → Prop} {Q : Exit → Act → World → Prop} (s x : Operand) (t tn : TypeId)
    (ho : o.op = .call { callee := .builtin .copy, args := #[s, x], argTypes := #[t, tn] }) (vs vx : Value) (hs : a.eval s = vs) (hx : a.eval x = vx)
    (v' : Value) (w' : World) (hr : (Builtin.copy_ #[t, tn] o.type #[vs, vx]).run P w = .ok v' w') (h : K (a.put o.dst v') w') : o.wp P a w K Q := by
  unfold Oper.wp execOp
  simp only [ho, resolve, invoke, builtin, Sem.run_bind, Sem.run_pure, Result.andThen_ok, List.map_toArray, List.map_cons, List.map_nil, hs, hx, hr]
  exact h
theorem wpList_copy_run {ops : Array Oper} {rest : List Oper} {o : Oper} {a : Act} {Q : Exit → Act → World → Prop} (hgd : o.guard = none) (s x : Operand) (t tn : TypeId)
    (ho : o.op = .call { callee := .builtin .copy, args := #[s, x], argTypes := #[t, tn] }) (vs vx : Value) (hs : a.eval s = vs) (hx : a.eval x = vx)
    (v' : Value) (w' : World) (hr : (Builtin.copy_ #[t, tn] o.type #[vs, vx]).run P w = .ok v' w') (h : wpList P ops Q rest (a.put o.dst v') w') : wpList P ops Q (o :: rest) a w :=
  wpList_plain hgd fun _ hK => wp_copy_run s x t tn ho vs vx hs hx v' w' hr (hK _ _ h)

theorem splice_take (cur cs : List Value) (o n : Nat) (h : o + cs.length ≤ n) (hn : n ≤ cur.length) :
    (cur.take o ++ cs ++ cur.drop (o + cs.length)).take n = (cur.take n).take o ++ (cs ++ (cur.take n).drop (o + cs.length)) := by
  apply List.ext_getElem?
  intro j
  rw [List.getElem?_take, List.append_assoc]
  have h1 : (cur.take o).length = o := by rw [List.length_take]; omega
  have h2 : ((cur.take n).take o).length = o := by rw [List.length_take, List.length_take]; omega
  rcases Nat.lt_or_ge j o with hj | hj
  · rw [if_pos (by omega), List.getElem?_append_left (by omega), List.getElem?_append_left (by omega), List.getElem?_take, if_pos hj, List.getElem?_take, if_pos hj, List.getElem?_take, if_pos (by omega)]
  · rw [List.getElem?_append_right (l₁ := cur.take o) (by omega), h1, List.getElem?_append_right (l₁ := (cur.take n).take o) (by omega), h2]
    rcases Nat.lt_or_ge (j - o) cs.length with hk | hk
    · rw [if_pos (by omega), List.getElem?_append_left hk, List.getElem?_append_left hk]
    · rw [List.getElem?_append_right hk, List.getElem?_append_right hk, List.getElem?_drop, List.getElem?_drop, List.getElem?_take, show o + cs.length + (j - o - cs.length) = j from by omega]

/-- A row, behind a copy into the elements that it has. -/
theorem row_copied {e : TypeId} {g n cap : Nat} {xs cs : List Value} {o : Nat} (h : w.ownsRow 0 e 1 (.slice (some ⟨g, 0, none⟩) n cap) n xs) (ho : o + cs.length ≤ n) :
    ∃ cur : Array Value, w.heap[g]? = some (.cells cur e (0, 0)) ∧ n ≤ cur.size ∧
      (w.setRow g (cur.toList.take o ++ cs ++ cur.toList.drop (o + cs.length)).toArray).ownsRow 0 e 1 (.slice (some ⟨g, 0, none⟩) n cap) n (xs.take o ++ (cs ++ xs.drop (o + cs.length))) ∧
      w.grownBy (w.setRow g (cur.toList.take o ++ cs ++ cur.toList.drop (o + cs.length)).toArray) (some g) := by
  rcases h.2 with ⟨hv, _⟩ | ⟨g', cap', cur, hv, hb, hg, h1, h2, h3, h4⟩
  · cases hv
  · injection hv with ha hl hc
    injection ha with ha
    injection ha with ha
    subst ha
    subst hc
    simp only [Nat.mul_one] at h3 h4
    have hxl : xs.length = n := by simpa using h.1
    have hcl : cur.toList.length = cap := by simpa using h3
    refine ⟨cur, hg, by omega, ⟨?_, .inr ⟨g, cap, _, rfl, hb, setRow_heap w g cur _ e _ hg, h1, h2, ?_, ?_⟩⟩, ⟨rfl, rfl, rfl, by simp, fun k _ hk => setRow_other w g k _ (fun e => hk (by rw [e]))⟩⟩
    · simp
      omega
    · simp only [List.size_toArray, List.length_append, List.length_take, List.length_drop, hcl]
      omega
    · simp only [Nat.mul_one]
      rw [splice_take _ _ _ _ ho (by omega), h4]
end

theorem putB_bv (l s : List UInt8) (a : Nat) : bv (putB l a s) = (bv (extB l (a + s.length))).take a ++ (bv s ++ (bv (extB l (a + s.length))).drop (a + (bv s).length)) := by
  unfold putB
  rw [bv_app, bv_app, bv_take, bv_drop, bv_len]

/-- A slice that has an element begins at the head of a block. -/
theorem own_some {w : World} {base : Nat} {e : TypeId} {size n m : Nat} {v : Value} {xs : List Value} (h : w.ownsRow base e size v n xs) (hm : n = m) (hn : 0 < m) : ∃ g c, v = .slice (some ⟨g, 0, none⟩) m c ∧ m ≤ c ∧ c ≤ maxLen := by
  subst hm
  rcases h.2 with ⟨_, h0⟩ | ⟨g, cap, cur, rfl, _, _, h1, h2, _⟩
  · omega
  · exact ⟨g, cap, rfl, h1, h2⟩

set_option maxRecDepth 4000 in
set_option maxHeartbeats 1000000 in
theorem putS_any (v : Value) (n a : Nat) (l : List UInt8) (s : ByteArray) (w : World) (h : w.ownsRow 0 5 1 v n (bv l)) (hn : n ≤ 33554432) (ha : a + s.size ≤ 33554432) (hs : 0 < s.size) :
    Calls Tryd.prog 96 #[v, .int .i64 a, .string s] w (NewRow w v (max n (a + s.size)) (putB l a s.data.toList)) := by
  have hsl : s.data.toList.length = s.size := rfl
  have HSL := Lib.hid hsl
  clear hsl
  go_enter Tryd.func96, Tryd.ntmps96
  go_wp2_with fail
  rw [show ((a : Int) + (s.size : Int)) = ((a + s.size : Nat) : Int) from by omega]
  refine (extend_any v n (a + s.size) l _ h (by omega) (by omega)).mono ?_
  rintro e w1 ⟨v1, rfl, hown, hgr, hb⟩
  obtain ⟨g, c, rfl, hc1, hc2⟩ := own_some hown rfl (by omega)
  have HO := Lib.hid hown
  have HG := Lib.hid hgr
  have HB := Lib.hid hb
  clear hown hgr hb
  generalize hm : max n (a + s.size) = m at *
  have hm1 : a + s.size ≤ m := by omega
  have hm2 : m ≤ 33554432 := by omega
  have HM := Lib.hid hm
  clear hm
  obtain ⟨cur, hcur, hcs, hr1, hr2⟩ := row_copied (cs := bv s.data.toList) (o := a) HO.out (by rw [bv_len, HSL.out]; exact hm1)
  have hrun := run_copy_string (P := Tryd.prog) (w := w1) 58 9 3 5 g a (m - a) (c - a) s cur 5 Tryd.underlying58 (by kernel_rfl) hcur (by omega) (by omega)
  have hend : NewRow w v m (putB l a s.data.toList) (.returned (.slice (some ⟨g, 0, none⟩) m c)) (w1.setRow g (cur.toList.take a ++ bv s.data.toList ++ cur.toList.drop (a + (bv s.data.toList).length)).toArray) := by
    refine ⟨_, rfl, ?_, ?_, HB.out⟩
    · rw [putB_bv, HSL.out]
      exact hr1
    · refine World.grownBy.andThen HG.out hr2 (fun j hj => ?_)
      cases hj
      rcases HB.out with h1 | ⟨g', h1, h2⟩
      · exact .inr (by rw [← h1]; rfl)
      · exact .inl (by have h3 : g = g' := (by simpa [Value.ownBlock] using h2); show _ ≤ g; omega)
  generalize w1.setRow g (cur.toList.take a ++ bv s.data.toList ++ cur.toList.drop (a + (bv s.data.toList).length)).toArray = w2 at hend hrun
  have HE := Lib.hid hend
  have HR := Lib.hid hrun
  clear hend hr1 hr2 hrun hcur hcs h
  have hac : (a : Int) ≤ (m : Int) := by omega
  have hac2 : a < c := by omega
  go_wp2_with (refine wpList_copy_run rfl (.tmp 15) (.tmp 16) 58 9 rfl _ _ rfl rfl _ _ HR.out ?_)
  go_ret
  exact HE.out

set_option maxRecDepth 4000 in
set_option maxHeartbeats 1000000 in
theorem putB_any (v : Value) (n a : Nat) (l s : List UInt8) (k c2 : Nat) (ad : Addr) (w : World) (h : w.ownsRow 0 5 1 v n (bv l)) (hn : n ≤ 33554432) (ha : a + k ≤ 33554432) (hs : 0 < k) (hk : s.length = k)
    (hsrc : ∀ j u, (bv s)[j]? = some u → w.cell? (ad.add j) = some u) (hne : v.ownBlock ≠ some ad.block) :
    Calls Tryd.prog 95 #[v, .int .i64 a, .slice (some ad) k c2] w (NewRow w v (max n (a + k)) (putB l a s)) := by
  have HSL := Lib.hid hk
  have HSRC := Lib.hid hsrc
  have HNE := Lib.hid hne
  clear hk hsrc hne
  go_enter Tryd.func95, Tryd.ntmps95
  go_wp2_with fail
  rw [show ((a : Int) + (k : Int)) = ((a + k : Nat) : Int) from by omega]
  refine (extend_any v n (a + k) l _ h (by omega) (by omega)).mono ?_
  rintro e w1 ⟨v1, rfl, hown, hgr, hb⟩
  obtain ⟨g, c, rfl, hc1, hc2⟩ := own_some hown rfl (by omega)
  have HO := Lib.hid hown
  have HG := Lib.hid hgr
  have HB := Lib.hid hb
  clear hown hgr hb
  generalize hm : max n (a + k) = m at *
  have hm1 : a + k ≤ m := by omega
  have hm2 : m ≤ 33554432 := by omega
  have HM := Lib.hid hm
  clear hm
  obtain ⟨cur, hcur, hcs, hr1, hr2⟩ := row_copied (cs := bv s) (o := a) HO.out (by rw [bv_len, HSL.out]; exact hm1)
  have hrun := run_copy_row (P := Tryd.prog) w1 58 58 3 5 g a (m - a) (c - a) ad k c2 cur 5 (bv s) Tryd.underlying58 (by kernel_rfl) hcur (by
      rw [bv_len, HSL.out]
      exact (Nat.min_eq_left (by omega)).symm)
    (fun j u hj => by
      have h1 := HSRC.out j u hj
      have hlt := World.block_lt_of_cell? _ _ h1
      exact HG.out.cell h1 (by rw [block_of_add]; exact fun e => HNE.out e.symm)) (by rw [bv_len, HSL.out]; omega) (bv_one _)
  have hend : NewRow w v m (putB l a s) (.returned (.slice (some ⟨g, 0, none⟩) m c)) (w1.setRow g (cur.toList.take a ++ bv s ++ cur.toList.drop (a + (bv s).length)).toArray) := by
    refine ⟨_, rfl, ?_, ?_, HB.out⟩
    · rw [putB_bv, HSL.out]
      exact hr1
    · refine World.grownBy.andThen HG.out hr2 (fun j hj => ?_)
      cases hj
      rcases HB.out with h1 | ⟨g', h1, h2⟩
      · exact .inr (by rw [← h1]; rfl)
      · exact .inl (by have h3 : g = g' := (by simpa [Value.ownBlock] using h2); show _ ≤ g; omega)
  generalize w1.setRow g (cur.toList.take a ++ bv s ++ cur.toList.drop (a + (bv s).length)).toArray = w2 at hend hrun
  rw [bv_len] at hrun
  have HE := Lib.hid hend
  have HR := Lib.hid hrun
  clear hend hr1 hr2 hrun hcur hcs h
  have hac : (a : Int) ≤ (m : Int) := by omega
  have hac2 : a < c := by omega
  go_wp2_with (refine wpList_copy_run rfl (.tmp 15) (.tmp 16) 58 58 rfl _ _ rfl rfl _ _ HR.out ?_)
  go_ret
  exact HE.out

end Go.Proofs.YtjlndgkahmcfdaaDoor
