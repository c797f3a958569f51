/- The walk of big's Text (under way). Conditions: lengths, the table of strconv. -/
import Derived.Test.YtmkhoofeekollaaGreatDoorD4
import Derived.Lib.AppendStr
import Derived.Lib.AppendIntMem
import Derived.Sort.CutIn
import Derived.Lib.ItoaLen
import Derived.Stop.RegionWithIn
namespace Go.Proofs.YtmkhoofeekollaaGreatDoor
set_option maxRecDepth 8000
open Go.RowKit Go.Shelf
attribute [local go_sem] Oper.semAt_some

theorem own_grown {w w' : World} {row : Option Nat} {base : Nat} {e : TypeId} {size n : Nat} {v : Value} {xs : List Value} (h : w.ownsRow base e size v n xs) (hb : w.grownBy w' row) (hne : ∀ g, v.ownBlock = some g → row ≠ some g) : w'.ownsRow base e size v n xs := by
  refine ⟨h.1, ?_⟩
  rcases h.2 with hn | ⟨g, cap, cur, hv, hb', hgg, rest⟩
  · exact .inl hn
  · refine .inr ⟨g, cap, cur, hv, hb', ?_, rest⟩
    rw [hb.block g (Array.getElem?_eq_some_iff.1 hgg).1 (fun e => hne g (by rw [hv]; rfl) e.symm)]
    exact hgg
theorem own_parts {w : World} {base : Nat} {e : TypeId} {size n : Nat} {v : Value} {xs : List Value} (h : w.ownsRow base e size v n xs) : ∃ A c, v = .slice A n c := by
  rcases h.2 with ⟨rfl, rfl⟩ | ⟨g, cap, cur, hv, -⟩
  · exact ⟨none, 0, rfl⟩
  · exact ⟨_, _, hv⟩
def Tab (w : World) : Prop := Lib.TabIs Tryz.prog w "internal/strconv.uint64pow10" .u64 Lib.pow10Tab
theorem Tab.on {w w' : World} (h : Tab w) (hb : Below w.heap.size w w') : Tab w' := Lib.tabBelow_of_tabIs h w' hb
theorem wpIn_calm {F : Fence} {n : Nat} {P : Program} {c : Code} {K : Act → World → Prop} {Q' : Exit → Act → World → Prop} {a : Act} {w : World} (h : c.wpIn F n P (Exit.then K (fun _ _ _ => False)) a w) : c.wpIn F n P (Exit.then K Q') a w := by
  refine Code.wpIn_mono ?_ h
  intro e a w hq
  cases e with
  | normal => exact hq
  | _ => exact hq.elim
theorem wpIn_calmG {F : Fence} {n : Nat} {P : Program} {c : Code} {Q : Exit → Act → World → Prop} {a : Act} {w : World} (h : c.wpIn F n P (Exit.then (fun a w => Q .normal a w) (fun _ _ _ => False)) a w) : c.wpIn F n P Q a w := by
  refine Code.wpIn_mono ?_ h
  intro e a w hq
  cases e with
  | normal => exact hq
  | _ => exact hq.elim
theorem body_calm {α : Type} {F : Fence} {n : Nat} {P : Program} {c : Code} {B : Nat} {Kp : World → World → Prop} {I : List α → World → Prop} {Ix : Code → List α → World → Prop} {xs : List α} {W : World} {a : Act} {w : World}
    (h : c.wpIn F n P (Exit.then (fun _ W' => KeepsFrom B W W' ∧ Kp W W' ∧ I xs W') (fun _ _ _ => False)) a w) : c.wpIn F n P (ownPostG B Kp I Ix xs W) a w := by
  refine Code.wpIn_mono ?_ h
  intro e a w hq
  cases e with
  | normal => exact hq
  | _ => exact hq.elim
/-- The groups' texts behind a text, as the program reckons them. -/
def txtW (t : List UInt8) (pre : List (Nat × Int)) : List UInt8 := pre.foldl (fun t x => t ++ (Lib.itoa (IntKind.i64.wrap (1000000000000 + x.2))).drop 1) t
theorem txtW_snoc (t : List UInt8) (pre : List (Nat × Int)) (x : Nat × Int) : txtW t (pre ++ [x]) = txtW t pre ++ (Lib.itoa (IntKind.i64.wrap (1000000000000 + x.2))).drop 1 := by simp [txtW]
/-- A text in a box, in a row of the call's own. -/
def TxtAt (n₀ bx : Nat) (t : List UInt8) (W : World) : Prop :=
  ∃ A c, Blk W bx 124 #[.slice A t.length c] ∧ W.ownsRow n₀ 5 1 (.slice A t.length c) t.length (Lib.byteCells t) ∧ n₀ ≤ bx
theorem TxtAt.lt {n₀ bx : Nat} {t : List UInt8} {W : World} (h : TxtAt n₀ bx t W) : bx < W.heap.size := by
  obtain ⟨A, c, h1, -⟩ := h
  exact h1.lt
/-- A block with cells of another type is no row's. -/
theorem row_ne {W : World} {n₀ b n : Nat} {e t : TypeId} {v : Value} {xs : List Value} {cs : Array Value} (ho : W.ownsRow n₀ e 1 v n xs) (hk : Blk W b t cs) (ht : e ≠ t) : v.ownBlock ≠ some b := by
  intro h
  rcases ho.2 with ⟨h1, -⟩ | ⟨g, cap, cur, h1, -, h3, -⟩
  · rw [h1] at h; cases h
  · rw [h1] at h
    have : g = b := Option.some.inj h
    subst this
    have := h3.symm.trans hk
    injection this with this
    injection this with _ h5 _
    exact ht h5
theorem infoByte : (Tryz.prog.info? 5).map (fun i => (i.zero, i.size, i.bytes)) = some (some (.int .u8 0), 1, 1) := by kernel_rfl
theorem itoa_any (n : Int) (h0 : -9223372036854775808 ≤ n) (h1 : n ≤ 9223372036854775807) (w : World) (ht : Tab w) :
    Calls Tryz.prog 104 #[.int .i64 n] w fun e w' => e = .returned (.string ⟨(Lib.itoa n).toArray⟩) ∧ Below w.heap.size w w' :=
  (Tryz.strconv_Itoa n h0 h1 w ht).mono fun e w' ⟨he, k, os, hw⟩ => ⟨he, by rw [hw]; exact Lib.below_grow _ w (Nat.le_refl _) k os⟩
theorem itoa_ne (z : Int) : Lib.itoa z ≠ [] := by
  unfold Lib.itoa
  split
  · simp
  · exact dec_ne _
theorem wrap_bounds (z : Int) : -9223372036854775808 ≤ IntKind.i64.wrap z ∧ IntKind.i64.wrap z ≤ 9223372036854775807 := by
  rw [IntKind.wrap_i64]; omega
theorem stepIn_append_str {F : Fence} {n : Nat} {P : Program} {ops : Array Oper} {o : Oper} {a : Act} {w w' : World} {K : Act → World → Prop} {Q : Exit → Act → World → Prop} {E : Prop} (hg : o.guard = none) (s x : Operand) (t u : TypeId)
    (hop : o.op = Op.call { callee := Callee.builtin Builtin.append, args := #[s, x], argTypes := #[t, u] }) {v v' : Value} {b : ByteArray} (hs : a.eval s = v) (hx : a.eval x = .string b) (hrun : (Builtin.append_ #[t, u] o.type #[v, .string b]).run P w = .ok v' w') (hK : K (a.put o.dst v') w') :
    if Region.wanted o (yielded ops a.tmps) = true then Oper.wpIn F n P o a w K Q else E := by
  have hw : Region.wanted o (yielded ops a.tmps) = true := by simp [Region.wanted, hg]
  rw [if_pos hw]
  unfold Oper.wpIn
  refine ⟨?_, ?_⟩
  · simp [Oper.about, hop, resolve, Target.leads, Sem.run_pure]
  · rw [Oper.semAt_plain F _ _ (by rw [hop]; intro c hc'; cases hc')]
    simp [execOp, hop, resolve, invoke, builtin, hs, hx, hrun, Result.andThen]
    exact hK
theorem own_base {w : World} {b b' : Nat} {e : TypeId} {size n : Nat} {v : Value} {xs : List Value} (h : w.ownsRow b' e size v n xs) (hb : b ≤ b') : w.ownsRow b e size v n xs := by
  refine ⟨h.1, ?_⟩
  rcases h.2 with hn | ⟨g, cap, cur, hv, hb', rest⟩
  · exact .inl hn
  · exact .inr ⟨g, cap, cur, hv, Nat.le_trans hb hb', rest⟩
/-- A box is stored to. -/
theorem txt_store {W : World} {n₀ bx : Nat} {t : List UInt8} {A : Option Addr} {c : Nat} {u : Value} (hk : Blk W bx 124 #[u]) (ho : W.ownsRow n₀ 5 1 (.slice A t.length c) t.length (Lib.byteCells t)) (hbx : n₀ ≤ bx) :
    TxtAt n₀ bx t (W.setCell ⟨bx, 0, none⟩ (.slice A t.length c)) := by
  have hn := row_ne ho hk (by decide)
  refine ⟨A, c, by simpa using hk.set_ 0 (.slice A t.length c), own_grown ho (only_setCell (p := ⟨bx, 0, none⟩) (grown_refl W (some bx)) (Or.inl rfl) _) (fun g e e2 => ?_), hbx⟩
  cases e2
  exact hn e
theorem blk_kept {W W' : World} {B b : Nat} {t : TypeId} {cs : Array Value} {row : Option Nat} (hk : Blk W b t cs) (hg : W.grownBy W' row) (hr : ∀ r, row = some r → B ≤ r ∧ ∃ o : Obj, W.heap[r]? = some o ∧ o.isCells = false) : Blk W' b t cs := by
  refine hk.grown hg (fun e => ?_)
  obtain ⟨-, o, h1, h2⟩ := hr b e.symm
  have := h1.symm.trans hk
  cases this
  cases h2
theorem txt_kept {W W' : World} {B n₀ bx : Nat} {t : List UInt8} {row : Option Nat} (h : TxtAt n₀ bx t W) (hg : W.grownBy W' row) (hr : ∀ r, row = some r → B ≤ r ∧ ∃ o : Obj, W.heap[r]? = some o ∧ o.isCells = false) : TxtAt n₀ bx t W' := by
  obtain ⟨A, c, hk, ho, hb⟩ := h
  refine ⟨A, c, blk_kept hk hg hr, own_grown ho hg (fun g e e2 => ?_), hb⟩
  obtain ⟨-, o, h1, h2⟩ := hr g e2
  rcases ho.2 with ⟨h3, -⟩ | ⟨g', cap, cur, h3, -, h4, -⟩
  · rw [h3] at e; cases e
  · rw [h3] at e
    have : g' = g := Option.some.inj e
    subst this
    rw [h1] at h4
    cases h4
    cases h2
theorem own_text {W : World} {n₀ : Nat} {t : List UInt8} {A : Option Addr} {c : Nat} (ho : W.ownsRow n₀ 5 1 (.slice A t.length c) t.length (Lib.byteCells t)) (ht : t ≠ []) :
    (convert 124 9 (.slice A t.length c)).run Tryz.prog W = .ok (.string ⟨t.toArray⟩) W := by
  have hl : 0 < t.length := List.length_pos_iff.2 ht
  obtain ⟨g, cap, e, -, -⟩ := ho.form hl
  injection e with e1 _ e3
  subst e1
  exact run_convert_bytes_back (P := Tryz.prog) W 124 9 5 ⟨g, 0, none⟩ c t Tryz.underlying124 Tryz.underlying5 Tryz.underlying9 (fun j hj => ho.cells rfl j _ (by simp [Lib.byteCells, hj]))
theorem txtW_ends (t : List UInt8) {G : List Nat} (hG : ∀ g ∈ G, g < 1000000000000) : ∀ k, k ≤ G.length → txtW t (ends (G.map fun d : Nat => (d : Int)) k) = txtE t (ends (G.map fun d : Nat => (d : Int)) k)
  | 0, _ => rfl
  | k + 1, h => by
    rw [ends_succ, txtW_snoc, txtE_snoc, txtW_ends t hG k (by omega)]
    congr 2
    have hd : G[G.length - 1 - k]? = some G[G.length - 1 - k] := List.getElem?_eq_getElem (by omega)
    have hlt := hG _ (List.mem_of_getElem? hd)
    have e : (fromEnd (G.map fun d : Nat => (d : Int)) k).2 = (G[G.length - 1 - k] : Nat) := by
      unfold fromEnd
      simp only [List.length_map, List.getElem?_map]
      rw [hd]
      rfl
    rw [e, IntWalk.i64_in _ (by omega)]
/-- What the text is in the end. -/
theorem text_end {s x : Int} {l D G : List Nat} (r : Rep s l x) (hN : Norm D) (hV : gval (dval D) G = dval l) (hGD : G ≠ [] → D ≠ []) (hG : ∀ g ∈ G, g < 1000000000000) :
    txtW (Lib.itoa (s * (dval D : Nat))) (ends (G.map fun d : Nat => (d : Int)) G.length) = Lib.itoa x := by
  rw [txtW_ends _ hG _ (Nat.le_refl _), txtE_ends _ _ _ (Nat.le_refl _), Nat.sub_self, List.drop_zero]
  have hpos : D ≠ [] → 0 < dval D := fun h => by
    have h1 := norm_pos hN h
    have h2 : 0 < 1048576 ^ (D.length - 1) := Nat.pow_pos (by decide)
    omega
  have h0 : G = [] ∨ 0 < dval D := by
    by_cases h : G = []
    · exact .inl h
    · exact .inr (hpos (hGD h))
  rw [← itoa_groups (s := s) (top := dval D) (gs := G) ?_ h0 ?_ hG, hV, ← r.eq]
  · rcases r.cases with ⟨a, -⟩ | ⟨a, -⟩ | ⟨a, b, -⟩
    · exact .inl a
    · exact .inr (.inl a)
    · refine .inr (.inr ⟨a, ?_⟩)
      rcases h0 with h0 | h0
      · exact h0
      · have := gval_pos h0 G
        rw [hV, b] at this
        simp [dval] at this
  · intro hs
    rcases h0 with h0 | h0
    · rw [h0] at hV
      have hV' : dval D = dval l := hV
      rcases r.cases with ⟨a, -⟩ | ⟨-, -, a, b⟩ | ⟨a, -⟩ <;> omega
    · exact h0
/-- A text's row grows by another text; the box is stored to. -/
theorem grow_txt {wr W w7 : World} {bx Bs : Nat} {t T : List UInt8} {A : Option Addr} {c : Nat} {u : Value} (hB : Below wr.heap.size wr W) (hv : Blk W bx 124 #[.slice A t.length c])
    (ho : W.ownsRow wr.heap.size 5 1 (.slice A t.length c) t.length (Lib.byteCells t)) (hbx : wr.heap.size ≤ bx) (hk : Blk W Bs 22 #[u]) (hb7 : Below W.heap.size W w7) (hl : t.length + T.length ≤ 140737488355328) :
    ∃ A' c' w', (Builtin.append_ #[124, 9] 124 #[.slice A t.length c, .string ⟨T.toArray⟩]).run Tryz.prog w7 = .ok (.slice A' (t ++ T).length c') w' ∧ w'.cell? ⟨bx, 0, none⟩ = some (.slice A t.length c) ∧ w'.frozen? ⟨bx, 0, none⟩ = false ∧
      TxtAt wr.heap.size bx (t ++ T) (w'.setCell ⟨bx, 0, none⟩ (.slice A' (t ++ T).length c')) ∧ Below wr.heap.size W (w'.setCell ⟨bx, 0, none⟩ (.slice A' (t ++ T).length c')) ∧ Blk (w'.setCell ⟨bx, 0, none⟩ (.slice A' (t ++ T).length c')) Bs 22 #[u] ∧
      KeepsOthers W (w'.setCell ⟨bx, 0, none⟩ (.slice A' (t ++ T).length c')) ∧ (w'.setCell ⟨bx, 0, none⟩ (.slice A' (t ++ T).length c')).heap[Bs]? = W.heap[Bs]? := by
  obtain ⟨i0, hi, hz0, hz1, hz2⟩ := info_parts infoByte
  have ho7 := own_grown ho (only_of_below hb7 none) (fun q e e2 => by cases e2)
  obtain ⟨v', w', hrun, ho', hg', -⟩ := Lib.run_append_own_string (P := Tryz.prog) w7 wr.heap.size 124 9 124 5 i0 Tryz.underlying124 Tryz.underlying9 hi hz0 hz1 hz2 _ _ _ ho7 ⟨T.toArray⟩ (by show _ + T.length ≤ _; unfold maxLen; omega) (by show _ + T.length ≤ _; exact hl) (Nat.le_trans hB.size hb7.size)
  have hsz : t.length + (⟨T.toArray⟩ : ByteArray).size = (t ++ T).length := by rw [List.length_append]; rfl
  have hcs : Lib.byteCells t ++ Lib.strCells ⟨T.toArray⟩ = Lib.byteCells (t ++ T) := by simp [Lib.byteCells, Lib.strCells]
  rw [hsz, hcs] at ho'
  obtain ⟨A', c', rfl⟩ := own_parts ho'
  have hbw : ∀ i, i < W.heap.size → (Value.slice A t.length c).ownBlock ≠ some i → w'.heap[i]? = W.heap[i]? := fun i h1 h2 => (hg'.block i (Nat.lt_of_lt_of_le h1 hb7.size) (fun e => h2 e.symm)).trans (hb7.block i h1)
  have hvw : Blk w' bx 124 #[.slice A t.length c] := (hbw bx hv.lt (row_ne ho hv (by decide))).trans hv
  have hBb : Bs ≠ bx := hk.ne_ hv (by decide)
  have hBsw : (w'.setCell ⟨bx, 0, none⟩ (.slice A' (t ++ T).length c')).heap[Bs]? = W.heap[Bs]? := (Below.heap_setCell w' ⟨bx, 0, none⟩ _ Bs hBb).trans (hbw Bs hk.lt (row_ne ho hk (by decide)))
  refine ⟨A', c', w', hrun, (hvw.cell 0).trans rfl, hvw.frozen 0, txt_store hvw ho' hbx, ?_, hBsw.trans hk, ?_, hBsw⟩
  · exact ((hb7.mono hB.size).grown hg' (Nat.le_trans hB.size hb7.size) (fun g e => (ho.lt _ e).1)).setCell (p := ⟨bx, 0, none⟩) hbx _
  · refine ((KeepsOthers.of_grownBy (only_of_below hb7 none) (fun j o e => by cases e)).trans (KeepsOthers.of_grownBy hg' (fun j o e ho2 => ?_))).trans (KeepsOthers.setCell _ _ _)
    rcases ho7.2 with ⟨h1, -⟩ | ⟨g, cap, cur, h1, -, h3, -⟩
    · rw [h1] at e; cases e
    · rw [h1] at e
      have : g = j := Option.some.inj e
      subst this
      rw [ho2] at h3
      cases h3
      rfl
theorem ext_tail (d : UInt8) (T : List UInt8) : ({ data := (d :: T).toArray } : ByteArray).extract 1 (T.length + 1) = ⟨T.toArray⟩ := by
  apply ByteArray.ext
  simp [ByteArray.data_extract]
theorem app_first (z : Int) (W : World) (h0 : -9223372036854775808 ≤ z) (h1 : z ≤ 9223372036854775807) (hT : Tab W) :
    Calls Tryz.prog 101 #[.slice none 0 0, .int .i64 z, .int .i64 10] W fun e W' => ∃ A c, e = .returned (.slice A (Lib.itoa z).length c) ∧ W'.ownsRow W.heap.size 5 1 (.slice A (Lib.itoa z).length c) (Lib.itoa z).length (Lib.byteCells (Lib.itoa z)) ∧ Below W.heap.size W W' := by
  refine (Tryz.strconv_AppendInt_10 W.heap.size 0 z h0 h1 (.slice none 0 0) [] W (World.ownsRow_nil _ _ _ _) (Nat.le_refl _) (by omega) (Lib.tabBelow_of_tabIs hT)).mono ?_
  rintro e W' ⟨v, rfl, ho, hb, -⟩
  rw [Nat.zero_add, List.nil_append] at ho
  obtain ⟨A, c, rfl⟩ := own_parts ho
  exact ⟨A, c, rfl, ho, hb⟩
theorem txt_old {wr w1 w8 : World} {t : List UInt8} {A : Option Addr} {c bx : Nat} {u : Value} (h1 : Below wr.heap.size wr w1) (hbx : wr.heap.size ≤ bx) (hk : Blk w1 bx 124 #[u])
    (ho : w8.ownsRow w1.heap.size 5 1 (.slice A t.length c) t.length (Lib.byteCells t)) (hb : Below w1.heap.size w1 w8) :
    TxtAt wr.heap.size bx t (w8.setCell ⟨bx, 0, none⟩ (.slice A t.length c)) ∧ Below wr.heap.size wr (w8.setCell ⟨bx, 0, none⟩ (.slice A t.length c)) :=
  ⟨txt_store (hk.below hb hk.lt) (own_base ho h1.size) hbx, (h1.trans (hb.mono h1.size)).setCell (p := ⟨bx, 0, none⟩) hbx _⟩
theorem txt_new {wr w1 w8 : World} {t : List UInt8} {A : Option Addr} {c : Nat} (h1 : Below wr.heap.size wr w1)
    (ho : w8.ownsRow w1.heap.size 5 1 (.slice A t.length c) t.length (Lib.byteCells t)) (hb : Below w1.heap.size w1 w8) :
    TxtAt wr.heap.size w8.heap.size t (w8.alloc (.cells #[.slice A t.length c] 124)) ∧ Below wr.heap.size wr (w8.alloc (.cells #[.slice A t.length c] 124)) := by
  have hsz : wr.heap.size ≤ w8.heap.size := Nat.le_trans h1.size hb.size
  exact ⟨⟨A, c, Blk.new w8 _ _, own_base (own_grown ho (World.grownBy_alloc w8 _ none) (fun g e e2 => by cases e2)) h1.size, hsz⟩, (h1.trans (hb.mono h1.size)).alloc hsz _⟩
theorem one_digit (w : World) (z : Int) : (w.alloc (.cells #[.int .i64 z] 3)).cell? ⟨w.heap.size, 0, none⟩ = some (.int .i64 z) := (Blk.new w 3 #[.int .i64 z]).cell 0
/-- A number by 10^12 has a digit less. -/
theorem norm_less {D E : List Nat} (hD : Norm D) (hE : Norm E) (h : dval E = dval D / 1000000000000) (hl : 3 < D.length) : E.length < D.length ∧ E ≠ [] := by
  have hDl : dval D < 1048576 ^ D.length := dval_lt hD.1
  have h1 := norm_pos hD (by intro e; subst e; simp at hl)
  have hp : (1048576 : Nat) ^ 3 ≤ 1048576 ^ (D.length - 1) := Nat.pow_le_pow_right (by decide) (by omega)
  have hne : E ≠ [] := by
    intro e
    subst e
    have : (1048576 : Nat) ^ 3 = 1152921504606846976 := by rfl
    simp [dval] at h
    omega
  refine ⟨?_, hne⟩
  rcases Nat.lt_or_ge E.length D.length with h2 | h2
  · exact h2
  · exfalso
    have h3 := norm_pos hE hne
    have h4 : (1048576 : Nat) ^ (D.length - 1) ≤ 1048576 ^ (E.length - 1) := Nat.pow_le_pow_right (by decide) (by omega)
    obtain ⟨k, hk⟩ : ∃ k, D.length = k + 1 := ⟨D.length - 1, by omega⟩
    rw [hk, Nat.pow_succ] at hDl
    rw [hk, Nat.add_sub_cancel] at h4
    omega
set_option maxRecDepth 100000 in
set_option maxHeartbeats 4000000 in
theorem Text_any (s : Int) (A : Option Addr) (n c B : Nat) (l : List Nat) (x : Int) (w : World) (h : Reads w B 1 A n (dv l)) (r : Rep s l x) (hn : n ≤ 1048576) (ht : Tab w) :
    Calls Tryz.prog 66 #[.agg #[.int .i64 s, .slice A n c]] w fun e w' => e = .returned (.string ⟨(Lib.itoa x).toArray⟩) ∧ Below w.heap.size w w' := by
  have R := Lib.hid r
  have L := Lib.hid h.lenD
  have HR := Lib.hid h.here
  have HT := Lib.hid ht
  clear h r ht
  refine CallsIn.calls (F := Fence.wide) (n := 9) ?_ room_wide
  refine callsIn_of_wp_marks Tryz.func66 rfl trivial ?_ rfl
  simp only [Tryz.ntmps66, List.size_toArray, List.length_cons, List.length_nil, Nat.reduceAdd, Nat.reduceSub, Array.replicate_succ, Array.replicate_zero, List.push_toArray, List.append_toArray, List.nil_append, List.cons_append]
  gi_wp2_with fail
  have hb0 : Below w.heap.size w (w.alloc (.cells #[.int .i64 s, .slice A n c] 24)) := (Below.refl _ _).alloc (Nat.le_refl _) _
  have k1 : Blk (w.alloc (.cells #[.int .i64 s, .slice A n c] 24)) w.heap.size 24 #[.int .i64 s, .slice A n c] := Blk.new w _ _
  refine ⟨trivial, (callsIn_wide.2 (right_rep R.out A n c _ _ (HR.out.past hb0) (by omega))).mono ?_⟩
  rintro e w4 ⟨rfl, b4⟩
  have K1 := Lib.hid (k1.below b4 k1.lt)
  have B4 := Lib.hid (hb0.trans (b4.mono hb0.size))
  have H4 := Lib.hid (HR.out.past B4.out)
  have y0 : w4.cell? ⟨w.heap.size, 0, none⟩ = some (.int .i64 s) := (K1.out.cell 0).trans rfl
  have y1 : w4.cell? ⟨w.heap.size, 1, none⟩ = some (.slice A n c) := (K1.out.cell 1).trans rfl
  clear b4 hb0 k1 HR
  gi_wp2_with fail
  refine ⟨trivial, (callsIn_wide.2 (cloneD_any A n c _ l w4 H4.out (by omega))).mono ?_⟩
  rintro e w5 ⟨A2, c2, rfl, hc, hR, hF, hB⟩
  have D0 : Hid (Norm l) := R.out.norm
  have HF := Lib.hid hF
  have HB5 := Lib.hid hB
  clear hR hF hB
  gi_wp2_with fail
  gi_loopw [3, 4] (fun v3 v4 wr => ∃ (D G : List Nat) (A3 Ag : Option Addr) (c3 cg : Nat), v3 = .slice A3 D.length c3 ∧ v4 = .slice Ag G.length cg ∧ D.length + G.length ≤ n ∧ D.length ≤ c3 ∧ Hid (Norm D) ∧ Hid (gval (dval D) G = dval l) ∧ Hid (G ≠ [] → D ≠ []) ∧ Hid (∀ g ∈ G, g < 1000000000000) ∧ Hid (0 < D.length → ∃ g, A3 = some ⟨g, 0, none⟩ ∧ w4.heap.size ≤ g ∧ g < w5.heap.size ∧ Dig wr g D) ∧ Hid (wr.ownsRow w5.heap.size 3 1 (.slice Ag G.length cg) G.length (dv G)) ∧ Hid (Below w4.heap.size w4 wr) ∧ Hid (w5.heap.size ≤ wr.heap.size))
    (fun v3 _ _ => match v3 with | .slice _ k _ => k | _ => 0)
  case atStart => exact ⟨l, [], A2, none, c2, 0, rfl, rfl, by rw [L.out]; exact Nat.le_refl _, hc, D0, rfl, (fun h => absurd rfl h), (fun g h => by cases h), (fun hp => by obtain ⟨g, e, h1, h2⟩ := HF.out hp; exact ⟨g, e, h1, h2.lt, h2⟩), World.ownsRow_nil _ _ _ _, HB5.out, Nat.le_refl _⟩
  case round =>
    obtain ⟨D, G, A3, Ag, c3, cg, rfl, rfl, hDG, hDc, HN, HV, HGD, HG, HD, HO, HBW, HSZ⟩ := hrel
    by_cases hlt : 3 < D.length
    · have hlt' : (3 : Int) < (D.length : Int) := by omega
      obtain ⟨g, rfl, hg, hg5, hdg⟩ := HD.out (by omega)
      have HDB := Lib.hid (divideBy_any g D.length c3 D 1000000000000 wr hdg rfl HN.out.1 (by omega) (by omega) hDc (by omega))
      have hgn := hdg.lt
      clear hdg HD
      gi_wp2_with fail
      refine ⟨trivial, (callsIn_wide.2 HDB.out).mono ?_⟩
      rintro e w6 ⟨E, m, c6, rfl, hm, hc6, hEl, hdE, hsE, hnz, hv, -, hgb⟩
      obtain ⟨rr, hrr⟩ : ∃ rr, dval D % 1000000000000 = rr := ⟨_, rfl⟩
      obtain ⟨D', hD'⟩ : ∃ D', E.take m = D' := ⟨_, rfl⟩
      have hml : D'.length = m := by rw [← hD', List.length_take]; omega
      have hsD := hsE.take m
      have hdD := hdE.take m
      rw [hD'] at hnz hv hsD hdD
      subst hml
      have HN' : Hid (Norm D') := ⟨hsD, hnz⟩
      obtain ⟨hls, hne'⟩ := norm_less HN.out HN'.out hv hlt
      have hr12 : rr < 1000000000000 := by omega
      have hVD : dval D = dval D' * 1000000000000 + rr := by omega
      have HV' : Hid (gval (dval D') (G ++ [rr]) = dval l) := by show _ = _; rw [gval_snoc, ← hVD]; exact HV.out
      have HG' : Hid (∀ x ∈ G ++ [rr], x < 1000000000000) := fun x hx => by
        rcases List.mem_append.1 hx with h | h
        · exact HG.out x h
        · rw [List.mem_singleton] at h; omega
      rw [hrr]
      have hsz6 := hgb.size
      have HOW : Hid ((w6.alloc (.cells #[.int .i64 (rr : Int)] 3)).ownsRow w5.heap.size 3 1 (.slice Ag G.length cg) G.length (dv G)) := own_grown (own_grown HO.out hgb (fun q e e2 => by cases e2; have := (HO.out.lt _ e).1; omega)) (World.grownBy_alloc w6 _ none) (fun q e e2 => by cases e2)
      have HDA : Hid (Dig (w6.alloc (.cells #[.int .i64 (rr : Int)] 3)) g D') := hdD.alloc _
      have HBA : Hid (Below w4.heap.size w4 (w6.alloc (.cells #[.int .i64 (rr : Int)] 3))) := (HBW.out.grown hgb HBW.out.size (fun q e => by cases e; exact hg)).alloc (Nat.le_trans HBW.out.size hsz6) _
      have HZA : Hid (w5.heap.size ≤ (w6.alloc (.cells #[.int .i64 (rr : Int)] 3)).heap.size) := Nat.le_trans HSZ.out (Nat.le_trans hsz6 ((Below.refl w6.heap.size w6).alloc (Nat.le_refl _) _).size)
      have HON := Lib.hid (one_digit w6 rr)
      have HVD := Lib.hid hv
      obtain ⟨i0, hi, hz0, hz1, hz2⟩ := info_parts infoD
      have HGN := Lib.hid hgn
      clear hrr hD' hnz hv hsD hdD hdE hsE hEl hVD hgb HDB HV HG HO HBW HVD hgn hsz6
      gi_wp2_with (gi_at_builtin; refine wpListIn_append_own _ rfl (.tmp 25) (.tmp 27) 22 rfl w5.heap.size 3 i0 _ 1 8 Tryz.underlying22 hi hz0 hz1 hz2 rfl (by decide) (.slice Ag G.length cg) G.length (dv G) rfl HOW.out ⟨w6.heap.size, 0, none⟩ 1 1 [.int .i64 (rr : Int)] rfl rfl (by intro j u hj; have hj0 : j = 0 := (by have := (List.getElem?_eq_some_iff.1 hj).1; simpa using this); subst hj0; cases hj; exact HON.out) (by intro u hu; simp at hu; subst hu; rfl) (by unfold maxLen; omega) (by omega) HZA.out ?_; intro v' w' p1 p2 p3)
      obtain ⟨A', c', rfl⟩ := own_parts p1
      have hdv : dv G ++ [Value.int .i64 (rr : Int)] = dv (G ++ [rr]) := by simp [dv]
      rw [hdv] at p1
      have hlG : G.length + 1 = (G ++ [rr]).length := by simp
      refine ⟨⟨D', G ++ [rr], some ⟨g, 0, none⟩, A', c6, c', rfl, by rw [← hlG], by rw [← hlG]; omega, by omega, HN', HV', (fun _ => hne'), HG', (fun _ => ⟨g, rfl, hg, hg5, HDA.out.grown p2 (fun e => by have := (HOW.out.lt _ e).1; omega)⟩), (by rw [← hlG]; exact p1), HBA.out.grown p2 HBA.out.size (fun q e => by have := (HOW.out.lt _ e).1; have := HB5.out.size; omega), Nat.le_trans HZA.out p2.size⟩, ?_⟩
      exact hls
    · have hlt' : ¬ (3 : Int) < (D.length : Int) := by omega
      have hDl3 : D.length ≤ 3 := by omega
      have HDR : Hid (Reads wr wr.heap.size 1 A3 D.length (dv D)) := by
        rcases Nat.eq_zero_or_pos D.length with h0 | h0
        · have : D = [] := List.eq_nil_of_length_eq_zero h0
          subst this
          exact Reads.none_
        · obtain ⟨g, rfl, hg, hg5, hdg⟩ := HD.out h0
          exact hdg.reads rfl hdg.lt
      have HJ : Hid (∀ wx, Below wr.heap.size wr wx → Calls Tryz.prog 102 #[.slice A3 D.length c3] wx fun e w' => e = .returned (.int .i64 (dval D : Nat)) ∧ wx = w') := fun wx hb => join_any A3 D.length c3 _ D wx (HDR.out.past hb) HN.out.1 hDl3
      have hTW : Hid (Tab wr) := HT.out.on (B4.out.trans (HBW.out.mono B4.out.size))
      have hVm : dval D < 1152921504606846976 := by
        have e1 := dval_lt HN.out.1
        have e2 : 1048576 ^ D.length ≤ 1048576 ^ 3 := Nat.pow_le_pow_right (by decide) hDl3
        have e3 : (1048576 : Nat) ^ 3 = 1152921504606846976 := by rfl
        omega
      obtain ⟨V, hV⟩ : ∃ V : Int, ((dval D : Nat) : Int) = V := ⟨_, rfl⟩
      have hV0 : 0 ≤ V := by omega
      have hV1 : V < 1152921504606846976 := by omega
      rw [hV] at HJ
      have hp : -1152921504606846976 < s * V ∧ s * V < 1152921504606846976 := by
        rcases R.out.sign with ⟨e, -⟩ | ⟨e, -⟩ | ⟨e, -⟩ <;> rw [e] <;> omega
      obtain ⟨hp0, hp1⟩ := hp
      have y0' : wr.cell? ⟨w.heap.size, 0, none⟩ = some (.int .i64 s) := (HBW.out.cell (p := ⟨w.heap.size, 0, none⟩) K1.out.lt).trans y0
      have HVV := Lib.hid hV
      have hszw : w.heap.size < wr.heap.size := Nat.lt_of_lt_of_le K1.out.lt HBW.out.size
      have hszn : w.heap.size ≠ wr.heap.size := by omega
      clear hV hVm y1 HD
      gi_wp2_with fail
      gi_cut [7] from 29 (fun s7 wc => ∃ bx, s7 = .pointer (some ⟨bx, 0, none⟩) ∧ TxtAt wr.heap.size bx (Lib.itoa (s * V)) wc ∧ Below wr.heap.size wr wc)
      case first J K' hJ hK' =>
        refine wpIn_calm ?_
        have HA : Hid (∀ wx, Below wr.heap.size wr wx → Calls Tryz.prog 101 #[.slice none 0 0, .int .i64 (s * V), .int .i64 10] wx fun e W' => ∃ A c, e = .returned (.slice A (Lib.itoa (s * V)).length c) ∧ W'.ownsRow wx.heap.size 5 1 (.slice A (Lib.itoa (s * V)).length c) (Lib.itoa (s * V)).length (Lib.byteCells (Lib.itoa (s * V))) ∧ Below wx.heap.size wx W') := fun wx hb => app_first _ wx (by omega) (by omega) (hTW.out.on hb)
        have hmul : IntKind.i64.wrap (s * V) = s * V := IntWalk.i64_in _ (by omega)
        gi_region_with (refine ⟨trivial, ?_⟩; first 
          | ((with_reducible refine (callsIn_wide.2 (HA.out _ ?_)).mono ?_); (next => (first | exact (Below.refl _ _).drew | exact ((Below.refl _ _).alloc (Nat.le_refl _) _).drew | exact ((Below.refl _ _).drew).alloc (Nat.le_refl _) _)); rintro e w8 ⟨A8, c8, rfl, ho8, hb8⟩; have e8 := bcell hb8; have O8 := Lib.hid ho8; have B8 := Lib.hid hb8; clear ho8 hb8) | ((with_reducible refine (callsIn_wide.2 (HJ.out _ ?_)).mono ?_); (next => (first | exact (Below.refl _ _).drew | exact ((Below.refl _ _).alloc (Nat.le_refl _) _).drew | exact ((Below.refl _ _).drew).alloc (Nat.le_refl _) _)); rintro e w' ⟨rfl, rfl⟩))
        all_goals
          refine hK' _ _ (Met.intro (hJ _ _ ?_))
          (repeat apply Exists.intro)
          refine ⟨?_, rfl⟩
          first
            | exact ⟨_, rfl, txt_new ((Below.refl _ _).drew) O8.out B8.out⟩
            | exact ⟨_, rfl, txt_old (((Below.refl _ _).alloc (Nat.le_refl _) _).drew) (Nat.le_refl _) (Blk.new wr _ _).drew O8.out B8.out⟩
      case rest =>
        obtain ⟨bx, rfl, hTX, hBC⟩ := hcut
        have HTX := Lib.hid hTX
        have HBC := Lib.hid hBC
        have hbxl := hTX.lt
        have hGR : Hid (Reads wr wr.heap.size 1 Ag G.length (dv G)) := by
          rcases Nat.eq_zero_or_pos G.length with h0 | h0
          · have : G = [] := List.eq_nil_of_length_eq_zero h0
            subst this
            exact Reads.none_
          · obtain ⟨g, rfl, hg, hdg⟩ := Dig.of_row HO.out h0
            exact hdg.reads rfl hdg.lt
        clear hTX hBC
        gi_wp2_with fail
        refine ⟨trivial, (callsIn_wide.2 (backward_any Ag G.length cg _)).mono ?_⟩
        rintro e w' ⟨rfl, rfl⟩
        gi_wp2_with fail
        have hL : (G.map fun d : Nat => (d : Int)).length = G.length := List.length_map ..
        have hA : Below wc.heap.size wc (wc.alloc (.cells #[.slice Ag G.length cg] 22)) := (Below.refl _ _).alloc (Nat.le_refl _) _
        have hszc : wr.heap.size ≤ wc.heap.size := HBC.out.size
        have hWC : Below wr.heap.size wr (wc.alloc (.cells #[.slice Ag G.length cg] 22)) := HBC.out.trans (hA.mono hszc)
        have kb : Blk (wc.alloc (.cells #[.slice Ag G.length cg] 22)) wc.heap.size 22 #[.slice Ag G.length cg] := Blk.new wc _ _
        refine wpIn_rangeFunc_ownG rfl (by omega) (gf := 131) (lb := #[.pointer (some ⟨wc.heap.size, 0, none⟩)]) rfl trivial (enters_of Tryz.func131 (by kernel_rfl) rfl)
          (back_stops 8 (by omega) wc.heap.size wr.heap.size Ag G.length cg (G.map fun d : Nat => (d : Int)) hL (by omega) _ (by simp) (by simp; omega) ((kb.cell 0).trans rfl) (dv_read (hGR.out.past hWC))) BackK.trans (backK_b (by simp; omega) (by simp)) (Below.refl _ _) (fun _ => rfl)
          (fun pre W => Hid (TxtAt wr.heap.size bx (txtW (Lib.itoa (s * V)) pre) W ∧ (txtW (Lib.itoa (s * V)) pre).length ≤ 21 + 20 * pre.length ∧ Blk W wc.heap.size 22 #[.slice Ag G.length cg]) ∧ Below wr.heap.size wr W)
          (fun e pre W => False)
          ?own1 ?own2
          ⟨?start, hWC⟩
          (fun x => { tmps := #[.agg #[.int .i64 s, .slice A n c], .pointer (some ⟨w.heap.size, 0, none⟩), .string ⟨#[]⟩, .slice A3 D.length c3, .slice Ag G.length cg, u5, u6, .pointer (some ⟨bx, 0, none⟩), undef, .int .i64 x.2, .agg #[.int .i64 s, .slice A n c], .bool true, .bool false, .pointer (some ⟨w.heap.size, 1, none⟩), .slice A n c, .slice A2 l.length c2, .slice A3 D.length c3, .int .i64 D.length, .bool false, u19, u20, u21, u22, u23, u24, u25, u26, u27, u28, u29, u30, u31, u32, u33, u34, .slice Ag G.length cg, .func (.func 131) #[] #[.pointer (some ⟨wc.heap.size, 0, none⟩)], .int .i64 (x.1 : Int), .int .i64 x.2, u39, u40, u41, u42, u43, u44, u45, u46], defers := [] }) ?assign ?body ?done ?stop
        case own1 => exact OwnFrom.and (fun pre W W' row hs hg hr => ⟨txt_kept hs.out.1 hg hr, hs.out.2.1, blk_kept hs.out.2.2 hg hr⟩) (ownFrom_below (Nat.le_refl _) (by simp; omega))
        case own2 => exact fun e s W W' row hs hg hr => hs.elim
        case start =>
          obtain ⟨A8, c8, hk8, ho8, hb8⟩ := HTX.out
          exact ⟨⟨A8, c8, hk8.alloc _, own_grown ho8 (World.grownBy_alloc wc _ none) (fun g e e2 => by cases e2), hb8⟩, Lib.itoa_length_le _ (by omega) (by omega), kb⟩
        case assign =>
          intro l x W K hK
          gi_wp2
          exact hK
        case body =>
          rintro l pre x W ⟨hTXx, hB⟩ hlen
          refine body_calm ?_
          obtain ⟨⟨A9, c9, hv, ho, hbx⟩, hlt, hks⟩ := hTXx.out
          obtain ⟨Z, hZ⟩ : ∃ Z : Int, IntKind.i64.wrap (1000000000000 + x.2) = Z := ⟨_, rfl⟩
          obtain ⟨hZ0, hZ1⟩ := wrap_bounds (1000000000000 + x.2)
          rw [hZ] at hZ0 hZ1
          have hTB : Hid (Tab W) := hTW.out.on hB
          have HI : Hid (∀ wx, Below W.heap.size W wx → Calls Tryz.prog 104 #[.int .i64 Z] wx fun e w' => e = .returned (.string ⟨(Lib.itoa Z).toArray⟩) ∧ Below wx.heap.size wx w') := fun wx hb => itoa_any Z hZ0 hZ1 wx (hTB.out.on hb)
          obtain ⟨d0, T, hT⟩ : ∃ d0 T, Lib.itoa Z = d0 :: T := by
            cases h : Lib.itoa Z with
            | nil => exact absurd h (itoa_ne Z)
            | cons d T => exact ⟨d, T, rfl⟩
          have hTl : T.length ≤ 20 := by
            have := Lib.itoa_length_le Z hZ0 hZ1
            rw [hT] at this
            simp at this
            omega
          rw [hT] at HI
          have HTT := Lib.hid hT
          have c0 := (hv.cell 0).trans rfl
          have hext := ext_tail d0 T
          have hb1 : (1 : Int) ≤ (T.length : Int) + 1 := by omega
          have HST : Hid (txtW (Lib.itoa (s * V)) (pre ++ [x]) = txtW (Lib.itoa (s * V)) pre ++ T) := by show _ = _; rw [txtW_snoc, hZ, hT]; rfl
          have hbxW := hv.lt
          have HGT : Hid (∀ w7, Below W.heap.size W w7 → _) := fun w7 hb7 => grow_txt (T := T) hB hv ho hbx hks hb7 (by omega)
          clear hT hv ho
          gi_wp2_with fail
          refine wpIn_calmG ?_
          refine wpIn_region_any (by kernel_rfl) ?_
          change wpAnyIn _ _ _ _ _ _ _ _ _ (World.drew _)
          repeat (any_goals (first
            | (refine wpAnyIn_done (by decide +kernel) ?_ _)
            | ((first | refine wpAnyIn_ready (rs := [0, 1]) (by decide +kernel) (by simp) ?_ | refine wpAnyIn_ready (rs := [0, 2]) (by decide +kernel) (by simp) ?_ | refine wpAnyIn_ready (rs := [0, 3]) (by decide +kernel) (by simp) ?_ | refine wpAnyIn_ready (rs := [0, 4]) (by decide +kernel) (by simp) ?_ | refine wpAnyIn_ready (rs := [0]) (by decide +kernel) (by simp) ?_ | refine wpAnyIn_ready (rs := [1]) (by decide +kernel) (by simp) ?_ | refine wpAnyIn_ready (rs := [2]) (by decide +kernel) (by simp) ?_ | refine wpAnyIn_ready (rs := [3]) (by decide +kernel) (by simp) ?_ | refine wpAnyIn_ready (rs := [4]) (by decide +kernel) (by simp) ?_ | refine wpAnyIn_ready (rs := [5]) (by decide +kernel) (by simp) ?_ | refine wpAnyIn_ready (rs := [6]) (by decide +kernel) (by simp) ?_);
               (first | refine AllReadyIn.cons rfl (fun K hK => ?_) (AllReadyIn.cons rfl (fun K hK => ?_) AllReadyIn.nil) | refine AllReadyIn.cons rfl (fun K hK => ?_) AllReadyIn.nil))
            | (refine stepIn_append_str rfl (.tmp 39) (.tmp 43) 124 9 rfl rfl rfl hrun ?_; refine hK _ _ ?_; clear hK K)
            | (go_simp; refine hK _ _ ?_; clear hK K)
            | (go_simp; refine ⟨trivial, ?_⟩; (refine (CallsIn.inRound _ (callsIn_wide.2 (HI.out _ ?_))).mono ?_; (next => exact (Below.refl _ _).drew); rintro e w7 ⟨rfl, hb7⟩; obtain ⟨A', c', w', hrun, hcw, hfw, hTX', hB', hks', hko, hbs⟩ := HGT.out w7 ((Below.refl _ _).drew.trans hb7); have c7 := (hb7.cell (p := ⟨bx, 0, none⟩) hbxW).trans c0; refine hK _ _ ?_; clear hK K))))
          all_goals
            rw [List.length_append] at hTX' hB' hks' hko hbs
            gi_wp2_with fail
            exact ⟨hko.from _, ⟨hB', hbs⟩, (by show _ ∧ _; rw [HST.out]; exact ⟨hTX', by rw [List.length_append, List.length_append]; simp; omega, hks'⟩), hB.trans hB'⟩
        case done =>
          rintro Dd ys W hD rfl ⟨hTXx, hB⟩ hK
          obtain ⟨⟨A9, c9, hv, ho, hbx⟩, -, -⟩ := hTXx.out
          have hte := text_end R.out HN.out HV.out HGD.out HG.out
          rw [HVV.out] at hte
          rw [hte] at hv ho
          have hcv := own_text ho (itoa_ne x)
          have c0 := (hv.cell 0).trans rfl
          have hfin : Below w.heap.size w W := B4.out.trans ((HBW.out.trans (hB.mono HBW.out.size)).mono B4.out.size)
          have HF := Lib.hid hfin
          clear hte hv ho hfin
          gi_wp2
          refine ⟨by simp, .inl ⟨_, _, rfl, run_takeDeferred hK, ?_⟩⟩
          refine ⟨.string ⟨(Lib.itoa x).toArray⟩, ?_, rfl, HF.out.trans (belowK_b (w := w) (Nat.le_refl _) _ Dd _ _ (by have := HF.out.size; simp at hD; omega) hK rfl rfl)⟩
          simp [results, Tryz.f66, go_sem]
        case stop => exact fun D c pre W hD hS hI => hI.elim
end Go.Proofs.YtmkhoofeekollaaGreatDoor
