/- The walk of big's Text (under way). Conditions: lengths, the table of strconv. -/
import Derived.Test.YtikfjmdeeknalaaDoorD4
import Derived.Lib.AppendStr
import Derived.Lib.AppendIntMem
import Derived.Sort.CutIn
import Derived.Lib.ItoaLen
import Derived.Stop.RegionWithIn
namespace Go.Proofs.YtikfjmdeeknalaaDoor
set_option maxRecDepth 8000
open Go.RowKit Go.Shelf
attribute [local go_sem] Oper.semAt_some

theorem own_grown {w w' : World} {row : Option Nat} {base : Nat} {e : TypeId} {size n : Nat} {v : Value} {xs : List Value} (h : w.ownsRow base e size v n xs) (hb : w.grownBy w' row) (hne : ∀ g, v.ownBlock = some g → row ≠ some g) : w'.ownsRow base e size v n xs := by
  refine ⟨h.1, ?_⟩
  rcases h.2 with hn | ⟨g, cap, cur, hv, hb', hgg, rest⟩
  · exact .inl hn
  · refine .inr ⟨g, cap, cur, hv, hb', ?_, rest⟩
    rw [hb.block g (Array.getElem?_eq_some_iff.1 hgg).1 (fun e => hne g (by rw [hv]; rfl) e.symm)]
    exact hgg
theorem own_parts {w : World} {base : Nat} {e : TypeId} {size n : Nat} {v : Value} {xs : List Value} (h : w.ownsRow base e size v n xs) : ∃ A c, v = .slice A n c := by
  rcases h.2 with ⟨rfl, rfl⟩ | ⟨g, cap, cur, hv, -⟩
  · exact ⟨none, 0, rfl⟩
  · exact ⟨_, _, hv⟩
def Tab (w : World) : Prop := Lib.TabIs Tryd.prog w "internal/strconv.uint64pow10" .u64 Lib.pow10Tab
theorem Tab.on {w w' : World} (h : Tab w) (hb : Below w.heap.size w w') : Tab w' := Lib.tabBelow_of_tabIs h w' hb
theorem wpIn_calm {F : Fence} {n : Nat} {P : Program} {c : Code} {K : Act → World → Prop} {Q' : Exit → Act → World → Prop} {a : Act} {w : World} (h : c.wpIn F n P (Exit.then K (fun _ _ _ => False)) a w) : c.wpIn F n P (Exit.then K Q') a w := by
  refine Code.wpIn_mono ?_ h
  intro e a w hq
  cases e with
  | normal => exact hq
  | _ => exact hq.elim
theorem wpIn_calmG {F : Fence} {n : Nat} {P : Program} {c : Code} {Q : Exit → Act → World → Prop} {a : Act} {w : World} (h : c.wpIn F n P (Exit.then (fun a w => Q .normal a w) (fun _ _ _ => False)) a w) : c.wpIn F n P Q a w := by
  refine Code.wpIn_mono ?_ h
  intro e a w hq
  cases e with
  | normal => exact hq
  | _ => exact hq.elim
theorem body_calm {α : Type} {F : Fence} {n : Nat} {P : Program} {c : Code} {B : Nat} {Kp : World → World → Prop} {I : List α → World → Prop} {Ix : Code → List α → World → Prop} {xs : List α} {W : World} {a : Act} {w : World}
    (h : c.wpIn F n P (Exit.then (fun _ W' => KeepsFrom B W W' ∧ Kp W W' ∧ I xs W') (fun _ _ _ => False)) a w) : c.wpIn F n P (ownPostG B Kp I Ix xs W) a w := by
  refine Code.wpIn_mono ?_ h
  intro e a w hq
  cases e with
  | normal => exact hq
  | _ => exact hq.elim
/-- The groups' texts behind a text, as the program reckons them. -/
def txtW (t : List UInt8) (pre : List (Nat × Int)) : List UInt8 := pre.foldl (fun t x => t ++ (Lib.itoa (IntKind.i64.wrap (1000000000000 + x.2))).drop 1) t
theorem txtW_snoc (t : List UInt8) (pre : List (Nat × Int)) (x : Nat × Int) : txtW t (pre ++ [x]) = txtW t pre ++ (Lib.itoa (IntKind.i64.wrap (1000000000000 + x.2))).drop 1 := by simp [txtW]
/-- A block with cells of another type is no row's. -/
theorem row_ne {W : World} {n₀ b n : Nat} {e t : TypeId} {v : Value} {xs : List Value} {cs : Array Value} (ho : W.ownsRow n₀ e 1 v n xs) (hk : Blk W b t cs) (ht : e ≠ t) : v.ownBlock ≠ some b := by
  intro h
  rcases ho.2 with ⟨h1, -⟩ | ⟨g, cap, cur, h1, -, h3, -⟩
  · rw [h1] at h; cases h
  · rw [h1] at h
    have : g = b := Option.some.inj h
    subst this
    have := h3.symm.trans hk
    injection this with this
    injection this with _ h5 _
    exact ht h5
theorem infoByte : (Tryd.prog.info? 5).map (fun i => (i.zero, i.size, i.bytes)) = some (some (.int .u8 0), 1, 1) := by kernel_rfl
theorem itoa_ne (z : Int) : Lib.itoa z ≠ [] := by
  unfold Lib.itoa
  split
  · simp
  · exact dec_ne _
theorem wrap_bounds (z : Int) : -9223372036854775808 ≤ IntKind.i64.wrap z ∧ IntKind.i64.wrap z ≤ 9223372036854775807 := by
  rw [IntKind.wrap_i64]; omega
theorem stepIn_append_str {F : Fence} {n : Nat} {P : Program} {ops : Array Oper} {o : Oper} {a : Act} {w w' : World} {K : Act → World → Prop} {Q : Exit → Act → World → Prop} {E : Prop} (hg : o.guard = none) (s x : Operand) (t u : TypeId)
    (hop : o.op = Op.call { callee := Callee.builtin Builtin.append, args := #[s, x], argTypes := #[t, u] }) {v v' : Value} {b : ByteArray} (hs : a.eval s = v) (hx : a.eval x = .string b) (hrun : (Builtin.append_ #[t, u] o.type #[v, .string b]).run P w = .ok v' w') (hK : K (a.put o.dst v') w') :
    if Region.wanted o (yielded ops a.tmps) = true then Oper.wpIn F n P o a w K Q else E := by
  have hw : Region.wanted o (yielded ops a.tmps) = true := by simp [Region.wanted, hg]
  rw [if_pos hw]
  unfold Oper.wpIn
  refine ⟨?_, ?_⟩
  · simp [Oper.about, hop, resolve, Target.leads, Sem.run_pure]
  · rw [Oper.semAt_plain F _ _ (by rw [hop]; intro c hc'; cases hc')]
    simp [execOp, hop, resolve, invoke, builtin, hs, hx, hrun, Result.andThen]
    exact hK
theorem own_base {w : World} {b b' : Nat} {e : TypeId} {size n : Nat} {v : Value} {xs : List Value} (h : w.ownsRow b' e size v n xs) (hb : b ≤ b') : w.ownsRow b e size v n xs := by
  refine ⟨h.1, ?_⟩
  rcases h.2 with hn | ⟨g, cap, cur, hv, hb', rest⟩
  · exact .inl hn
  · exact .inr ⟨g, cap, cur, hv, Nat.le_trans hb hb', rest⟩
theorem blk_kept {W W' : World} {B b : Nat} {t : TypeId} {cs : Array Value} {row : Option Nat} (hk : Blk W b t cs) (hg : W.grownBy W' row) (hr : ∀ r, row = some r → B ≤ r ∧ ∃ o : Obj, W.heap[r]? = some o ∧ o.isCells = false) : Blk W' b t cs := by
  refine hk.grown hg (fun e => ?_)
  obtain ⟨-, o, h1, h2⟩ := hr b e.symm
  have := h1.symm.trans hk
  cases this
  cases h2
theorem txtW_ends (t : List UInt8) {G : List Nat} (hG : ∀ g ∈ G, g < 1000000000000) : ∀ k, k ≤ G.length → txtW t (ends (G.map fun d : Nat => (d : Int)) k) = txtE t (ends (G.map fun d : Nat => (d : Int)) k)
  | 0, _ => rfl
  | k + 1, h => by
    rw [ends_succ, txtW_snoc, txtE_snoc, txtW_ends t hG k (by omega)]
    congr 2
    have hd : G[G.length - 1 - k]? = some G[G.length - 1 - k] := List.getElem?_eq_getElem (by omega)
    have hlt := hG _ (List.mem_of_getElem? hd)
    have e : (fromEnd (G.map fun d : Nat => (d : Int)) k).2 = (G[G.length - 1 - k] : Nat) := by
      unfold fromEnd
      simp only [List.length_map, List.getElem?_map]
      rw [hd]
      rfl
    rw [e, IntWalk.i64_in _ (by omega)]
/-- What the text is in the end. -/
theorem text_end {s x : Int} {l D G : List Nat} (r : Rep s l x) (hN : Norm D) (hV : gval (dval D) G = dval l) (hGD : G ≠ [] → D ≠ []) (hG : ∀ g ∈ G, g < 1000000000000) :
    txtW (Lib.itoa (s * (dval D : Nat))) (ends (G.map fun d : Nat => (d : Int)) G.length) = Lib.itoa x := by
  rw [txtW_ends _ hG _ (Nat.le_refl _), txtE_ends _ _ _ (Nat.le_refl _), Nat.sub_self, List.drop_zero]
  have hpos : D ≠ [] → 0 < dval D := fun h => by
    have h1 := norm_pos hN h
    have h2 : 0 < 1048576 ^ (D.length - 1) := Nat.pow_pos (by decide)
    omega
  have h0 : G = [] ∨ 0 < dval D := by
    by_cases h : G = []
    · exact .inl h
    · exact .inr (hpos (hGD h))
  rw [← itoa_groups (s := s) (top := dval D) (gs := G) ?_ h0 ?_ hG, hV, ← r.eq]
  · rcases r.cases with ⟨a, -⟩ | ⟨a, -⟩ | ⟨a, b, -⟩
    · exact .inl a
    · exact .inr (.inl a)
    · refine .inr (.inr ⟨a, ?_⟩)
      rcases h0 with h0 | h0
      · exact h0
      · have := gval_pos h0 G
        rw [hV, b] at this
        simp [dval] at this
  · intro hs
    rcases h0 with h0 | h0
    · rw [h0] at hV
      have hV' : dval D = dval l := hV
      rcases r.cases with ⟨a, -⟩ | ⟨-, -, a, b⟩ | ⟨a, -⟩ <;> omega
    · exact h0
theorem ext_tail (d : UInt8) (T : List UInt8) : ({ data := (d :: T).toArray } : ByteArray).extract 1 (T.length + 1) = ⟨T.toArray⟩ := by
  apply ByteArray.ext
  simp [ByteArray.data_extract]
theorem one_digit (w : World) (z : Int) : (w.alloc (.cells #[.int .i64 z] 3)).cell? ⟨w.heap.size, 0, none⟩ = some (.int .i64 z) := (Blk.new w 3 #[.int .i64 z]).cell 0
/-- A number by 10^12 has a digit less. -/
theorem norm_less {D E : List Nat} (hD : Norm D) (hE : Norm E) (h : dval E = dval D / 1000000000000) (hl : 3 < D.length) : E.length < D.length ∧ E ≠ [] := by
  have hDl : dval D < 1048576 ^ D.length := dval_lt hD.1
  have h1 := norm_pos hD (by intro e; subst e; simp at hl)
  have hp : (1048576 : Nat) ^ 3 ≤ 1048576 ^ (D.length - 1) := Nat.pow_le_pow_right (by decide) (by omega)
  have hne : E ≠ [] := by
    intro e
    subst e
    have : (1048576 : Nat) ^ 3 = 1152921504606846976 := by rfl
    simp [dval] at h
    omega
  refine ⟨?_, hne⟩
  rcases Nat.lt_or_ge E.length D.length with h2 | h2
  · exact h2
  · exfalso
    have h3 := norm_pos hE hne
    have h4 : (1048576 : Nat) ^ (D.length - 1) ≤ 1048576 ^ (E.length - 1) := Nat.pow_le_pow_right (by decide) (by omega)
    obtain ⟨k, hk⟩ : ∃ k, D.length = k + 1 := ⟨D.length - 1, by omega⟩
    rw [hk, Nat.pow_succ] at hDl
    rw [hk, Nat.add_sub_cancel] at h4
    omega
end Go.Proofs.YtikfjmdeeknalaaDoor
