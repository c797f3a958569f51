/- Sectors as keys of a map: the law, and that every sector in range is a key. No other condition. -/
import Derived.Test.YtjlndgkahmcfdaaDoorSv
namespace Go.Proofs.YtjlndgkahmcfdaaDoor
set_option maxRecDepth 8000
open Go.RowKit Go.ChangeMaps Go.Maps

theorem laidOut : laidOutB Tryd.prog = true := by kernel_rfl
theorem rowSec : (93 : TypeId) < Tryd.prog.types.size := of_decide_eq_true (by kernel_rfl)
theorem wideSec : (match Tryd.prog.underlying 93 with | some (.array _ _) | some (.struct _) => true | _ => false) = true := by rw [Tryd.underlying93]
theorem lawSec : Keyed Tryd.prog 93 := Keyed.of_law (deep_law_laid laidOut (m := 2) (by omega) rowSec (by kernel_rfl) wideSec)
theorem keyTypeSec : Tryd.prog.keyType 93 = true := by kernel_rfl
theorem cellsSec : Tryd.prog.cellsOf 93 = 2 := by kernel_rfl
theorem cellsInt : Tryd.prog.cellsOf 3 = 1 := by kernel_rfl

theorem keySec {p : Int × Int} (h1 : I64 p.1) (h2 : I64 p.2) : ∃ l, keyOf Tryd.prog 93 (secV p) = some l := by
  obtain ⟨a, b⟩ := p
  have w1 : (Lit.int .i64 a).wf = true := WalkArith.wf_i64 (by unfold I64 at h1; exact h1)
  have w2 : (Lit.int .i64 b).wf = true := WalkArith.wf_i64 (by unfold I64 at h2; exact h2)
  have hl : ∀ d, Tryd.prog.keyLits (d + 2) 93 [.int .i64 a, .int .i64 b] = some [.int .i64 a, .int .i64 b] := fun d => by
    simp [Program.keyLits, Tryd.underlying93, Tryd.underlying3, cellsSec, cellsInt, w1, w2]
  obtain ⟨d, hd⟩ : ∃ d, Tryd.prog.types.size + 1 = d + 2 := ⟨Tryd.prog.types.size - 1, by have h : (93 : Nat) < Tryd.prog.types.size := rowSec; omega⟩
  have hk := hl d
  rw [← hd] at hk
  unfold keyOf secV
  rw [Tryd.underlying93]
  simp only [keyTypeSec, Value.formed, Tryd.underlying93, cellsSec, Value.cells]
  refine ⟨.string (keyBytes [.int .i64 a, .int .i64 b]), ?_⟩
  rw [hk]
  rfl
theorem keySecOk {p : Int × Int} (h : SecOk p) : ∃ l, keyOf Tryd.prog 93 (secV p) = some l := by
  unfold SecOk at h
  exact keySec (by unfold I64; omega) (by unfold I64; omega)

section
variable {R : Nat → Prop} {w w' : World} {own own' : Nat → Option Nat} {k : Nat} {mark : Int × Int → Prop}
theorem MarksE.ok {es : Array MapEntry} {clock : Nat} (h : MarksE w k es clock mark) {p : Int × Int} (hp : mark p) : SecOk p := by
  obtain ⟨e, he, hk⟩ := (h.iff_ p).1 hp
  obtain ⟨q, hq, hk2, _⟩ := h.ent e he
  rw [hk] at hk2
  rw [secV_inj hk2]
  exact hq
theorem MarksE.look {es : Array MapEntry} {clock : Nat} (h : MarksE w k es clock mark) {p : Int × Int} (hp : SecOk p) :
    (mark p ∧ ∀ W : World, Mb k es clock W → (Instr.lookup 80 (.map (some k)) (secV p) false).run Tryd.prog W = .ok (.bool true) W) ∨
    (¬ mark p ∧ ∀ W : World, Mb k es clock W → (Instr.lookup 80 (.map (some k)) (secV p) false).run Tryd.prog W = .ok (.bool false) W) := by
  obtain ⟨l, hl⟩ := keySecOk hp
  rcases h.map.look_any lawSec Tryd.underlying80 zeroBool hl with ⟨h1, h2⟩ | ⟨e0, h1, h2, h3⟩
  · exact .inr ⟨fun hm => by
      obtain ⟨e, he, hk⟩ := (h.iff_ p).1 hm
      exact h2 e he hk, h1⟩
  · obtain ⟨_, _, _, hv⟩ := h.ent e0 h1
    rw [hv] at h3
    exact .inl ⟨(h.iff_ p).2 ⟨e0, h1, h2⟩, h3⟩
theorem MarksE.put {es : Array MapEntry} {clock : Nat} (h : MarksE w k es clock mark) {p : Int × Int} (hp : SecOk p) :
    ∃ es' clock', (Instr.mapUpdate 80 (.map (some k)) (secV p) (.bool true)).run Tryd.prog w = .ok () (setBlock w k (.map es' clock')) ∧
      MarksE (setBlock w k (.map es' clock')) k es' clock' (fun q => q = p ∨ mark q) := by
  obtain ⟨l, hl⟩ := keySecOk hp
  obtain ⟨es', clock', hrun, hm', who, stay, new, _⟩ := h.map.put lawSec Tryd.underlying80 (val := .bool true) hl
  refine ⟨es', clock', hrun, ⟨hm', fun e he => ?_, fun q => ?_⟩⟩
  · rcases who e he with ⟨h2, _⟩ | ⟨h2, h3⟩
    · exact h.ent e h2
    · exact ⟨p, hp, h2, h3⟩
  · constructor
    · rintro (rfl | hq)
      · exact new
      · obtain ⟨e, he, hk⟩ := (h.iff_ q).1 hq
        by_cases hqp : q = p
        · subst hqp; exact new
        · exact ⟨e, stay e he (by rw [hk]; exact fun e1 => hqp (secV_inj e1)), hk⟩
    · rintro ⟨e, he, hk⟩
      rcases who e he with ⟨h2, _⟩ | ⟨h2, _⟩
      · exact .inr ((h.iff_ q).2 ⟨e, h2, hk⟩)
      · exact .inl (secV_inj (hk.symm.trans h2))
theorem MarksE.drop {es : Array MapEntry} {clock : Nat} (ty : TypeId) (h : MarksE w k es clock mark) {p : Int × Int} (hp : SecOk p) :
    ∃ es', (Builtin.delete_ #[80, 93] ty #[.map (some k), secV p]).run Tryd.prog w = .ok (.tuple #[]) (setBlock w k (.map es' clock)) ∧
      MarksE (setBlock w k (.map es' clock)) k es' clock (fun q => mark q ∧ q ≠ p) := by
  obtain ⟨l, hl⟩ := keySecOk hp
  obtain ⟨es', hrun, hm', who⟩ := h.map.drop ty lawSec Tryd.underlying80 hl
  refine ⟨es', hrun, ⟨hm', fun e he => h.ent e ((who e).1 he).1, fun q => ?_⟩⟩
  constructor
  · rintro ⟨hq, hne⟩
    obtain ⟨e, he, hk⟩ := (h.iff_ q).1 hq
    exact ⟨e, (who e).2 ⟨he, by rw [hk]; exact fun e1 => hne (secV_inj e1)⟩, hk⟩
  · rintro ⟨e, he, hk⟩
    have h1 := (who e).1 he
    exact ⟨(h.iff_ q).2 ⟨e, h1.1, hk⟩, fun e1 => h1.2 (by rw [hk, e1])⟩
theorem MarksE.clear {es : Array MapEntry} {clock : Nat} (ty : TypeId) (h : MarksE w k es clock mark) :
    (Builtin.clear_ #[80] ty #[.map (some k)]).run Tryd.prog w = .ok (.tuple #[]) (setBlock w k (.map #[] clock)) ∧ MarksE (setBlock w k (.map #[] clock)) k #[] clock (fun _ => False) := by
  obtain ⟨h1, h2⟩ := h.map.clear ty Tryd.underlying80
  exact ⟨h1, h2, by simp, by simp⟩
end

section
variable {w w' W3 w4 : World} {own : Nat → Option Nat} {b m k : Nat} {pv kv : Value} {mark mark' : Int × Int → Prop} {s : Ds}
theorem Dk.km (h : Dk w own b m k pv kv mark s) : k < w.heap.size := h.inb k 2 h.ok
theorem Dk.mm (h : Dk w own b m k pv kv mark s) : m < w.heap.size := h.inb m 1 h.om
theorem Dk.bk (h : Dk w own b m k pv kv mark s) : b ≠ k := fun e => by have h1 := h.ob; rw [e, h.ok] at h1; cases h1
theorem Dk.bm (h : Dk w own b m k pv kv mark s) : b ≠ m := fun e => by have h1 := h.ob; rw [e, h.om] at h1; cases h1
/-- The map of marks alone has turned. -/
theorem Dk.setMarks (h : Dk w own b m k pv kv mark s) {es' : Array MapEntry} {clock' : Nat} (hm : MarksE (setBlock w k (.map es' clock')) k es' clock' mark') :
    Dk (setBlock w k (.map es' clock')) own b m k pv kv mark' s ∧ Tr (fun r => r = 2) w own own (setBlock w k (.map es' clock')) := by
  have t : Tr (fun r => r = 2) w own own (setBlock w k (.map es' clock')) := (Tr.refl (fun r => r = 2) h.inb).setMap (r := 2) h.ok rfl _
  exact ⟨⟨t.blkR h.blk h.ob (by decide), h.ob, h.om, h.ok, h.files.keep h.om t (fun r e => .inr (.inl e)), ⟨_, _, hm⟩, h.pend.keep t (by decide), h.keep.keep t (by decide), t.inb⟩, t⟩
theorem Dk.congr (h : Dk w own b m k pv kv mark s) (e : mark = mark') : Dk w own b m k pv kv mark' s := e ▸ h

/-- A sector is appended to the pending ones. -/
theorem pend_fin {v' : Value} {f n : Int} (h : Dk w own b m k pv kv mark s) (t0 : Tr (fun _ => False) w own own W3) (ho : w4.ownsRow 0 93 2 v' (s.pend.length + 1) (secC s.pend ++ [.int .i64 f, .int .i64 n]))
    (hg : W3.grownBy w4 pv.ownBlock) (hb : v'.ownBlock = pv.ownBlock ∨ v'.ownBlock = some W3.heap.size) :
    Blk w4 b 83 #[.map (some m), pv, .map (some k), .int .i64 s.lost, .int .i64 s.left, kv, .bool s.down] ∧
    ∃ own', Dk (w4.setCell ⟨b, 1, none⟩ v') own' b m k v' kv mark { s with pend := s.pend ++ [(f, n)] } ∧ Tr (fun _ => True) w own own' (w4.setCell ⟨b, 1, none⟩ v') := by
  have hp0 := h.pend.keep t0 (fun h => h)
  obtain ⟨own', hrow, t1⟩ := Row.after (R := fun r => r = 3) hp0 t0.inb rfl hg ho (hb.imp id (fun e => ⟨_, Nat.le_refl _, e⟩))
  have t2 : Tr (fun r => r = 3) w own own' w4 := (t0.weak (fun _ h => h.elim)).trans t1
  have hrow' : Row w4 own' 3 93 2 v' (s.pend ++ [(f, n)]).length (secC (s.pend ++ [(f, n)])) := by
    rw [secC_app, List.length_append]
    exact hrow
  have hblk := t2.blkR h.blk h.ob (by decide)
  have t3 : Tr (fun r => r = 0) w4 own' own' (w4.setCell ⟨b, 1, none⟩ v') := (Tr.refl (fun r => r = 0) t2.inb).setOwn (p := ⟨b, 1, none⟩) (r := 0) (t2.role h.blk.lt h.ob) rfl v'
  refine ⟨hblk, own', ⟨hblk.set_ 1 _, t2.role h.blk.lt h.ob, t2.role h.mm h.om, t2.role h.km h.ok, (h.files.keep h.om t2 (fun r e => .inr (.inr (.inl e)))).keep (t2.role h.mm h.om) t3 (fun r e => .inl e),
    (h.marks.keep h.ok t2 (by decide)).keep (t2.role h.km h.ok) t3 (by decide), hrow'.keep t3 (by decide), (h.keep.keep t2 (by decide)).keep t3 (by decide), t3.inb⟩, (t2.weak (fun _ _ => trivial)).trans (t3.weak (fun _ _ => trivial))⟩
end

end Go.Proofs.YtjlndgkahmcfdaaDoor
