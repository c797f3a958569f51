/- Copy: what stands in its loop over the cloned map, purely. No condition but what each says. -/
import Derived.Test.YtnnakclmeihonaaNw
namespace Go.Proofs.Ytnnakclmeihonaa
open Go.RowKit Go.ChangeMaps Go.Maps Go.MapKept

theorem own_below {w w' : World} {base : Nat} {e : TypeId} {size n : Nat} {v : Value} {xs : List Value} {B : Nat} (h : w.ownsRow base e size v n xs) (hb : Below B w w') (hB : ∀ g, v.ownBlock = some g → g < B) : w'.ownsRow base e size v n xs := by
  refine ⟨h.1, ?_⟩
  rcases h.2 with hn | ⟨g, cap, cur, rfl, hb1, hgg, rest⟩
  · exact .inl hn
  · exact .inr ⟨g, cap, cur, rfl, hb1, (hb.block g (hB g rfl)).trans hgg, rest⟩

/-- own, and role r at the slice v's block. -/
def giveV (own : Nat → Option Nat) (v : Value) (r : Nat) : Nat → Option Nat := fun g => if v.ownBlock = some g then some r else own g
theorem giveV_same {own : Nat → Option Nat} {v : Value} {r g : Nat} (h : v.ownBlock = some g) : giveV own v r g = some r := by simp [giveV, h]
theorem giveV_other {own : Nat → Option Nat} {v : Value} {r g : Nat} (h : v.ownBlock ≠ some g) : giveV own v r g = own g := by simp [giveV, h]
theorem Tr.giveV {R : Nat → Prop} {w w' : World} {own own' : Nat → Option Nat} (h : Tr R w own own' w') {v : Value} (hv : ∀ g, v.ownBlock = some g → w.heap.size ≤ g ∧ g < w'.heap.size) (r : Nat) : Tr R w own (giveV own' v r) w' :=
  ⟨h.os, h.tape, h.output, h.size, h.block, fun x hx => (giveV_other (fun e => by have := (hv x e).1; omega)).trans (h.kept x hx), fun x r' e => by
    by_cases hx : v.ownBlock = some x
    · exact (hv x hx).2
    · rw [giveV_other hx] at e; exact h.inb x r' e⟩
theorem Tr.of_below {w w' : World} {own : Nat → Option Nat} (R : Nat → Prop) (hi : ∀ g r, own g = some r → g < w.heap.size) (h : Below w.heap.size w w') : Tr R w own own w' :=
  ⟨h.os, h.tape, h.output, h.size, fun g hg _ => h.block g hg, fun _ _ => rfl, fun g r e => Nat.lt_of_lt_of_le (hi g r e) h.size⟩

structure CpM (w : World) (own : Nat → Option Nat) (wr : World) (own2 : Nat → Option Nat) (m : Nat) (es : Array MapEntry) (clock : Nat) (D : Value → Prop) (data dur : Int → List UInt8) : Prop where
  below : Below w.heap.size w wr
  map : MapAt Try.prog 3 wr m es clock
  ent : ∀ e ∈ es.toList, ∃ f : Int, 0 ≤ f ∧ f < 16 ∧ e.key = .int .i64 f ∧ (FileAt wr own2 f e.val (data f) (dur f) ∨ (¬ D e.key ∧ FileAt w own f e.val (data f) (dur f)))
  out : ∀ f : Int, (∀ e ∈ es.toList, e.key ≠ .int .i64 f) → data f = [] ∧ dur f = []
  om : own2 m = some 1
  new : ∀ g r, own2 g = some r → w.heap.size ≤ g ∧ g < wr.heap.size

section
variable {w wr : World} {own own2 : Nat → Option Nat} {m : Nat} {es : Array MapEntry} {clock : Nat} {D : Value → Prop} {data dur : Int → List UInt8}

theorem CpM.inb (h : CpM w own wr own2 m es clock D data dur) : ∀ g r, own2 g = some r → g < wr.heap.size := fun g r e => (h.new g r e).2
theorem CpM.rows (h : CpM w own wr own2 m es clock D data dur) (hi : ∀ g r, own g = some r → g < w.heap.size) {e : MapEntry} (he : e ∈ es.toList) : ∃ (f : Int) (Ad : Option Addr) (cd : Nat) (Au : Option Addr) (cu : Nat), 0 ≤ f ∧ f < 16 ∧ e.key = .int .i64 f ∧
    e.val = .agg #[.slice Ad (data f).length cd, .slice Au (dur f).length cu] ∧ wr.ownsRow 0 5 1 (.slice Ad (data f).length cd) (data f).length (bv (data f)) ∧ wr.ownsRow 0 5 1 (.slice Au (dur f).length cu) (dur f).length (bv (dur f)) := by
  obtain ⟨f, f0, f1, hk, hv⟩ := h.ent e he
  have : ∃ dv uv, e.val = .agg #[dv, uv] ∧ wr.ownsRow 0 5 1 dv (data f).length (bv (data f)) ∧ wr.ownsRow 0 5 1 uv (dur f).length (bv (dur f)) := by
    rcases hv with ⟨dv, uv, e1, r1, r2⟩ | ⟨_, dv, uv, e1, r1, r2⟩
    · exact ⟨dv, uv, e1, r1.1, r2.1⟩
    · exact ⟨dv, uv, e1, own_below r1.1 h.below (fun g e => hi g _ (r1.2 g e)), own_below r2.1 h.below (fun g e => hi g _ (r2.2 g e))⟩
  obtain ⟨dv, uv, e1, r1, r2⟩ := this
  obtain ⟨Ad, cd, rfl, _, _⟩ := own_slice r1
  obtain ⟨Au, cu, rfl, _, _⟩ := own_slice r2
  exact ⟨f, Ad, cd, Au, cu, f0, f1, hk, e1, r1, r2⟩
/-- A block that has no role has turned, and it is not the map. -/
theorem CpM.kept (h : CpM w own wr own2 m es clock D data dur) {w5 : World} {r : Nat} (hg : wr.grownBy w5 (some r)) (hr : own2 r = none) (hw : w.heap.size ≤ r) : CpM w own w5 own2 m es clock D data dur := by
  have hk : ∀ g ρ, own2 g = some ρ → w5.heap[g]? = wr.heap[g]? := fun g ρ e => hg.block g (h.new g ρ e).2 (fun e1 => by cases e1; rw [hr] at e; cases e)
  refine ⟨h.below.grown hg h.below.size (fun g e => by cases e; exact hw), h.map.kept (hk m 1 h.om), fun e he => ?_, h.out, h.om, fun g ρ e => ⟨(h.new g ρ e).1, Nat.lt_of_lt_of_le (h.new g ρ e).2 hg.size⟩⟩
  obtain ⟨f, f0, f1, e1, hv⟩ := h.ent e he
  refine ⟨f, f0, f1, e1, ?_⟩
  rcases hv with ⟨dv, uv, e2, r1, r2⟩ | hv
  · exact .inl ⟨dv, uv, e2, r1.kept0 hk, r2.kept0 hk⟩
  · exact .inr hv
theorem CpM.files (h : CpM w own wr own2 m es clock D data dur) (hD : ∀ e ∈ es.toList, D e.key) : FilesE wr own2 m es clock data dur :=
  ⟨h.map, fun e he => by
    obtain ⟨f, f0, f1, hk, hv⟩ := h.ent e he
    rcases hv with hv | ⟨hn, _⟩
    · exact ⟨f, f0, f1, hk, hv⟩
    · exact absurd (hD e he) hn, h.out⟩

/-- A slice that a clone has made since w5. -/
def Got (w5 W : World) (v : Value) (l : List UInt8) : Prop := W.ownsRow 0 5 1 v l.length (bv l) ∧ (∀ g, v.ownBlock = some g → w5.heap.size ≤ g) ∧ Below w5.heap.size w5 W
theorem Got.first {w5 W : World} (hb : Below w5.heap.size w5 W) {l : List UInt8} {e : Ending} {W' : World} (h : Cloned W 5 1 l.length (bv l) e W') : ∃ A c, e = .returned (.slice A l.length c) ∧ Got w5 W' (.slice A l.length c) l ∧ Below W.heap.size W W' := by
  obtain ⟨v', rfl, h1, h2, h3⟩ := h
  obtain ⟨A, c, rfl, _, _⟩ := own_slice h1
  exact ⟨A, c, rfl, ⟨h1, fun g e => Nat.le_trans hb.size (h3 g e), hb.trans (h2.mono hb.size)⟩, h2⟩
theorem Got.second {w5 W : World} {va : Value} {la : List UInt8} (ha : Got w5 W va la) {l : List UInt8} {e : Ending} {W' : World} (h : Cloned W 5 1 l.length (bv l) e W') :
    ∃ A c, e = .returned (.slice A l.length c) ∧ Got w5 W' (.slice A l.length c) l ∧ Below W.heap.size W W' ∧ Got w5 W' va la ∧ ∀ g, va.ownBlock = some g → (Value.slice A l.length c).ownBlock ≠ some g := by
  obtain ⟨v', rfl, h1, h2, h3⟩ := h
  obtain ⟨A, c, rfl, _, _⟩ := own_slice h1
  have hlt : ∀ g, va.ownBlock = some g → g < W.heap.size := fun g e => (ha.1.lt g e).2
  refine ⟨A, c, rfl, ⟨h1, fun g e => Nat.le_trans ha.2.2.size (h3 g e), ha.2.2.trans (h2.mono ha.2.2.size)⟩, h2, ⟨own_below ha.1 h2 hlt, ha.2.1, ha.2.2.trans (h2.mono ha.2.2.size)⟩, fun g e e1 => ?_⟩
  have := hlt g e
  have := h3 g e1
  omega

/-- The store of a round. -/
theorem copy_put {w5 W : World} {es : Array MapEntry} (h : CpM w own w5 own2 m es clock D data dur) {f : Int} (f0 : 0 ≤ f) (f1 : f < 16) (hin : ∃ x ∈ es.toList, x.key = .int .i64 f) {v1 v2 : Value} (g1 : Got w5 W v1 (data f)) (g2 : Got w5 W v2 (dur f))
    (hne : ∀ g, v1.ownBlock = some g → v2.ownBlock ≠ some g) {r : Nat} {seen : Array Nat} (hit : ItAt w5 m r es clock seen (fun q => q = .int .i64 f ∨ D q)) (hr : own2 r = none) (hrl : r < w5.heap.size) :
    ∃ w3, (Instr.mapUpdate 52 (.map (some m)) (.int .i64 f) (.agg #[v1, v2])).run Try.prog W = .ok () w3 ∧ (∀ g, g < W.heap.size → g ≠ m → w3.heap[g]? = W.heap[g]?) ∧
      ∃ es' clock' own3, CpM w own w3 own3 m es' clock' (fun q => q = .int .i64 f ∨ D q) data dur ∧ Tr (fun ρ => ρ = 1) w5 own2 own3 w3 ∧ ItAt w3 m r es' clock' seen (fun q => q = .int .i64 f ∨ D q) ∧ w3.rangeLeft m r = (leftOf es seen).size := by
  have hmW : MapAt Try.prog 3 W m es clock := h.map.kept (g1.2.2.block m h.map.lt)
  obtain ⟨es', clock', hrun, hm', who, stay, new, born⟩ := hmW.put lawInt Try.underlying52 (val := .agg #[v1, v2]) (keyInt (i64_small f0 (by omega)))
  have t0 : Tr (fun ρ => ρ = 1) w5 own2 (giveV (giveV own2 v2 (duR f)) v1 (daR f)) W :=
    ((Tr.of_below _ h.inb g1.2.2).giveV (fun g e => ⟨g2.2.1 g e, (g2.1.lt g e).2⟩) (duR f)).giveV (fun g e => ⟨g1.2.1 g e, (g1.1.lt g e).2⟩) (daR f)
  have t1 := t0.setMap (r := 1) h.om rfl (.map es' clock')
  have hmr : m ≠ r := by rintro rfl; rw [h.om] at hr; cases hr
  have hit2 := It.stored (w' := setBlock W m (.map es' clock')) hit ((setBlock_other (Ne.symm hmr) _).trans (g1.2.2.block r hrl)) hm'.blk (born hin) (fun x' hx' => (who x' hx').imp id (·.1)) (.inl rfl) (fun q hq => hq)
  refine ⟨_, hrun, fun g _ hgm => setBlock_other hgm _, es', clock', _, ⟨?_, hm', fun e he => ?_, fun g hg => ?_, t1.role h.map.lt h.om, fun g ρ e => ?_⟩, t1, hit2.1, (It.left hit2.1).trans hit2.2⟩
  · exact (h.below.trans (g1.2.2.mono h.below.size)).grown (setBlock_grown W m _) (by have := h.below.size; have := g1.2.2.size; omega) (fun g e => by cases e; exact (h.new m 1 h.om).1)
  · rcases who e he with ⟨h2, h3⟩ | ⟨h2, h3⟩
    · obtain ⟨g, g0, g1', e1, hv⟩ := h.ent e h2
      refine ⟨g, g0, g1', e1, ?_⟩
      rcases hv with hv | ⟨hv1, hv2⟩
      · exact .inl (hv.keep t1 (by unfold daR; omega) (by unfold duR; omega))
      · exact .inr ⟨fun hd => hd.elim h3 hv1, hv2⟩
    · have tW : Tr (fun ρ => ρ = 1) W (giveV (giveV own2 v2 (duR f)) v1 (daR f)) (giveV (giveV own2 v2 (duR f)) v1 (daR f)) (setBlock W m (.map es' clock')) := (Tr.refl (fun ρ => ρ = 1) t0.inb).setMap (r := 1) (t0.role h.map.lt h.om) rfl _
      have r1 : Row W (giveV (giveV own2 v2 (duR f)) v1 (daR f)) (daR f) 5 1 v1 (data f).length (bv (data f)) := ⟨g1.1, fun g e => giveV_same e⟩
      have r2 : Row W (giveV (giveV own2 v2 (duR f)) v1 (daR f)) (duR f) 5 1 v2 (dur f).length (bv (dur f)) := ⟨g2.1, fun g e => (giveV_other (fun e1 => hne g e1 e)).trans (giveV_same e)⟩
      exact ⟨f, f0, f1, h2, .inl ⟨v1, v2, h3, r1.keep tW (by unfold daR; omega), r2.keep tW (by unfold duR; omega)⟩⟩
  · refine h.out g (fun e he hk => ?_)
    by_cases hgf : g = f
    · subst hgf
      obtain ⟨x, hx, hk'⟩ := new
      exact hg x hx hk'
    · exact hg e (stay e he (by rw [hk]; intro e1; injection e1 with _ e1; exact hgf e1)) hk
  · refine ⟨?_, t1.inb g ρ e⟩
    by_cases hg : g < w5.heap.size
    · rw [t1.kept g hg] at e; exact (h.new g ρ e).1
    · have := h.below.size; omega
end

end Go.Proofs.Ytnnakclmeihonaa
