/- What a disk of the program is in memory: a struct, two maps, and slices, each in a block with a role; the maps' laws in these words. No condition but what each says. -/
import Derived.Test.YtjlndgkahmcfdaaDoorPt
import Derived.Test.YtjlndgkahmcfdaaDoorCl
namespace Go.Proofs.YtjlndgkahmcfdaaDoor
set_option maxRecDepth 8000
open Go.RowKit Go.ChangeMaps Go.Maps Go.MapKept

/-- A disk, plainly. -/
structure Ds where
  data : Int → List UInt8
  dur : Int → List UInt8
  pend : List (Int × Int)
  lost : Int
  left : Int
  keep : List Int
  down : Bool

def daR (f : Int) : Nat := 5 + 2 * f.toNat
def duR (f : Int) : Nat := 6 + 2 * f.toNat
def secV (p : Int × Int) : Value := .agg #[.int .i64 p.1, .int .i64 p.2]
def secC (l : List (Int × Int)) : List Value := l.flatMap fun p => [.int .i64 p.1, .int .i64 p.2]
def inV (l : List Int) : List Value := l.map (Value.int .i64)
def SecOk (p : Int × Int) : Prop := 0 ≤ p.1 ∧ p.1 < 16 ∧ 0 ≤ p.2 ∧ p.2 ≤ 262144
def I64 (f : Int) : Prop := -9223372036854775808 ≤ f ∧ f ≤ 9223372036854775807

theorem lawInt : Keyed Tryd.prog 3 := int_keyed Tryd.underlying3
theorem keyInt {f : Int} (h : I64 f) : keyOf Tryd.prog 3 (.int .i64 f) = some (.int .i64 f) := keyOf_int_mk Tryd.underlying3 (WalkArith.wf_i64 (by unfold I64 at h; omega))
theorem i64_small {f : Int} (h0 : 0 ≤ f) (h1 : f ≤ 1000000000) : I64 f := by unfold I64; omega

/-- A file's value. -/
def FileAt (w : World) (own : Nat → Option Nat) (f : Int) (v : Value) (da du : List UInt8) : Prop :=
  ∃ dv uv, v = .agg #[dv, uv] ∧ Row w own (daR f) 5 1 dv da.length (bv da) ∧ Row w own (duR f) 5 1 uv du.length (bv du)

structure FilesE (w : World) (own : Nat → Option Nat) (m : Nat) (es : Array MapEntry) (clock : Nat) (data dur : Int → List UInt8) : Prop where
  map : MapAt Tryd.prog 3 w m es clock
  ent : ∀ e ∈ es.toList, ∃ f : Int, 0 ≤ f ∧ f < 16 ∧ e.key = .int .i64 f ∧ FileAt w own f e.val (data f) (dur f)
  out : ∀ f : Int, (∀ e ∈ es.toList, e.key ≠ .int .i64 f) → data f = [] ∧ dur f = []

def Files (w : World) (own : Nat → Option Nat) (m : Nat) (data dur : Int → List UInt8) : Prop := ∃ es clock, FilesE w own m es clock data dur

structure MarksE (w : World) (k : Nat) (es : Array MapEntry) (clock : Nat) (mark : Int × Int → Prop) : Prop where
  map : MapAt Tryd.prog 93 w k es clock
  ent : ∀ e ∈ es.toList, ∃ p : Int × Int, SecOk p ∧ e.key = secV p ∧ e.val = .bool true
  iff_ : ∀ p : Int × Int, mark p ↔ ∃ e ∈ es.toList, e.key = secV p

def Marks (w : World) (k : Nat) (mark : Int × Int → Prop) : Prop := ∃ es clock, MarksE w k es clock mark

structure Dk (w : World) (own : Nat → Option Nat) (b m k : Nat) (pv kv : Value) (mark : Int × Int → Prop) (s : Ds) : Prop where
  blk : Blk w b 83 #[.map (some m), pv, .map (some k), .int .i64 s.lost, .int .i64 s.left, kv, .bool s.down]
  ob : own b = some 0
  om : own m = some 1
  ok : own k = some 2
  files : Files w own m s.data s.dur
  marks : Marks w k mark
  pend : Row w own 3 93 2 pv s.pend.length (secC s.pend)
  keep : Row w own 4 3 1 kv s.keep.length (inV s.keep)
  inb : ∀ g r, own g = some r → g < w.heap.size

theorem secV_inj {p q : Int × Int} (h : secV p = secV q) : p = q := by
  unfold secV at h
  injection h with h
  have h1 := congrArg (fun a : Array Value => a.toList) h
  simp at h1
  exact Prod.ext h1.1 h1.2
theorem secC_len (l : List (Int × Int)) : (secC l).length = l.length * 2 := by
  induction l with
  | nil => rfl
  | cons p l ih =>
    show ([Value.int .i64 p.1, .int .i64 p.2] ++ secC l).length = _
    rw [List.length_append, ih]
    simp
    omega
theorem secC_app (l r : List (Int × Int)) : secC (l ++ r) = secC l ++ secC r := by simp [secC]
theorem inV_len (l : List Int) : (inV l).length = l.length := by simp [inV]
theorem secC_at {l : List (Int × Int)} {i : Nat} {p : Int × Int} (h : l[i]? = some p) : (secC l)[i * 2]? = some (.int .i64 p.1) ∧ (secC l)[i * 2 + 1]? = some (.int .i64 p.2) := by
  induction l generalizing i with
  | nil => simp at h
  | cons q l ih =>
    have e : secC (q :: l) = .int .i64 q.1 :: .int .i64 q.2 :: secC l := rfl
    cases i with
    | zero =>
      simp at h
      subst h
      exact ⟨rfl, rfl⟩
    | succ i =>
      have := ih (i := i) (by simpa using h)
      rw [e]
      refine ⟨?_, ?_⟩
      · rw [show (i + 1) * 2 = i * 2 + 1 + 1 from by omega]
        simpa using this.1
      · rw [show (i + 1) * 2 + 1 = i * 2 + 1 + 1 + 1 from by omega]
        simpa using this.2
theorem secC_one (l : List (Int × Int)) : ∀ u ∈ secC l, u.oneCell' = true := fun u hu => by
  obtain ⟨p, _, hp⟩ := List.mem_flatMap.1 hu
  simp at hp
  rcases hp with rfl | rfl <;> rfl
theorem inV_one (l : List Int) : ∀ u ∈ inV l, u.oneCell' = true := fun u hu => by
  obtain ⟨p, _, rfl⟩ := List.mem_map.1 hu
  rfl

section
variable {R : Nat → Prop} {w w' : World} {own own' : Nat → Option Nat} {m k : Nat} {data dur : Int → List UInt8} {mark : Int × Int → Prop}

theorem FileAt.keep {f : Int} {v : Value} {da du : List UInt8} (h : FileAt w own f v da du) (t : Tr R w own own' w') (h1 : ¬ R (daR f)) (h2 : ¬ R (duR f)) : FileAt w' own' f v da du := by
  obtain ⟨dv, uv, e, r1, r2⟩ := h
  exact ⟨dv, uv, e, r1.keep t h1, r2.keep t h2⟩

theorem FilesE.keep {es : Array MapEntry} {clock : Nat} (h : FilesE w own m es clock data dur) (ho : own m = some 1) (t : Tr R w own own' w') (hR : ∀ r, R r → r = 0 ∨ r = 2 ∨ r = 3 ∨ r = 4) : FilesE w' own' m es clock data dur := by
  have hn : ∀ f, ¬ R (daR f) ∧ ¬ R (duR f) := fun f => ⟨fun h => by have := hR _ h; unfold daR at this; omega, fun h => by have := hR _ h; unfold duR at this; omega⟩
  refine ⟨t.map h.map ho (fun h => by have := hR _ h; omega), fun e he => ?_, h.out⟩
  obtain ⟨f, h0, h1, h2, h3⟩ := h.ent e he
  exact ⟨f, h0, h1, h2, h3.keep t (hn f).1 (hn f).2⟩
theorem Files.keep (h : Files w own m data dur) (ho : own m = some 1) (t : Tr R w own own' w') (hR : ∀ r, R r → r = 0 ∨ r = 2 ∨ r = 3 ∨ r = 4) : Files w' own' m data dur := by
  obtain ⟨es, clock, h⟩ := h
  exact ⟨es, clock, h.keep ho t hR⟩
theorem MarksE.keep {es : Array MapEntry} {clock : Nat} (h : MarksE w k es clock mark) (ho : own k = some 2) (t : Tr R w own own' w') (hR : ¬ R 2) : MarksE w' k es clock mark := ⟨t.map h.map ho hR, h.ent, h.iff_⟩
theorem Marks.keep (h : Marks w k mark) (ho : own k = some 2) (t : Tr R w own own' w') (hR : ¬ R 2) : Marks w' k mark := by
  obtain ⟨es, clock, h⟩ := h
  exact ⟨es, clock, h.keep ho t hR⟩

theorem zeroFile (w : World) : (zeroValue 97).run Tryd.prog w = .ok (.agg #[.slice none 0 0, .slice none 0 0]) w := by kernel_rfl
theorem zeroBool (w : World) : (zeroValue 4).run Tryd.prog w = .ok (.bool false) w := by kernel_rfl

theorem fileField0 (w : World) (x y : Value) : (Instr.field 97 (.agg #[x, y]) 0).run Tryd.prog w = .ok x w := by kernel_rfl
theorem fileField1 (w : World) (x y : Value) : (Instr.field 97 (.agg #[x, y]) 1).run Tryd.prog w = .ok y w := by kernel_rfl

/-- A look-up in the map of files. -/
theorem FilesE.look {es : Array MapEntry} {clock : Nat} (h : FilesE w own m es clock data dur) {f : Int} (hf : I64 f) :
    ∃ dv uv, (∀ W : World, Mb m es clock W → (Instr.lookup 79 (.map (some m)) (.int .i64 f) false).run Tryd.prog W = .ok (.agg #[dv, uv]) W) ∧
      Row w own (daR f) 5 1 dv (data f).length (bv (data f)) ∧ Row w own (duR f) 5 1 uv (dur f).length (bv (dur f)) := by
  rcases h.map.look_any lawInt Tryd.underlying79 zeroFile (keyInt hf) with ⟨h1, h2⟩ | ⟨e0, h1, h2, h3⟩
  · obtain ⟨e1, e2⟩ := h.out f h2
    rw [e1, e2]
    exact ⟨_, _, h1, Row.nil _ _ _ _ _, Row.nil _ _ _ _ _⟩
  · obtain ⟨f', _, _, hk, dv, uv, hv, r1, r2⟩ := h.ent e0 h1
    have : f' = f := by
      rw [h2] at hk
      injection hk with _ hk
      exact hk.symm
    subst this
    rw [hv] at h3
    exact ⟨dv, uv, h3, r1, r2⟩

/-- A store into the map of files, after the two slices of this file alone may have turned. -/
theorem FilesE.put {es : Array MapEntry} {clock : Nat} (h : FilesE w own m es clock data dur) (ho : own m = some 1) {f : Int} (h0 : 0 ≤ f) (h1 : f < 16) (t : Tr R w own own' w') (hR : ∀ r, R r → r = daR f ∨ r = duR f ∨ r = 0 ∨ r = 2 ∨ r = 3 ∨ r = 4)
    {dv uv : Value} {da du : List UInt8} (hd : Row w' own' (daR f) 5 1 dv da.length (bv da)) (hu : Row w' own' (duR f) 5 1 uv du.length (bv du)) :
    ∃ es' clock', (Instr.mapUpdate 79 (.map (some m)) (.int .i64 f) (.agg #[dv, uv])).run Tryd.prog w' = .ok () (setBlock w' m (.map es' clock')) ∧
      FilesE (setBlock w' m (.map es' clock')) own' m es' clock' (upd data f da) (upd dur f du) ∧
      ((∃ x ∈ es.toList, x.key = .int .i64 f) → clock' = clock ∧ es'.toList.map (·.born) = es.toList.map (·.born)) ∧ (∀ x' ∈ es'.toList, (x' ∈ es.toList ∧ x'.key ≠ .int .i64 f) ∨ x'.key = .int .i64 f) := by
  have hm := t.map h.map ho (fun h => by have := hR _ h; unfold daR duR at this; omega)
  obtain ⟨es', clock', hrun, hm', who, stay, new, born⟩ := hm.put lawInt Tryd.underlying79 (val := .agg #[dv, uv]) (keyInt (i64_small h0 (by omega)))
  have t1 : Tr (fun r => r = 1) w' own' own' (setBlock w' m (.map es' clock')) := (Tr.refl (fun r => r = 1) t.inb).setMap (r := 1) (t.role h.map.lt ho) rfl _
  refine ⟨es', clock', hrun, ⟨hm', fun e he => ?_, fun g hg => ?_⟩, born, fun x' hx' => (who x' hx').imp id (·.1)⟩
  · rcases who e he with ⟨h2, h3⟩ | ⟨h2, h3⟩
    · obtain ⟨g, g0, g1, g2, g3⟩ := h.ent e h2
      have hne : g ≠ f := fun e1 => h3 (by rw [g2, e1])
      refine ⟨g, g0, g1, g2, ?_⟩
      rw [upd_other _ hne, upd_other _ hne]
      have g4 : FileAt w' own' g e.val (data g) (dur g) := g3.keep t (fun h => by have := hR _ h; unfold daR duR at this; omega) (fun h => by have := hR _ h; unfold daR duR at this; omega)
      exact g4.keep t1 (by unfold daR; omega) (by unfold duR; omega)
    · refine ⟨f, h0, h1, h2, dv, uv, h3, ?_, ?_⟩
      · rw [upd_same]; exact hd.keep t1 (by unfold daR; omega)
      · rw [upd_same]; exact hu.keep t1 (by unfold duR; omega)
  · have hne : g ≠ f := by
      rintro rfl
      obtain ⟨x, hx, hk⟩ := new
      exact hg x hx hk
    rw [upd_other _ hne, upd_other _ hne]
    refine h.out g (fun e he hk => ?_)
    exact hg e (stay e he (by rw [hk]; intro e1; injection e1 with _ e1; exact hne e1)) hk
end

section
variable {R : Nat → Prop} {w w' : World} {own own' : Nat → Option Nat} {b m k : Nat} {pv kv : Value} {mark : Int × Int → Prop} {s : Ds}

theorem Dk.lt (h : Dk w own b m k pv kv mark s) : b < w.heap.size := h.blk.lt
/-- The struct alone has turned. -/
theorem Dk.struct (h : Dk w own b m k pv kv mark s) (t : Tr (fun r => r = 0) w own own w') (lost left : Int) (down : Bool)
    (hb : Blk w' b 83 #[.map (some m), pv, .map (some k), .int .i64 lost, .int .i64 left, kv, .bool down]) :
    Dk w' own b m k pv kv mark { s with lost := lost, left := left, down := down } :=
  ⟨hb, h.ob, h.om, h.ok, h.files.keep h.om t (fun r e => .inl e), h.marks.keep h.ok t (by decide), h.pend.keep t (by decide), h.keep.keep t (by decide), t.inb⟩
theorem Dk.refl (h : Dk w own b m k pv kv mark s) (R : Nat → Prop) : Tr R w own own w := Tr.refl R h.inb
theorem Dk.set0 (h : Dk w own b m k pv kv mark s) (i : Nat) (u : Value) : Tr (fun r => r = 0) w own own (w.setCell ⟨b, i, none⟩ u) := (Tr.refl (fun r => r = 0) h.inb).setOwn (p := ⟨b, i, none⟩) (r := 0) h.ob rfl u
theorem Dk.setDown (h : Dk w own b m k pv kv mark s) (x : Bool) : Dk (w.setCell ⟨b, 6, none⟩ (.bool x)) own b m k pv kv mark { s with down := x } :=
  h.struct (h.set0 6 _) s.lost s.left x (h.blk.set_ 6 _)
theorem Dk.setLeft (h : Dk w own b m k pv kv mark s) (x : Int) : Dk (w.setCell ⟨b, 4, none⟩ (.int .i64 x)) own b m k pv kv mark { s with left := x } :=
  h.struct (h.set0 4 _) s.lost x s.down (h.blk.set_ 4 _)
theorem Dk.setLost (h : Dk w own b m k pv kv mark s) (x : Int) : Dk (w.setCell ⟨b, 3, none⟩ (.int .i64 x)) own b m k pv kv mark { s with lost := x } :=
  h.struct (h.set0 3 _) x s.left s.down (h.blk.set_ 3 _)
/-- The slice of pending sectors is another one. -/
theorem Dk.setPend (h : Dk w own b m k pv kv mark s) {v : Value} {l : List (Int × Int)} (hr : Row w own 3 93 2 v l.length (secC l)) : Dk (w.setCell ⟨b, 1, none⟩ v) own b m k v kv mark { s with pend := l } := by
  have t := h.set0 1 v
  exact ⟨h.blk.set_ 1 _, h.ob, h.om, h.ok, h.files.keep h.om t (fun r e => .inl e), h.marks.keep h.ok t (by decide), hr.keep t (by decide), h.keep.keep t (by decide), t.inb⟩
theorem Dk.setKeep (h : Dk w own b m k pv kv mark s) {v : Value} {l : List Int} (hr : Row w own 4 3 1 v l.length (inV l)) : Dk (w.setCell ⟨b, 5, none⟩ v) own b m k pv v mark { s with keep := l } := by
  have t := h.set0 5 v
  exact ⟨h.blk.set_ 5 _, h.ob, h.om, h.ok, h.files.keep h.om t (fun r e => .inl e), h.marks.keep h.ok t (by decide), h.pend.keep t (by decide), hr.keep t (by decide), t.inb⟩
/-- What is no block of the disk has turned, or is new. -/
theorem Dk.far (h : Dk w own b m k pv kv mark s) (t : Tr (fun _ => False) w own own' w') : Dk w' own' b m k pv kv mark s :=
  ⟨t.blk h.blk (fun _ _ h => h), t.role h.blk.lt h.ob, t.role (by obtain ⟨es, c, hf⟩ := h.files; exact hf.map.lt) h.om, t.role (by obtain ⟨es, c, hf⟩ := h.marks; exact hf.map.lt) h.ok,
    h.files.keep h.om t (fun r e => e.elim), h.marks.keep h.ok t (fun h => h), h.pend.keep t (fun h => h), h.keep.keep t (fun h => h), t.inb⟩
end

set_option maxHeartbeats 400000 in
theorem start_any (w : World) (own : Nat → Option Nat) (b m k : Nat) (pv kv : Value) (mark : Int × Int → Prop) (s : Ds) (h : Dk w own b m k pv kv mark s) :
    Calls Tryd.prog 25 #[.pointer (some ⟨b, 0, none⟩)] w fun e w' => e = .returned (.tuple #[]) ∧ Dk w' own b m k pv kv mark { s with down := false } ∧ Tr (fun r => r = 0) w own own w' := by
  have c6 := h.blk.cell 6
  have f6 := h.blk.frozen 6
  have HD := Lib.hid h
  clear h
  go_enter Tryd.func25, Tryd.ntmps25
  go_wp2
  go_end0
  exact ⟨rfl, HD.out.setDown _, HD.out.set0 6 _⟩

set_option maxHeartbeats 400000 in
theorem lose_any (w : World) (own : Nat → Option Nat) (b m k : Nat) (pv kv : Value) (mark : Int × Int → Prop) (s : Ds) (n : Int) (h : Dk w own b m k pv kv mark s) :
    Calls Tryd.prog 17 #[.pointer (some ⟨b, 0, none⟩), .int .i64 n] w fun e w' => e = .returned (.tuple #[]) ∧ Dk w' own b m k pv kv mark { s with lost := max n 0 } ∧ Tr (fun r => r = 0) w own own w' := by
  have c3 := h.blk.cell 3
  have f3 := h.blk.frozen 3
  have HD := Lib.hid h
  clear h
  go_enter Tryd.func17, Tryd.ntmps17
  by_cases hn : n < 0
  all_goals
    go_wp2
    go_end0
  · rw [show max n 0 = 0 from by omega]
    exact ⟨rfl, HD.out.setLost _, HD.out.set0 3 _⟩
  · rw [show max n 0 = n from by omega]
    exact ⟨rfl, HD.out.setLost _, HD.out.set0 3 _⟩

set_option maxHeartbeats 400000 in
theorem size_any (w : World) (own : Nat → Option Nat) (b m k : Nat) (pv kv : Value) (mark : Int × Int → Prop) (s : Ds) (f : Int) (hf : I64 f) (h : Dk w own b m k pv kv mark s) :
    Calls Tryd.prog 37 #[.pointer (some ⟨b, 0, none⟩), .int .i64 f] w fun e w' => e = .returned (.int .i64 (s.data f).length) ∧ w = w' := by
  have c0 := h.blk.cell 0
  obtain ⟨es, clock, hfe⟩ := h.files
  obtain ⟨dv, uv, hlk, r1, r2⟩ := hfe.look hf
  obtain ⟨A, c, rfl, _, _⟩ := own_slice r1.1
  have HLK := Lib.hid hlk
  clear r1 r2 h hlk
  have q := fileField0
  go_enter Tryd.func37, Tryd.ntmps37
  go_wp2_with (at_lookup; refine wpList_lookup_run rfl _ _ _ rfl _ _ rfl rfl _ _ (HLK.out _ hfe.map.blk) ?_)
  go_ret
  exact ⟨rfl, rfl⟩

end Go.Proofs.YtjlndgkahmcfdaaDoor
