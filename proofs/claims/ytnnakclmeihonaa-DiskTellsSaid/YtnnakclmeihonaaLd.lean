/- The walks of do and played. Conditions: sizes of what comes in, as few has them. -/
import Derived.Test.YtnnakclmeihonaaLa
namespace Go.Proofs.Ytnnakclmeihonaa
open Go.RowKit Go.ChangeMaps

theorem i64_and7 (n : Int) : bits .and .i64 n 7 = n % 8 := by
  have h1 : (BitVec.ofInt 64 7).toNat = 2 ^ 3 - 1 := by decide
  have key : (BitVec.ofInt 64 n &&& BitVec.ofInt 64 7).toNat = (n % ((2 ^ 64 : Nat) : Int)).toNat % 2 ^ 3 := by
    rw [BitVec.toNat_and, BitVec.toNat_ofInt, h1, Nat.and_two_pow_sub_one_eq_mod]
  show IntKind.i64.wrap ((BitVec.ofInt 64 n &&& BitVec.ofInt 64 7).toNat : Nat) = n % 8
  rw [key, IntKind.wrap_i64]
  omega
theorem i64_and3 (n : Int) : bits .and .i64 n 3 = n % 4 := by
  have h1 : (BitVec.ofInt 64 3).toNat = 2 ^ 2 - 1 := by decide
  have key : (BitVec.ofInt 64 n &&& BitVec.ofInt 64 3).toNat = (n % ((2 ^ 64 : Nat) : Int)).toNat % 2 ^ 2 := by
    rw [BitVec.toNat_and, BitVec.toNat_ofInt, h1, Nat.and_two_pow_sub_one_eq_mod]
  show IntKind.i64.wrap ((BitVec.ofInt 64 n &&& BitVec.ofInt 64 3).toNat : Nat) = n % 4
  rw [key, IntKind.wrap_i64]
  omega

/-- An act, plainly. -/
def doP (s : Ds) (x : Ac) : Ds × Int :=
  if x.d % 8 = 2 then syncP s x.f else if x.d % 8 = 3 then truncP s x.f x.n else if x.d % 8 = 4 then ({ s with lost := max (x.n % 4) 0 }, 0)
  else if x.d % 8 = 5 then ({ s with left := pos x.n, keep := x.keep }, 0) else if x.d % 8 = 6 then (crashP s x.keep, 0) else if x.d % 8 = 7 then ({ s with down := false }, 0)
  else writeP s x.f x.n x.s.data.toList
def play (s : Ds) (xs : List Ac) : Ds := xs.foldl (fun s x => (doP s x).1) s
theorem play_snoc {s : Ds} {xs : List Ac} {k : Nat} {x : Ac} (h : xs[k]? = some x) : play s (xs.take (k + 1)) = (doP (play s (xs.take k)) x).1 := by
  unfold play
  rw [take_snoc_ h, List.foldl_append]
  rfl
def actV (x : Ac) (A : Option Addr) (c : Nat) : Value := .agg #[.int .i64 x.d, .int .i64 x.f, .int .i64 x.n, .string x.s, .slice A x.keep.length c]
def actC (x : Ac) (A : Option Addr) (c : Nat) : Array Value := #[.int .i64 x.d, .int .i64 x.f, .int .i64 x.n, .string x.s, .slice A x.keep.length c]

theorem XEnd.pre {W w w' : World} {own : Nat → Option Nat} {b : Nat} {s s0 : Ds} {v : Value} {e : Ending} {o : Obj} (h : Dx W w own b s0) (he : XEnd W (w.alloc o) own b s v e w') : XEnd W w own b s v e w' := by
  obtain ⟨own', rfl, h1, t⟩ := he
  exact ⟨own', rfl, h1, ((Tr.refl _ h.da.inb).alloc o).trans t⟩
theorem Nums.alloc {w : World} {own : Nat → Option Nat} {A : Option Addr} {n : Nat} {l : List Int} (h : Nums w own A n l) (o : Obj) : Nums (w.alloc o) own A n l :=
  ⟨(h.1.alloc (Nat.le_refl _) o).more (by simp), h.2.1, h.2.2⟩

set_option maxRecDepth 4000 in
set_option maxHeartbeats 2000000 in
theorem do_any {W w : World} {own : Nat → Option Nat} {b : Nat} {s : Ds} (h : Dx W w own b s) (x : Ac) (A : Option Addr) (c : Nat) (hk : Nums w own A x.keep.length x.keep) (hf : x.Fits) (hs : x.s.size ≤ 16777216) :
    Calls Try.prog 12 #[.pointer (some ⟨b, 0, none⟩), actV x A c] w (XEnd W w own b (doP s x).1 (.int .i64 (doP s x).2)) := by
  have H1 := Lib.hid (h.alloc (.cells (actC x A c) 33))
  have HK := Lib.hid (hk.alloc (.cells (actC x A c) 33))
  have HP : Hid (∀ (s' : Ds) (v : Value) (e : Ending) (w' : World), XEnd W (w.alloc (.cells (actC x A c) 33)) own b s' v e w' → XEnd W w own b s' v e w') := fun _ _ _ _ he => XEnd.pre h he
  unfold actC at H1 HK HP
  unfold actV
  clear h hk
  obtain ⟨k, hkk⟩ : ∃ k, x.d % 8 = k := ⟨_, rfl⟩
  have e7 : bits .and .i64 x.d 7 = k := (i64_and7 _).trans hkk
  have e3 := i64_and3 x.n
  have hff := hf.f
  have hfn := hf.n
  have hn4 : I64 (x.n % 4) := by unfold I64; omega
  by_cases h2 : k = 2
  · subst h2
    have hd : doP s x = syncP s x.f := by unfold doP; rw [if_pos hkk]
    rw [hd]
    clear hd hkk
    go_enter Try.func12, Try.ntmps12
    go_wp2_with fail
    refine (x_sync H1.out rfl rfl).mono ?_
    intro e w' he
    obtain ⟨own', rfl, h3, t3⟩ := HP.out _ _ _ _ he
    have HE := Lib.hid h3
    have HT := Lib.hid t3
    clear h3 t3 he
    go_wp2_with fail
    go_ret
    exact ⟨own', rfl, HE.out, HT.out⟩
  · by_cases h3 : k = 3
    · subst h3
      have hd : doP s x = truncP s x.f x.n := by unfold doP; rw [if_neg (by rw [hkk]; decide), if_pos hkk]
      rw [hd]
      clear hd hkk
      go_enter Try.func12, Try.ntmps12
      go_wp2_with fail
      refine (x_trunc H1.out hff rfl rfl).mono ?_
      intro e w' he
      obtain ⟨own', rfl, h3, t3⟩ := HP.out _ _ _ _ he
      have HE := Lib.hid h3
      have HT := Lib.hid t3
      clear h3 t3 he
      go_wp2_with fail
      go_ret
      exact ⟨own', rfl, HE.out, HT.out⟩
    · by_cases h4 : k = 4
      · subst h4
        have hd : doP s x = ({ s with lost := max (x.n % 4) 0 }, 0) := by unfold doP; rw [if_neg (by rw [hkk]; decide), if_neg (by rw [hkk]; decide), if_pos hkk]
        rw [hd]
        clear hd hkk
        go_enter Try.func12, Try.ntmps12
        go_wp2_with fail
        first | refine (x_lose H1.out hn4).mono ?_ | (rw [e3]; refine (x_lose H1.out hn4).mono ?_)
        intro e w' he
        obtain ⟨own', rfl, h3, t3⟩ := HP.out _ _ _ _ he
        have HE := Lib.hid h3
        have HT := Lib.hid t3
        clear h3 t3 he
        go_wp2_with fail
        go_ret
        exact ⟨own', rfl, HE.out, HT.out⟩
      · by_cases h5 : k = 5
        · subst h5
          have hd : doP s x = ({ s with left := pos x.n, keep := x.keep }, 0) := by unfold doP; rw [if_neg (by rw [hkk]; decide), if_neg (by rw [hkk]; decide), if_neg (by rw [hkk]; decide), if_pos hkk]
          rw [hd]
          clear hd hkk
          go_enter Try.func12, Try.ntmps12
          go_wp2_with fail
          refine (x_arm H1.out hfn HK.out).mono ?_
          intro e w' he
          obtain ⟨own', rfl, h3, t3⟩ := HP.out _ _ _ _ he
          have HE := Lib.hid h3
          have HT := Lib.hid t3
          clear h3 t3 he
          go_wp2_with fail
          go_ret
          exact ⟨own', rfl, HE.out, HT.out⟩
        · by_cases h6 : k = 6
          · subst h6
            have hd : doP s x = (crashP s x.keep, 0) := by unfold doP; rw [if_neg (by rw [hkk]; decide), if_neg (by rw [hkk]; decide), if_neg (by rw [hkk]; decide), if_neg (by rw [hkk]; decide), if_pos hkk]
            rw [hd]
            clear hd hkk
            go_enter Try.func12, Try.ntmps12
            go_wp2_with fail
            refine (x_crash H1.out HK.out rfl).mono ?_
            intro e w' he
            obtain ⟨own', rfl, h3, t3⟩ := HP.out _ _ _ _ he
            have HE := Lib.hid h3
            have HT := Lib.hid t3
            clear h3 t3 he
            go_wp2_with fail
            go_ret
            exact ⟨own', rfl, HE.out, HT.out⟩
          · by_cases h7 : k = 7
            · subst h7
              have hd : doP s x = ({ s with down := false }, 0) := by unfold doP; rw [if_neg (by rw [hkk]; decide), if_neg (by rw [hkk]; decide), if_neg (by rw [hkk]; decide), if_neg (by rw [hkk]; decide), if_neg (by rw [hkk]; decide), if_pos hkk]
              rw [hd]
              clear hd hkk
              go_enter Try.func12, Try.ntmps12
              go_wp2_with fail
              refine (x_start H1.out).mono ?_
              intro e w' he
              obtain ⟨own', rfl, h3, t3⟩ := HP.out _ _ _ _ he
              have HE := Lib.hid h3
              have HT := Lib.hid t3
              clear h3 t3 he
              go_wp2_with fail
              go_ret
              exact ⟨own', rfl, HE.out, HT.out⟩
            · have hd : doP s x = writeP s x.f x.n x.s.data.toList := by unfold doP; rw [if_neg (by rw [hkk]; exact h2), if_neg (by rw [hkk]; exact h3), if_neg (by rw [hkk]; exact h4), if_neg (by rw [hkk]; exact h5), if_neg (by rw [hkk]; exact h6), if_neg (by rw [hkk]; exact h7)]
              rw [hd]
              clear hd hkk
              go_enter Try.func12, Try.ntmps12
              go_wp2_with fail
              refine (x_write H1.out hs rfl rfl).mono ?_
              intro e w' he
              obtain ⟨own', rfl, h3', t3⟩ := HP.out _ _ _ _ he
              have HE := Lib.hid h3'
              have HT := Lib.hid t3
              clear h3' t3 he
              go_wp2_with fail
              go_ret
              exact ⟨own', rfl, HE.out, HT.out⟩

/-- A list of numbers that lies below the disk's blocks. -/
theorem Nums.low {W w : World} {own : Nat → Option Nat} {b : Nat} {s : Ds} {A : Option Addr} {n : Nat} {l : List Int} (h : Dx W w own b s) (hr : Reads W W.heap.size 1 A n (inV l)) (hn : n ≤ 1000000) : Nums w own A n l := by
  refine ⟨(hr.below h.below).more h.below.size, fun h0 ad e => ?_, hn⟩
  subst e
  obtain ⟨ad', e1, h1, _⟩ := hr.2 h0
  cases e1
  cases e2 : own ad.block with
  | none => rfl
  | some r => have := h.new _ _ e2; omega

end Go.Proofs.Ytnnakclmeihonaa
