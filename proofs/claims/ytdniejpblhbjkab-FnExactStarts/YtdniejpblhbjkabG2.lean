/-
  Contracts and plain mathematics, joined: HIntS, HIntSS, HIntSSS, OpenD, OpenL, HGram, GramMath, SpecIn, SpecGramOk, GramOk, LawLib, MarkLib. No statement is proved here.
-/
import Derived.Test.YtdniejpblhbjkabG1
import Derived.Deep.RegionWith
import Derived.Deep.Strs
import Derived.OpenShut
import Derived.Test.YtdniejpblhbjkabChecked
import Derived.Deep.RegionHeld
namespace Go.Proofs.Ytdniejpblhbjkab
open Go.RowKit

theorem toIntS_l (xs : List Int) (a : Option Addr) (c : Nat) (w : World) (h : RD w (.slice a xs.length c) (slD Lay.int xs)) (hn : (Lay.list Lay.int).wt xs ≤ 1048576) :
    Calls Try.prog 11 #[.slice a xs.length c] w fun e w' => ∃ v S, e = .returned v ∧ OD w' w.heap.size v (slD Lay.int xs) S ∧ Below w.heap.size w w' := by
  rw [Lay.wt_ints] at hn
  refine (toIntS_own a c xs w h.reads hn).mono ?_
  rintro e w1 ⟨v, rfl, ho, hb⟩
  exact ⟨v, _, rfl, ho.od, hb⟩
theorem eqIntS_l (xs : List Int) (a b : Option Addr) (c d : Nat) (w : World) (h : RD w (.slice a xs.length c) (slD Lay.int xs)) (g : RD w (.slice b xs.length d) (slD Lay.int xs)) (hn : (Lay.list Lay.int).wt xs ≤ 4194304) :
    Calls Try.prog 13 #[.slice a xs.length c, .slice b xs.length d] w fun e w' => e = .returned (.bool true) ∧ Below w.heap.size w w' := by
  rw [Lay.wt_ints] at hn
  refine (eqIntS_any a b c d xs xs w h.reads g.reads hn).mono ?_
  rintro e w1 ⟨rfl, hb⟩
  exact ⟨by rw [eqL_self], hb⟩
theorem szIntS_l (xs : List Int) (a : Option Addr) (c : Nat) (l : Int) (w : World) (_ : RD w (.slice a xs.length c) (slD Lay.int xs)) (hf : (Lay.list Lay.int).fit xs) (h0 : 0 ≤ l) (h1 : l ≤ 1048576) :
    Calls Try.prog 66 #[.slice a xs.length c, .int .i64 l] w fun e w' => ∃ r, e = .returned (.int .i64 r) ∧ SzE ((Lay.list Lay.int).wt xs) l r ∧ Below w.heap.size w w' := by
  have hm := hf.1
  unfold maxLen at hm
  rw [Lay.wt_ints]
  by_cases hbig : l < (xs.length : Int)
  · go_enter Try.func66, Try.ntmps66
    go_wp2
    go_ret
    exact ⟨_, rfl, .inl rfl, Below.refl _ _⟩
  · go_enter Try.func66, Try.ntmps66
    go_wp2
    go_ret
    exact ⟨_, rfl, .inr ⟨by omega, rfl⟩, Below.refl _ _⟩

end Go.Proofs.Ytdniejpblhbjkab
namespace Go.Proofs.Ytdniejpblhbjkab
open Go.RowKit

theorem Try.infoIntS : (Try.prog.info? 25).map (fun i => (i.zero, i.size, i.bytes)) = some (some (.slice none 0 0), 1, 24) := by kernel_rfl

set_option maxRecDepth 100000 in
theorem toIntSS_l (xs : List (List Int)) (a : Option Addr) (c : Nat) (w : World) (h : RD w (.slice a xs.length c) (slD (Lay.list Lay.int) xs)) (hn : (Lay.list (Lay.list Lay.int)).wt xs ≤ 1048576) :
    Calls Try.prog 52 #[.slice a xs.length c] w fun e w' => ∃ v S, e = .returned v ∧ OD w' w.heap.size v (slD (Lay.list Lay.int) xs) S ∧ Below w.heap.size w w' := by
  rw [Lay.wt_list] at hn
  obtain ⟨W, hmk, O0, B0⟩ := make_ownL (P := Try.prog) w 43 25 (.slice none 0 0) 24 [.slice none 0 0] [.sl 0 []] xs.length Try.underlying43 Try.infoIntS rfl (by decide) (by omega) (by decide) (by intro u hu; simp at hu; subst hu; rfl) rfl
    (by intro W base i hi hi'; match i, hi with | 0, _ => exact .nil 0 rfl)
  rw [zero_cells (L := (Lay.list Lay.int)) (z := []) (zd := [.sl 0 []]) rfl] at O0
  go_enter Try.func52, Try.ntmps52
  go_wp2
  go_loopw [4] (fun i wr => ∃ (k : Nat) (S : Nat → Prop), k ≤ xs.length ∧ i = .int .i64 k ∧ OL wr w.heap.size 25 1 (.slice (some ⟨w.heap.size, 0, none⟩) xs.length xs.length) xs.length ((xs.take k ++ List.replicate (xs.length - k) []).flatMap (Lay.list Lay.int).cells) S ∧ Below w.heap.size w wr) (fun i _ => xs.length - (intOf i).toNat)
  case atStart => exact ⟨0, _, Nat.zero_le _, rfl, by simpa using O0, B0⟩
  case round =>
    obtain ⟨k, S, hk, rfl, hown, hbel⟩ := hrel
    by_cases hlt : k < xs.length
    · obtain ⟨b1, o1, rfl, hb1, a1, c1, q0, r1⟩ := (h.later hbel).listAt hlt
      have hk2 := Lay.sumL_at (Lay.list Lay.int) hlt
      have X : Hid (Calls Try.prog 11 #[.slice a1 xs[k].length c1] wr fun e w' => ∃ v S, e = .returned v ∧ OD w' wr.heap.size v (slD Lay.int xs[k]) S ∧ Below wr.heap.size wr w') :=
        toIntS_l xs[k] a1 c1 wr r1 (by omega)
      have HP : Hid ((xs.take k ++ List.replicate (xs.length - k) []).set k xs[k] = xs.take (k + 1) ++ List.replicate (xs.length - (k + 1)) []) := put_step hlt
      have hkL : k < (xs.take k ++ List.replicate (xs.length - k) []).length := by simp; omega
      generalize xs.take k ++ List.replicate (xs.length - k) [] = M at *
      generalize xs[k] = y at *
      clear h r1 hmk O0 B0 hk2
      go_wp2_with fail
      refine X.out.mono ?_
      rintro e w1 ⟨v, T, rfl, O1, hb2⟩
      obtain ⟨av, cv, rfl, _⟩ := OD.shapeL O1
      have B1 := hbel.trans (hb2.mono hbel.size)
      have own1 := hown.later hb2
      have hsz := hbel.size
      obtain ⟨S', O2, hS', G2, hSg, ⟨z0, c0⟩, f0⟩ := own1.putList hkL (.slice av y.length cv) y T (O1.base hsz) (fun k hk hk2 => by have h1 := (O1.lt k hk).1; have h2 := (hown.lt k hk2).2; omega)
      rw [HP.out] at O2
      have B2 := B1.grown G2 B1.size (fun k hk => by cases hk; exact Nat.le_refl _)
      have hz1 : w.heap.size < w1.heap.size := Nat.lt_of_lt_of_le (hown.lt _ hSg).2 hb2.size
      clear X hown own1 O1 hbel hb2 HP G2 q0 hb1 hkL B1
      go_wp2
      go_roundw
      case rel => exact ⟨k + 1, S', by omega, by go_num, O2, B2⟩
      case measure => simp [intOf]; omega
    · have e : k = xs.length := by omega
      subst e
      go_wp2
      go_ret
      exact ⟨_, _, rfl, by simpa [slD] using hown.od, hbel⟩

theorem eqIntSS_l (xs : List (List Int)) (a b : Option Addr) (c d : Nat) (w : World) (h : RD w (.slice a xs.length c) (slD (Lay.list Lay.int) xs)) (g : RD w (.slice b xs.length d) (slD (Lay.list Lay.int) xs)) (hn : (Lay.list (Lay.list Lay.int)).wt xs ≤ 4194304) :
    Calls Try.prog 59 #[.slice a xs.length c, .slice b xs.length d] w fun e w' => e = .returned (.bool true) ∧ Below w.heap.size w w' := by
  rw [Lay.wt_list] at hn
  go_enter Try.func59, Try.ntmps59
  go_wp2
  go_loopw [5] (fun i wr => ∃ k : Nat, k ≤ xs.length ∧ i = .int .i64 k ∧ Below w.heap.size w wr) (fun i _ => xs.length - (intOf i).toNat)
  case atStart => exact ⟨0, Nat.zero_le _, rfl, Below.refl _ _⟩
  case round =>
    obtain ⟨k, hk, rfl, hbel⟩ := hrel
    by_cases hlt : k < xs.length
    · obtain ⟨b1, o1, rfl, hb1, a1, c1, q0, r1⟩ := (h.later hbel).listAt hlt
      obtain ⟨b2, o2, rfl, hb2, a2, c2, p0, r2⟩ := (g.later hbel).listAt hlt
      have hk2 := Lay.sumL_at (Lay.list Lay.int) hlt
      have X : Hid (Calls Try.prog 13 #[.slice a1 xs[k].length c1, .slice a2 xs[k].length c2] wr.drew fun e w' => e = .returned (.bool true) ∧ Below wr.heap.size wr w') :=
        (eqIntS_l xs[k] a1 a2 c1 c2 wr.drew (r1.later (below_drew 1)) (r2.later (below_drew 1)) (by omega)).mono fun e w' h => ⟨h.1, ⟨h.2.os, h.2.tape, h.2.output, h.2.size, h.2.block⟩⟩
      clear h g r1 r2 hk2
      generalize xs[k] = y at *
      go_wp2
      go_region_with (go_at_call 13; refine X.out.mono ?_; rintro e w1 ⟨rfl, hl1⟩)
      all_goals
        go_wp2
        go_roundw
        case rel => exact ⟨k + 1, by omega, by go_num, hbel.trans (hl1.mono hbel.size)⟩
        case measure => simp [intOf]; omega
    · go_wp2
      go_ret
      exact ⟨rfl, hbel⟩

set_option maxRecDepth 100000 in
theorem szIntSS_l (xs : List (List Int)) (a : Option Addr) (c : Nat) (l : Int) (w : World) (h : RD w (.slice a xs.length c) (slD (Lay.list Lay.int) xs)) (hf : (Lay.list (Lay.list Lay.int)).fit xs) (h0 : 0 ≤ l) (h1 : l ≤ 1048576) :
    Calls Try.prog 49 #[.slice a xs.length c, .int .i64 l] w fun e w' => ∃ r, e = .returned (.int .i64 r) ∧ SzE ((Lay.list (Lay.list Lay.int)).wt xs) l r ∧ Below w.heap.size w w' := by
  obtain ⟨hm, hfe⟩ := hf
  unfold maxLen at hm
  rw [Lay.wt_list]
  by_cases hbig : l < (xs.length : Int)
  · go_enter Try.func49, Try.ntmps49
    go_wp2
    go_ret
    exact ⟨_, rfl, .inl rfl, Below.refl _ _⟩
  · go_enter Try.func49, Try.ntmps49
    go_wp2
    go_loopw [1, 5] (fun sl i wr => ∃ (k : Nat) (x : Int), k ≤ xs.length ∧ i = .int .i64 k ∧ sl = .int .i64 x ∧ 0 ≤ x ∧ Hid (x + xs.length + Lay.sumL (Lay.list Lay.int) (xs.take k) = l) ∧ Below w.heap.size w wr) (fun _ i _ => xs.length - (intOf i).toNat)
    case atStart => exact ⟨0, l - xs.length, Nat.zero_le _, rfl, rfl, by omega, by show _ = _; simp [Lay.sumL], Below.refl _ _⟩
    case round =>
      obtain ⟨k, x, hk, rfl, rfl, hx0, HXL, hbel⟩ := hrel
      by_cases hlt : k < xs.length
      · obtain ⟨b1, o1, rfl, hb1, a1, c1, q0, r1⟩ := (h.later hbel).listAt hlt
        have fe := hfe xs[k] (List.getElem_mem hlt)
        have HW : Hid (Lay.sumL (Lay.list Lay.int) (xs.take (k + 1)) = Lay.sumL (Lay.list Lay.int) (xs.take k) + (Lay.list Lay.int).wt xs[k]) := Lay.sumL_take _ hlt
        have hx1 : x ≤ 1048576 := by have := HXL.out; omega
        have X : Hid (Calls Try.prog 66 #[.slice a1 xs[k].length c1, .int .i64 x] wr fun e w' => ∃ r, e = .returned (.int .i64 r) ∧ SzE ((Lay.list Lay.int).wt xs[k]) x r ∧ Below wr.heap.size wr w') :=
          szIntS_l xs[k] a1 c1 x wr r1 fe hx0 hx1
        clear h r1 fe hfe
        generalize (Lay.list Lay.int).wt xs[k] = wk at *
        generalize xs[k] = y at *
        go_wp2_with fail
        refine X.out.mono ?_
        rintro e w1 ⟨r, rfl, hr, hb2⟩
        have B2 := hbel.trans (hb2.mono hbel.size)
        clear X hb2 q0
        rcases hr with rfl | ⟨hr0, hr1⟩
        · go_wp2
          go_ret
          exact ⟨_, rfl, .inl rfl, B2⟩
        · have HR : Hid (r = x - (wk : Nat)) := hr1
          clear hr1
          go_wp2
          go_roundw
          case rel => exact ⟨k + 1, r, by omega, by go_num, rfl, hr0, by show _ = _; rw [HW.out]; have h1 := HXL.out; have h2 := HR.out; omega, B2⟩
          case measure => simp [intOf]; omega
      · have e : k = xs.length := by omega
        subst e
        have HE : Hid (x = l - (xs.length + Lay.sumL (Lay.list Lay.int) xs : Nat)) := by have := HXL.out; rw [List.take_length] at this; show _ = _; omega
        clear HXL
        go_wp2
        go_ret
        exact ⟨_, rfl, .inr ⟨hx0, HE.out⟩, hbel⟩

end Go.Proofs.Ytdniejpblhbjkab
namespace Go.Proofs.Ytdniejpblhbjkab
open Go.RowKit

theorem Try.infoIntSS : (Try.prog.info? 43).map (fun i => (i.zero, i.size, i.bytes)) = some (some (.slice none 0 0), 1, 24) := by kernel_rfl

set_option maxRecDepth 100000 in
theorem toIntSSS_l (xs : List (List (List Int))) (a : Option Addr) (c : Nat) (w : World) (h : RD w (.slice a xs.length c) (slD (Lay.list (Lay.list Lay.int)) xs)) (hn : (Lay.list (Lay.list (Lay.list Lay.int))).wt xs ≤ 1048576) :
    Calls Try.prog 31 #[.slice a xs.length c] w fun e w' => ∃ v S, e = .returned v ∧ OD w' w.heap.size v (slD (Lay.list (Lay.list Lay.int)) xs) S ∧ Below w.heap.size w w' := by
  rw [Lay.wt_list] at hn
  obtain ⟨W, hmk, O0, B0⟩ := make_ownL (P := Try.prog) w 22 43 (.slice none 0 0) 24 [.slice none 0 0] [.sl 0 []] xs.length Try.underlying22 Try.infoIntSS rfl (by decide) (by omega) (by decide) (by intro u hu; simp at hu; subst hu; rfl) rfl
    (by intro W base i hi hi'; match i, hi with | 0, _ => exact .nil 0 rfl)
  rw [zero_cells (L := (Lay.list (Lay.list Lay.int))) (z := []) (zd := [.sl 0 []]) rfl] at O0
  go_enter Try.func31, Try.ntmps31
  go_wp2
  go_loopw [4] (fun i wr => ∃ (k : Nat) (S : Nat → Prop), k ≤ xs.length ∧ i = .int .i64 k ∧ OL wr w.heap.size 43 1 (.slice (some ⟨w.heap.size, 0, none⟩) xs.length xs.length) xs.length ((xs.take k ++ List.replicate (xs.length - k) []).flatMap (Lay.list (Lay.list Lay.int)).cells) S ∧ Below w.heap.size w wr) (fun i _ => xs.length - (intOf i).toNat)
  case atStart => exact ⟨0, _, Nat.zero_le _, rfl, by simpa using O0, B0⟩
  case round =>
    obtain ⟨k, S, hk, rfl, hown, hbel⟩ := hrel
    by_cases hlt : k < xs.length
    · obtain ⟨b1, o1, rfl, hb1, a1, c1, q0, r1⟩ := (h.later hbel).listAt hlt
      have hk2 := Lay.sumL_at (Lay.list (Lay.list Lay.int)) hlt
      have X : Hid (Calls Try.prog 52 #[.slice a1 xs[k].length c1] wr fun e w' => ∃ v S, e = .returned v ∧ OD w' wr.heap.size v (slD (Lay.list Lay.int) xs[k]) S ∧ Below wr.heap.size wr w') :=
        toIntSS_l xs[k] a1 c1 wr r1 (by omega)
      have HP : Hid ((xs.take k ++ List.replicate (xs.length - k) []).set k xs[k] = xs.take (k + 1) ++ List.replicate (xs.length - (k + 1)) []) := put_step hlt
      have hkL : k < (xs.take k ++ List.replicate (xs.length - k) []).length := by simp; omega
      generalize xs.take k ++ List.replicate (xs.length - k) [] = M at *
      generalize xs[k] = y at *
      clear h r1 hmk O0 B0 hk2
      go_wp2_with fail
      refine X.out.mono ?_
      rintro e w1 ⟨v, T, rfl, O1, hb2⟩
      obtain ⟨av, cv, rfl, _⟩ := OD.shapeL O1
      have B1 := hbel.trans (hb2.mono hbel.size)
      have own1 := hown.later hb2
      have hsz := hbel.size
      obtain ⟨S', O2, hS', G2, hSg, ⟨z0, c0⟩, f0⟩ := own1.putList hkL (.slice av y.length cv) y T (O1.base hsz) (fun k hk hk2 => by have h1 := (O1.lt k hk).1; have h2 := (hown.lt k hk2).2; omega)
      rw [HP.out] at O2
      have B2 := B1.grown G2 B1.size (fun k hk => by cases hk; exact Nat.le_refl _)
      have hz1 : w.heap.size < w1.heap.size := Nat.lt_of_lt_of_le (hown.lt _ hSg).2 hb2.size
      clear X hown own1 O1 hbel hb2 HP G2 q0 hb1 hkL B1
      go_wp2
      go_roundw
      case rel => exact ⟨k + 1, S', by omega, by go_num, O2, B2⟩
      case measure => simp [intOf]; omega
    · have e : k = xs.length := by omega
      subst e
      go_wp2
      go_ret
      exact ⟨_, _, rfl, by simpa [slD] using hown.od, hbel⟩

theorem eqIntSSS_l (xs : List (List (List Int))) (a b : Option Addr) (c d : Nat) (w : World) (h : RD w (.slice a xs.length c) (slD (Lay.list (Lay.list Lay.int)) xs)) (g : RD w (.slice b xs.length d) (slD (Lay.list (Lay.list Lay.int)) xs)) (hn : (Lay.list (Lay.list (Lay.list Lay.int))).wt xs ≤ 4194304) :
    Calls Try.prog 36 #[.slice a xs.length c, .slice b xs.length d] w fun e w' => e = .returned (.bool true) ∧ Below w.heap.size w w' := by
  rw [Lay.wt_list] at hn
  go_enter Try.func36, Try.ntmps36
  go_wp2
  go_loopw [5] (fun i wr => ∃ k : Nat, k ≤ xs.length ∧ i = .int .i64 k ∧ Below w.heap.size w wr) (fun i _ => xs.length - (intOf i).toNat)
  case atStart => exact ⟨0, Nat.zero_le _, rfl, Below.refl _ _⟩
  case round =>
    obtain ⟨k, hk, rfl, hbel⟩ := hrel
    by_cases hlt : k < xs.length
    · obtain ⟨b1, o1, rfl, hb1, a1, c1, q0, r1⟩ := (h.later hbel).listAt hlt
      obtain ⟨b2, o2, rfl, hb2, a2, c2, p0, r2⟩ := (g.later hbel).listAt hlt
      have hk2 := Lay.sumL_at (Lay.list (Lay.list Lay.int)) hlt
      have X : Hid (Calls Try.prog 59 #[.slice a1 xs[k].length c1, .slice a2 xs[k].length c2] wr.drew fun e w' => e = .returned (.bool true) ∧ Below wr.heap.size wr w') :=
        (eqIntSS_l xs[k] a1 a2 c1 c2 wr.drew (r1.later (below_drew 1)) (r2.later (below_drew 1)) (by omega)).mono fun e w' h => ⟨h.1, ⟨h.2.os, h.2.tape, h.2.output, h.2.size, h.2.block⟩⟩
      clear h g r1 r2 hk2
      generalize xs[k] = y at *
      go_wp2
      go_region_with (go_at_call 59; refine X.out.mono ?_; rintro e w1 ⟨rfl, hl1⟩)
      all_goals
        go_wp2
        go_roundw
        case rel => exact ⟨k + 1, by omega, by go_num, hbel.trans (hl1.mono hbel.size)⟩
        case measure => simp [intOf]; omega
    · go_wp2
      go_ret
      exact ⟨rfl, hbel⟩

set_option maxRecDepth 100000 in
theorem szIntSSS_l (xs : List (List (List Int))) (a : Option Addr) (c : Nat) (l : Int) (w : World) (h : RD w (.slice a xs.length c) (slD (Lay.list (Lay.list Lay.int)) xs)) (hf : (Lay.list (Lay.list (Lay.list Lay.int))).fit xs) (h0 : 0 ≤ l) (h1 : l ≤ 1048576) :
    Calls Try.prog 26 #[.slice a xs.length c, .int .i64 l] w fun e w' => ∃ r, e = .returned (.int .i64 r) ∧ SzE ((Lay.list (Lay.list (Lay.list Lay.int))).wt xs) l r ∧ Below w.heap.size w w' := by
  obtain ⟨hm, hfe⟩ := hf
  unfold maxLen at hm
  rw [Lay.wt_list]
  by_cases hbig : l < (xs.length : Int)
  · go_enter Try.func26, Try.ntmps26
    go_wp2
    go_ret
    exact ⟨_, rfl, .inl rfl, Below.refl _ _⟩
  · go_enter Try.func26, Try.ntmps26
    go_wp2
    go_loopw [1, 5] (fun sl i wr => ∃ (k : Nat) (x : Int), k ≤ xs.length ∧ i = .int .i64 k ∧ sl = .int .i64 x ∧ 0 ≤ x ∧ Hid (x + xs.length + Lay.sumL (Lay.list (Lay.list Lay.int)) (xs.take k) = l) ∧ Below w.heap.size w wr) (fun _ i _ => xs.length - (intOf i).toNat)
    case atStart => exact ⟨0, l - xs.length, Nat.zero_le _, rfl, rfl, by omega, by show _ = _; simp [Lay.sumL], Below.refl _ _⟩
    case round =>
      obtain ⟨k, x, hk, rfl, rfl, hx0, HXL, hbel⟩ := hrel
      by_cases hlt : k < xs.length
      · obtain ⟨b1, o1, rfl, hb1, a1, c1, q0, r1⟩ := (h.later hbel).listAt hlt
        have fe := hfe xs[k] (List.getElem_mem hlt)
        have HW : Hid (Lay.sumL (Lay.list (Lay.list Lay.int)) (xs.take (k + 1)) = Lay.sumL (Lay.list (Lay.list Lay.int)) (xs.take k) + (Lay.list (Lay.list Lay.int)).wt xs[k]) := Lay.sumL_take _ hlt
        have hx1 : x ≤ 1048576 := by have := HXL.out; omega
        have X : Hid (Calls Try.prog 49 #[.slice a1 xs[k].length c1, .int .i64 x] wr fun e w' => ∃ r, e = .returned (.int .i64 r) ∧ SzE ((Lay.list (Lay.list Lay.int)).wt xs[k]) x r ∧ Below wr.heap.size wr w') :=
          szIntSS_l xs[k] a1 c1 x wr r1 fe hx0 hx1
        clear h r1 fe hfe
        generalize (Lay.list (Lay.list Lay.int)).wt xs[k] = wk at *
        generalize xs[k] = y at *
        go_wp2_with fail
        refine X.out.mono ?_
        rintro e w1 ⟨r, rfl, hr, hb2⟩
        have B2 := hbel.trans (hb2.mono hbel.size)
        clear X hb2 q0
        rcases hr with rfl | ⟨hr0, hr1⟩
        · go_wp2
          go_ret
          exact ⟨_, rfl, .inl rfl, B2⟩
        · have HR : Hid (r = x - (wk : Nat)) := hr1
          clear hr1
          go_wp2
          go_roundw
          case rel => exact ⟨k + 1, r, by omega, by go_num, rfl, hr0, by show _ = _; rw [HW.out]; have h1 := HXL.out; have h2 := HR.out; omega, B2⟩
          case measure => simp [intOf]; omega
      · have e : k = xs.length := by omega
        subst e
        have HE : Hid (x = l - (xs.length + Lay.sumL (Lay.list (Lay.list Lay.int)) xs : Nat)) := by have := HXL.out; rw [List.take_length] at this; show _ = _; omega
        clear HXL
        go_wp2
        go_ret
        exact ⟨_, rfl, .inr ⟨hx0, HE.out⟩, hbel⟩

end Go.Proofs.Ytdniejpblhbjkab
namespace Go.Proofs.Ytdniejpblhbjkab
open Go.RowKit

section
variable {H : Type} {enc : TypeId × Value → H} {P : Program} {w : World} {base : Nat} {spare : Nat → Bool} {held : Bool}

/-- A slice whose elements each read as f says. -/
theorem open_dat {α : Type} (f : α → List Dat) {sz : Nat} (hf : ∀ x, (f x).length = sz) (hz : 0 < sz) (good : α → Prop) {t e : TypeId} {a : Option Addr} {len cap : Nat} {x : DataW H × List MemPlace} (ht : P.underlying t = some (.slice e)) (hc : P.cellsOf e = sz)
    {fuel : Nat} (helem : ∀ n, n < fuel → ∀ cs y, DataW.trod enc P w base spare held n e cs = some y → ∃ z : α, good z ∧ ∀ j (hj : j < cs.length) (hj' : j < (f z).length), RD w cs[j] (f z)[j])
    (h : DataW.trod enc P w base spare held fuel t [.slice a len cap] = some x) :
    ∃ zs : List α, len = zs.length ∧ zs.length ≤ maxLen ∧ RD w (.slice a zs.length cap) (.sl zs.length (zs.flatMap f)) ∧ ∀ z ∈ zs, good z := by
  rcases DataW.trod_slice ht h with ⟨h0, _⟩ | ⟨a', l', c', elems, rest, n, hfu, h0, _, hb, hl, hm, hlen, hel, _, _⟩
  · simp only [List.cons.injEq, Value.slice.injEq, and_true] at h0
    obtain ⟨rfl, rfl, rfl⟩ := h0
    exact ⟨[], rfl, by simp [maxLen], .empty none 0, by simp⟩
  · simp only [List.cons.injEq, Value.slice.injEq, and_true] at h0
    obtain ⟨rfl, rfl, rfl⟩ := h0
    have each : ∀ k, k ≤ len → ∃ (zs : List α) (vs : List Value), zs.length = k ∧ vs.length = k * sz ∧ (∀ z ∈ zs, good z) ∧ (∀ i, i < vs.length → w.cell? (a'.add i) = vs[i]?) ∧ ∀ i (hi : i < vs.length) (hi' : i < (zs.flatMap f).length), RD w vs[i] (zs.flatMap f)[i] := by
      intro k
      induction k with
      | zero => intro _; exact ⟨[], [], rfl, by simp, by simp, fun i hi => by simp at hi, fun i hi => by simp at hi⟩
      | succ k ih =>
        intro hk
        obtain ⟨zs, vs, h1, h2, h3, h4, h5⟩ := ih (by omega)
        have key := hel k (by omega)
        rw [List.getElem?_eq_getElem (by omega)] at key
        obtain ⟨cs, hcs, htr⟩ := Option.bind_eq_some_iff.1 key
        obtain ⟨z, hz1, hz2⟩ := helem n (by omega) cs _ htr
        rw [hc] at hcs
        obtain ⟨_, hcl, hcell⟩ := World.cells?_some hcs
        have hfl : (zs.flatMap f).length = k * sz := by rw [flat_length hf, h1]
        refine ⟨zs ++ [z], vs ++ cs, by simp [h1], by rw [List.length_append, h2, hcl, Nat.add_mul]; omega, ?_, ?_, ?_⟩
        · intro y hy
          rcases List.mem_append.1 hy with hy | hy
          · exact h3 y hy
          · rw [List.mem_singleton.1 hy]; exact hz1
        · intro i hi
          by_cases hik : i < vs.length
          · rw [List.getElem?_append_left hik]; exact h4 i hik
          · rw [List.getElem?_append_right (by omega)]
            have hi2 : i - vs.length < sz := by rw [List.length_append, hcl] at hi; omega
            have := hcell (i - vs.length) hi2
            rw [Go.Deep.add_add] at this
            rw [← this]
            congr 2; omega
        · intro i hi hi'
          have e1 : (zs ++ [z]).flatMap f = zs.flatMap f ++ f z := by simp
          by_cases hik : i < vs.length
          · have := h5 i hik (by omega)
            simpa only [e1, List.getElem_append_left hik, List.getElem_append_left (show i < (zs.flatMap f).length by omega)] using this
          · have hi2 : i - vs.length < cs.length := by rw [List.length_append] at hi; omega
            have := hz2 (i - vs.length) hi2 (by rw [hf]; omega)
            simp only [e1, List.getElem_append_right (show vs.length ≤ i by omega), List.getElem_append_right (show (zs.flatMap f).length ≤ i by omega)]
            have e2 : i - (zs.flatMap f).length = i - vs.length := by omega
            simp only [e2]
            exact this
    obtain ⟨zs, vs, h1, h2, h3, h4, h5⟩ := each len (Nat.le_refl _)
    refine ⟨zs, h1.symm, by rw [h1]; exact Nat.le_trans hl hm, ?_, h3⟩
    by_cases h0 : zs = []
    · subst h0
      exact .empty _ _
    · have hpos : 0 < zs.length := List.length_pos_iff.2 h0
      have hv : 0 < vs.length := by rw [h2]; exact Nat.mul_pos (by omega) hz
      obtain ⟨b, off, spot⟩ := a'
      have c0 := h4 0 hv
      rw [List.getElem?_eq_getElem hv] at c0
      have hs : spot = none := by simpa [Addr.add] using World.cell?_spot c0
      subst hs
      refine .row b off _ cap _ vs (by rw [h1]; exact hl) (by simpa [Addr.add] using World.block_lt_of_cell? w _ c0) (by rw [flat_length hf, h1, h2]) (fun i hi => ?_) h5
      have := h4 i hi
      rwa [Addr.add_lit] at this

theorem open_int_cell {t : TypeId} (ht : P.underlying t = some (.int .i64)) {n : Nat} {v : Value} {y : DataW H × List MemPlace} (h : DataW.trod enc P w base spare held n t [v] = some y) : ∃ k : Int, v = .int .i64 k ∧ (Lit.int .i64 k).wf = true := by
  obtain ⟨k, e, _, hw⟩ := DataW.trod_int ht h
  exact ⟨k, by simpa using e, hw⟩
theorem open_string_cell {t : TypeId} (ht : P.underlying t = some .string) {n : Nat} {v : Value} {y : DataW H × List MemPlace} (h : DataW.trod enc P w base spare held n t [v] = some y) : ∃ s : ByteArray, v = .string s ∧ s.size ≤ maxLen := by
  obtain ⟨s, e, _, hs⟩ := DataW.trod_string ht h
  exact ⟨s, by simpa using e, hs⟩
theorem open_bool_cell {t : TypeId} (ht : P.underlying t = some .bool) {n : Nat} {v : Value} {y : DataW H × List MemPlace} (h : DataW.trod enc P w base spare held n t [v] = some y) : ∃ b : Bool, v = .bool b := by
  obtain ⟨b, e, _⟩ := DataW.trod_bool ht h
  exact ⟨b, by simpa using e⟩
theorem open_slice_cell {t e : TypeId} (ht : P.underlying t = some (.slice e)) {n : Nat} {v : Value} {y : DataW H × List MemPlace} (h : DataW.trod enc P w base spare held n t [v] = some y) : ∃ a len cap, v = .slice a len cap := by
  rcases DataW.trod_slice ht h with ⟨h0, _⟩ | ⟨a', l', c', _, _, _, _, h0, _⟩
  · exact ⟨none, 0, 0, by simpa using h0⟩
  · exact ⟨some a', l', c', by simpa using h0⟩
end
theorem agg_of1 {cs : Array Value} {n : Nat} (h : cs.size = n) (hn : n = 1) : ∃ u0, Value.agg cs = .agg #[u0] := by
  subst hn
  obtain ⟨l⟩ := cs
  match l, h with
  | [u0], _ => exact ⟨u0, rfl⟩
theorem agg_of3 {cs : Array Value} {n : Nat} (h : cs.size = n) (hn : n = 3) : ∃ u0 u1 u2, Value.agg cs = .agg #[u0, u1, u2] := by
  subst hn
  obtain ⟨l⟩ := cs
  match l, h with
  | [u0, u1, u2], _ => exact ⟨u0, u1, u2, rfl⟩
end Go.Proofs.Ytdniejpblhbjkab
namespace Go.Proofs.Ytdniejpblhbjkab
open Go.RowKit

section
variable {H : Type} (enc : TypeId × Value → H) (P : Program) (w : World) (base : Nat) (spare : Nat → Bool) (held : Bool)
/-- What is read at type t lies as L says. -/
def Opens {α : Type} (t : TypeId) (L : Lay α) : Prop :=
  ∀ n cs y, DataW.trod enc P w base spare held n t cs = some y → ∃ z : α, L.fit z ∧ cs.length = L.sz ∧ ∀ j (hj : j < cs.length) (hj' : j < (L.cells z).length), RD w cs[j] (L.cells z)[j]
end
section
variable {H : Type} {enc : TypeId × Value → H} {P : Program} {w : World} {base : Nat} {spare : Nat → Bool} {held : Bool}
theorem Opens.int {t : TypeId} (ht : P.underlying t = some (.int .i64)) : Opens enc P w base spare held t Lay.int := by
  intro n cs y h
  obtain ⟨k, rfl, _, hw⟩ := DataW.trod_int ht h
  refine ⟨k, hw, rfl, fun j hj hj' => ?_⟩
  match j, hj with
  | 0, _ => exact .val _
theorem Opens.str {t : TypeId} (ht : P.underlying t = some .string) : Opens enc P w base spare held t Lay.str := by
  intro n cs y h
  obtain ⟨s, rfl, _, hs⟩ := DataW.trod_string ht h
  refine ⟨s, hs, rfl, fun j hj hj' => ?_⟩
  match j, hj with
  | 0, _ => exact .val _
theorem Opens.bool {t : TypeId} (ht : P.underlying t = some .bool) : Opens enc P w base spare held t Lay.bool := by
  intro n cs y h
  obtain ⟨b, rfl, _⟩ := DataW.trod_bool ht h
  refine ⟨b, trivial, rfl, fun j hj hj' => ?_⟩
  match j, hj with
  | 0, _ => exact .val _
theorem Opens.list {α : Type} {L : Lay α} {t e : TypeId} (ht : P.underlying t = some (.slice e)) (hc : P.cellsOf e = L.sz) (he : Opens enc P w base spare held e L) : Opens enc P w base spare held t (Lay.list L) := by
  intro n cs y h
  obtain ⟨a, len, cap, rfl⟩ : ∃ a len cap, cs = [.slice a len cap] := by
    rcases DataW.trod_slice ht h with ⟨h0, _⟩ | ⟨a', l', c', _, _, _, _, h0, _⟩
    · exact ⟨none, 0, 0, h0⟩
    · exact ⟨some a', l', c', h0⟩
  obtain ⟨zs, rfl, h2, h3, h4⟩ := open_dat L.cells L.len L.pos L.fit ht hc (fun n _ cs y hy => by
    obtain ⟨z, hz, _, hr⟩ := he n cs y hy
    exact ⟨z, hz, hr⟩) h
  refine ⟨zs, ⟨h2, h4⟩, rfl, fun j hj hj' => ?_⟩
  match j, hj with
  | 0, _ => exact h3
/-- An argument that is a slice. -/
theorem Opens.slice {α : Type} {L : Lay α} {t : TypeId} (he : Opens enc P w base spare held t (Lay.list L)) {n : Nat} {a : Option Addr} {len cap : Nat} {y : DataW H × List MemPlace} (h : DataW.trod enc P w base spare held n t [.slice a len cap] = some y) :
    ∃ zs : List α, len = zs.length ∧ (Lay.list L).fit zs ∧ RD w (.slice a zs.length cap) (slD L zs) := by
  obtain ⟨zs, hf, _, hr⟩ := he n _ y h
  have r : RD w (.slice a len cap) (slD L zs) := hr 0 (by simp) (by simp [Lay.cells_list])
  have e := r.lenL
  subst e
  exact ⟨zs, rfl, hf, r⟩
end
end Go.Proofs.Ytdniejpblhbjkab
namespace Go.Proofs.Ytdniejpblhbjkab
open Go.RowKit

/-- As the program has it. -/
structure Gm where
  parts : (List (List (List Int)))
def Lay.gram : Lay Gm := { cells := fun x => [slD (Lay.list (Lay.list Lay.int)) x.parts], sz := 1, len := fun _ => rfl, pos := by decide, wt := fun x => (Lay.list (Lay.list (Lay.list Lay.int))).wt x.parts, fit := fun x => (Lay.list (Lay.list (Lay.list Lay.int))).fit x.parts }
theorem Lay_gram_wt (x : Gm) : Lay.gram.wt x = (Lay.list (Lay.list (Lay.list Lay.int))).wt x.parts := rfl
theorem Lay_gram_fit (x : Gm) : Lay.gram.fit x = ((Lay.list (Lay.list (Lay.list Lay.int))).fit x.parts) := rfl

section
variable {H : Type} {enc : TypeId × Value → H} {P : Program} {w : World} {base : Nat} {spare : Nat → Bool} {held : Bool}
theorem Opens.gram {t : TypeId} {f0 : Field} (hu : P.underlying t = some (.struct #[f0])) (o0 : f0.offset = 0) (s0 : P.cellsOf f0.type = 1) (h0 : Opens enc P w base spare held f0.type (Lay.list (Lay.list (Lay.list Lay.int)))) (hc : P.cellsOf t = 1) : Opens enc P w base spare held t Lay.gram := by
  intro n cs y h
  obtain ⟨xs, m, _, _, hl, hlen, hf⟩ := DataW.trod_struct hu h
  rw [hc] at hl
  match xs, hlen, cs, hl with
  | [y0], _, [v0], _ =>
    have g0 := hf 0 f0 rfl
    rw [o0, s0] at g0
    obtain ⟨z0, fit0, _, r0⟩ := h0 m _ y0 (by simpa using g0)
    refine ⟨⟨z0⟩, fit0, rfl, fun j hj hj' => ?_⟩
    match j, hj with
    | 0, _ => exact r0 0 (by simp) (by rw [(Lay.list (Lay.list (Lay.list Lay.int))).len]; decide)
end

theorem eqGram_l (x : Gm) (a0 b0 : Option Addr) (c0 d0 : Nat) (w : World) (h0 : RD w (.slice a0 x.parts.length c0) (slD (Lay.list (Lay.list Lay.int)) x.parts)) (g0 : RD w (.slice b0 x.parts.length d0) (slD (Lay.list (Lay.list Lay.int)) x.parts)) (hn : Lay.gram.wt x ≤ 4194304) :
    Calls Try.prog 14 #[.agg #[.slice a0 x.parts.length c0], .agg #[.slice b0 x.parts.length d0]] w fun e w' => e = .returned (.bool true) ∧ Below w.heap.size w w' := by
  rw [Lay_gram_wt] at hn
  have B := ((Below.refl w.heap.size w).alloc (Nat.le_refl _) (.cells #[.slice a0 x.parts.length c0] 28)).alloc (by simp) (.cells #[.slice b0 x.parts.length d0] 28)
  have X : Hid (∀ W : World, Below w.heap.size w W → Calls Try.prog 36 #[.slice a0 x.parts.length c0, .slice b0 x.parts.length d0] W fun e w' => e = .returned (.bool true) ∧ Below W.heap.size W w') :=
    fun W hW => eqIntSSS_l x.parts a0 b0 c0 d0 W (h0.later hW) (g0.later hW) hn
  clear h0 g0 hn
  generalize x.parts = y at *
  go_enter Try.func14, Try.ntmps14
  go_wp2_with fail
  refine (X.out _ B).mono ?_
  rintro e w1 ⟨rfl, hb⟩
  go_wp2
  go_ret
  exact ⟨rfl, B.trans (hb.mono B.size)⟩

set_option maxRecDepth 100000 in
theorem szGram_l (x : Gm) (a0 : Option Addr) (c0 : Nat) (l : Int) (w : World) (h0 : RD w (.slice a0 x.parts.length c0) (slD (Lay.list (Lay.list Lay.int)) x.parts)) (hf : Lay.gram.fit x) (hl0 : 0 ≤ l) (hl1 : l ≤ 1048576) :
    Calls Try.prog 8 #[.agg #[.slice a0 x.parts.length c0], .int .i64 l] w fun e w' => ∃ r, e = .returned (.int .i64 r) ∧ SzE (Lay.gram.wt x) l r ∧ Below w.heap.size w w' := by
  rw [Lay_gram_wt]
  rw [Lay_gram_fit] at hf
  have B := (Below.refl w.heap.size w).alloc (Nat.le_refl _) (.cells #[.slice a0 x.parts.length c0] 24)
  have X : Hid (∀ W : World, Below w.heap.size w W → Calls Try.prog 26 #[.slice a0 x.parts.length c0, .int .i64 l] W fun e w' => ∃ r, e = .returned (.int .i64 r) ∧ SzE ((Lay.list (Lay.list (Lay.list Lay.int))).wt x.parts) l r ∧ Below W.heap.size W w') :=
    fun W hW => szIntSSS_l x.parts a0 c0 l W (h0.later hW) hf hl0 hl1
  clear h0 hf
  generalize (Lay.list (Lay.list (Lay.list Lay.int))).wt x.parts = wk at *
  generalize x.parts = y at *
  go_enter Try.func8, Try.ntmps8
  go_wp2_with fail
  refine (X.out _ B).mono ?_
  rintro e w1 ⟨r, rfl, hr, hb⟩
  have B1 := B.trans (hb.mono B.size)
  clear X
  rcases hr with rfl | ⟨hr0, hr1⟩
  · go_wp2
    go_ret
    exact ⟨_, rfl, .inl rfl, B1⟩
  · have HR : Hid (r = l - wk) := hr1
    clear hr1
    go_wp2
    go_ret
    exact ⟨_, rfl, .inr ⟨hr0, HR.out⟩, B1⟩

set_option maxRecDepth 100000 in
theorem toGram_l (x : Gm) (a0 : Option Addr) (c0 : Nat) (w : World) (h0 : RD w (.slice a0 x.parts.length c0) (slD (Lay.list (Lay.list Lay.int)) x.parts)) (hn : Lay.gram.wt x ≤ 1048576) :
    Calls Try.prog 10 #[.agg #[.slice a0 x.parts.length c0]] w fun e w' => ∃ a1 c1 S, e = .returned (.agg #[.slice a1 x.parts.length c1]) ∧ Cells w' w.heap.size [.slice a1 x.parts.length c1] (Lay.gram.cells x) S ∧ Below w.heap.size w w' := by
  show Calls _ _ _ _ fun e w' => ∃ a1 c1 S, e = .returned (.agg #[.slice a1 x.parts.length c1]) ∧ Cells w' w.heap.size [.slice a1 x.parts.length c1] [slD (Lay.list (Lay.list Lay.int)) x.parts] S ∧ Below w.heap.size w w'
  rw [Lay_gram_wt] at hn
  have X : Hid (∀ W : World, Below w.heap.size w W → Calls Try.prog 31 #[.slice a0 x.parts.length c0] W fun e w' => ∃ v S, e = .returned v ∧ OD w' W.heap.size v (slD (Lay.list (Lay.list Lay.int)) x.parts) S ∧ Below W.heap.size W w') :=
    fun W hW => toIntSSS_l x.parts a0 c0 W (h0.later hW) hn
  clear h0 hn
  generalize x.parts = y at *
  have B : Below w.heap.size w (((w.alloc (.cells #[.slice a0 y.length c0] 24)).alloc (.cells #[.slice none 0 0] 28)).alloc (.cells #[.slice none 0 0] 28)) :=
    (((Below.refl _ _).alloc (Nat.le_refl _) _).alloc (by simp) _).alloc (by simp; omega) _
  go_enter Try.func10, Try.ntmps10
  go_wp2_with fail
  refine (X.out _ B).mono ?_
  rintro e w1 ⟨v, S, rfl, O1, hb1⟩
  obtain ⟨hc, hf⟩ := bcellH hb1
  have hz := hb1.size
  simp only [World.size_alloc] at hc hf hz
  have B1 := B.trans (hb1.mono B.size)
  obtain ⟨a1, c1, rfl, _⟩ := OD.shapeL O1
  clear X B hb1
  go_wp2
  refine bodyPost_ret (v := .agg #[.slice a1 y.length c1]) (by simp [results, Try.results10, go_sem, hc]) rfl ⟨a1, c1, S, rfl, ?_, ?_⟩
  · have hW : Within w1 ((w1.setCell ⟨w.heap.size + 1 + 1, 0, none⟩ (.slice a1 y.length c1)).setCell ⟨w.heap.size + 1, 0, none⟩ (.slice a1 y.length c1)) (fun k => k < w.heap.size + 1 + 1 + 1) :=
      ((Within.refl _ _).setCell _ _ (by simp)).setCell _ _ (by simp)
    refine Cells.last [] ((O1.kept hW (fun k hk hk2 => ?_)).base (by simp; omega))
    have := (O1.lt k hk).1
    simp at this
    omega
  · exact (B1.setCell (p := ⟨w.heap.size + 1 + 1, 0, none⟩) (by simp; omega) _).setCell (p := ⟨w.heap.size + 1, 0, none⟩) (by simp) _

end Go.Proofs.Ytdniejpblhbjkab
namespace Go.Proofs.Ytdniejpblhbjkab
open Go.RowKit

/-- From lo to hi. -/
def inB (x lo hi : Int) : Bool := decide (lo ≤ x ∧ x ≤ hi)
theorem inB_true {x lo hi : Int} : inB x lo hi = true ↔ lo ≤ x ∧ x ≤ hi := by simp [inB]
theorem inB_false {x lo hi : Int} : inB x lo hi = false ↔ ¬ (lo ≤ x ∧ x ≤ hi) := by simp [inB]
/-- A symbol of a grammar of n parts. -/
def symOk (n : Nat) (x : Int) : Bool := inB x 0 25 || inB x 100 (100 + n - 1)
def rowOk (n : Nat) (row : List Int) : Bool := decide (row.length ≤ 8) && row.all (symOk n)
def partOk (n : Nat) (alts : List (List Int)) : Bool := inB alts.length 1 8 && alts.all (rowOk n)
def gramOkB (parts : List (List (List Int))) : Bool := inB parts.length 1 20 && parts.all (partOk parts.length)

section
variable {α : Type} {p : α → Bool} {xs : List α} {k : Nat}
theorem all_step (h : (xs.take k).all p = true) (hk : k < xs.length) (g : p xs[k] = true) : (xs.take (k + 1)).all p = true := by
  rw [List.take_succ_eq_append_getElem hk, List.all_append, h]; simp [g]
theorem all_end (h : (xs.take k).all p = true) (hk : ¬ k < xs.length) : xs.all p = true := by
  rwa [List.take_of_length_le (by omega)] at h
theorem all_no (hk : k < xs.length) (g : p xs[k] = false) : xs.all p = false := by
  simp only [List.all_eq_false]; exact ⟨xs[k], List.getElem_mem hk, by simp [g]⟩
end
theorem symOk_true {n : Nat} {x : Int} : symOk n x = true ↔ (0 ≤ x ∧ x ≤ 25) ∨ (100 ≤ x ∧ x < 100 + n) := by
  simp only [symOk, Bool.or_eq_true, inB_true]; omega
theorem symOk_false {n : Nat} {x : Int} : symOk n x = false ↔ ¬ ((0 ≤ x ∧ x ≤ 25) ∨ (100 ≤ x ∧ x < 100 + n)) := by
  rw [← symOk_true]; simp
theorem rowOk_long {n : Nat} {row : List Int} (h : ¬ row.length ≤ 8) : rowOk n row = false := by simp [rowOk, h]
theorem rowOk_no {n : Nat} {row : List Int} (h : row.all (symOk n) = false) : rowOk n row = false := by simp [rowOk, h]
theorem rowOk_yes {n : Nat} {row : List Int} (h : row.length ≤ 8) (g : row.all (symOk n) = true) : rowOk n row = true := by simp [rowOk, h, g]
theorem partOk_many {n : Nat} {alts : List (List Int)} (h : inB alts.length 1 8 = false) : partOk n alts = false := by simp [partOk, h]
theorem partOk_no {n : Nat} {alts : List (List Int)} (h : alts.all (rowOk n) = false) : partOk n alts = false := by simp [partOk, h]
theorem partOk_yes {n : Nat} {alts : List (List Int)} (h : inB alts.length 1 8 = true) (g : alts.all (rowOk n) = true) : partOk n alts = true := by simp [partOk, h, g]
theorem gramOkB_many {parts : List (List (List Int))} (h : inB parts.length 1 20 = false) : gramOkB parts = false := by simp [gramOkB, h]
theorem gramOkB_no {parts : List (List (List Int))} (h : parts.all (partOk parts.length) = false) : gramOkB parts = false := by simp [gramOkB, h]
theorem gramOkB_yes {parts : List (List (List Int))} (h : inB parts.length 1 20 = true) (g : parts.all (partOk parts.length) = true) : gramOkB parts = true := by simp [gramOkB, h, g]
end Go.Proofs.Ytdniejpblhbjkab
namespace Go.Proofs.Ytdniejpblhbjkab
open Go.RowKit

theorem l1In_any (x lo hi : Int) (w : World) : Calls Try.prog 38 #[.int .i64 x, .int .i64 lo, .int .i64 hi] w fun e w' => e = .returned (.bool (inB x lo hi)) ∧ w' = w := by
  by_cases h1 : lo ≤ x
  · by_cases h2 : x ≤ hi
    · go_enter Try.func38, Try.ntmps38
      go_wp2
      go_ret
      exact ⟨ret_bool (by simp [inB, h1, h2]), rfl⟩
    · go_enter Try.func38, Try.ntmps38
      go_wp2
      go_ret
      exact ⟨ret_bool (by simp [inB, h1, h2]), rfl⟩
  · go_enter Try.func38, Try.ntmps38
    go_wp2
    go_ret
    exact ⟨ret_bool (by simp [inB]; omega), rfl⟩

end Go.Proofs.Ytdniejpblhbjkab
namespace Go.Proofs.Ytdniejpblhbjkab
open Go.RowKit

/-- What GramOk answers. -/
def resGramOk (x : Gm) : Bool := gramOkB x.parts

set_option maxHeartbeats 1000000 in
set_option maxRecDepth 100000 in
theorem specGramOk_any (x : Gm) (a0 : Option Addr) (c0 : Nat) (w : World) (h0 : RD w (.slice a0 x.parts.length c0) (slD (Lay.list (Lay.list Lay.int)) x.parts)) (hn : Lay.gram.wt x ≤ 1048576) (_ : Lay.gram.fit x) :
    Calls Try.prog 27 #[.agg #[.slice a0 x.parts.length c0]] w fun e w' => e = .returned (.bool (resGramOk x)) ∧ Below w.heap.size w w' := by
  unfold resGramOk
  rw [Lay_gram_wt, Lay.wt_list] at hn
  have B := (Below.refl w.heap.size w).alloc (Nat.le_refl _) (.cells #[.slice a0 x.parts.length c0] 28)
  have HR : Hid (RD (w.alloc (.cells #[.slice a0 x.parts.length c0] 28)) (.slice a0 x.parts.length c0) (slD (Lay.list (Lay.list Lay.int)) x.parts)) := h0.later B
  clear h0
  generalize x.parts = P at *
  by_cases hbig : inB P.length 1 20 = true
  · have hb2 := inB_true.1 hbig
    go_enter Try.func27, Try.ntmps27
    go_wp2_with (first | (go_at_call 38; refine (l1In_any _ _ _ _).mono ?_; rintro e w' ⟨rfl, rfl⟩))
    go_loop [4] (fun s4 => ∃ k : Nat, k ≤ P.length ∧ s4 = .int .i64 k ∧ Hid ((P.take k).all (partOk P.length) = true)) (fun s4 => P.length - (intOf s4).toNat)
    case atStart => exact ⟨0, Nat.zero_le _, rfl, by show _ = _; simp⟩
    case round =>
      obtain ⟨k, hk, rfl, HK⟩ := hrel
      by_cases hlt : k < P.length
      · obtain ⟨b1, o1, rfl, hb1, a1, c1, q0, r1⟩ := HR.out.listAt hlt
        have HR1 : Hid (RD (w.alloc (.cells #[.slice (some ⟨b1, o1, none⟩) P.length c0] 28)) (.slice a1 P[k].length c1) (slD (Lay.list Lay.int) P[k])) := r1
        have hw1 : P[k].length ≤ 4194304 := by have := Lay.sumL_at (Lay.list (Lay.list Lay.int)) hlt; rw [Lay.wt_list] at this; omega
        have HKs : Hid (partOk P.length P[k] = true → (P.take (k + 1)).all (partOk P.length) = true) := fun g => all_step HK.out hlt g
        have HKn : Hid (partOk P.length P[k] = false → gramOkB P = false) := fun g => gramOkB_no (all_no hlt g)
        clear r1 HR HK
        generalize P[k] = Q at *
        by_cases hq : inB Q.length 1 8 = true
        · have hq2 := inB_true.1 hq
          go_wp2_with (first | (go_at_call 38; refine (l1In_any _ _ _ _).mono ?_; rintro e w' ⟨rfl, rfl⟩))
          go_loop [5] (fun s5 => ∃ i : Nat, i ≤ Q.length ∧ s5 = .int .i64 i ∧ Hid ((Q.take i).all (rowOk P.length) = true)) (fun s5 => Q.length - (intOf s5).toNat)
          case atStart => exact ⟨0, Nat.zero_le _, rfl, by show _ = _; simp⟩
          case round =>
            obtain ⟨i, hi, rfl, HI⟩ := hrel
            by_cases hlt2 : i < Q.length
            · obtain ⟨b2, o2, rfl, hb2', a2, c2, q1, r2⟩ := HR1.out.listAt hlt2
              have R2 : Hid (Reads (w.alloc (.cells #[.slice (some ⟨b1, o1, none⟩) P.length c0] 28)) a2 Q[i]) := r2.reads
              have HIs : Hid (rowOk P.length Q[i] = true → (Q.take (i + 1)).all (rowOk P.length) = true) := fun g => all_step HI.out hlt2 g
              have HIn : Hid (rowOk P.length Q[i] = false → gramOkB P = false) := fun g => HKn.out (partOk_no (all_no hlt2 g))
              clear r2 HR1 HI
              generalize Q[i] = R at *
              by_cases hr : R.length ≤ 8
              · go_wp2
                go_loop [7] (fun s7 => ∃ j : Nat, j ≤ R.length ∧ s7 = .int .i64 j ∧ Hid ((R.take j).all (symOk P.length) = true)) (fun s7 => R.length - (intOf s7).toNat)
                case atStart => exact ⟨0, Nat.zero_le _, rfl, by show _ = _; simp⟩
                case round =>
                  obtain ⟨j, hj, rfl, HJ⟩ := hrel
                  by_cases hlt3 : j < R.length
                  · obtain ⟨b3, o3, rfl, hb3, q2'⟩ := R2.out.at hlt3
                    have q2 := q2' j hlt3
                    rw [List.getD_eq_getElem?_getD, List.getElem?_eq_getElem hlt3, Option.getD_some] at q2
                    have HJs : Hid (symOk P.length R[j] = true → (R.take (j + 1)).all (symOk P.length) = true) := fun g => all_step HJ.out hlt3 g
                    have HJn : Hid (symOk P.length R[j] = false → gramOkB P = false) := fun g => HIn.out (rowOk_no (all_no hlt3 g))
                    clear q2' R2 HJ
                    generalize R[j] = z at *
                    by_cases z1 : inB z 0 25 = true
                    · go_wp2_with (first | (go_at_call 38; refine (l1In_any _ _ _ _).mono ?_; rintro e w' ⟨rfl, rfl⟩))
                      go_round
                      case rel => exact ⟨j + 1, by omega, by go_num, HJs.out (by simp [symOk, z1])⟩
                      case measure => simp [intOf]; omega
                    · have z1' : inB z 0 25 = false := by simpa using z1
                      clear z1
                      by_cases z2 : inB z 100 (100 + P.length - 1) = true
                      · go_wp2_with (first | (go_at_call 38; refine (l1In_any _ _ _ _).mono ?_; rintro e w' ⟨rfl, rfl⟩))
                        go_round
                        case rel => exact ⟨j + 1, by omega, by go_num, HJs.out (by simp [symOk, z2])⟩
                        case measure => simp [intOf]; omega
                      · have z2' : inB z 100 (100 + P.length - 1) = false := by simpa using z2
                        clear z2
                        go_wp2_with (first | (go_at_call 38; refine (l1In_any _ _ _ _).mono ?_; rintro e w' ⟨rfl, rfl⟩))
                        go_ret
                        exact ⟨ret_bool (by rw [HJn.out (by simp [symOk, z1', z2'])]), B⟩
                  · have HE : Hid (R.all (symOk P.length) = true) := all_end HJ.out hlt3
                    clear R2 HJ
                    go_wp2
                    go_round
                    case rel => exact ⟨i + 1, by omega, by go_num, HIs.out (rowOk_yes hr HE.out)⟩
                    case measure => simp [intOf]; omega
              · go_wp2
                go_ret
                exact ⟨ret_bool (by rw [HIn.out (rowOk_long hr)]), B⟩
            · have HE : Hid (Q.all (rowOk P.length) = true) := all_end HI.out hlt2
              clear HR1 HI
              go_wp2
              go_round
              case rel => exact ⟨k + 1, by omega, by go_num, HKs.out (partOk_yes hq HE.out)⟩
              case measure => simp [intOf]; omega
        · have hq2 : inB Q.length 1 8 = false := by simpa using hq
          clear hq
          go_wp2_with (first | (go_at_call 38; refine (l1In_any _ _ _ _).mono ?_; rintro e w' ⟨rfl, rfl⟩))
          go_ret
          exact ⟨ret_bool (by rw [HKn.out (partOk_many hq2)]), B⟩
      · have HE : Hid (P.all (partOk P.length) = true) := all_end HK.out hlt
        clear HR HK
        go_wp2
        go_ret
        exact ⟨ret_bool (by rw [gramOkB_yes hbig HE.out]), B⟩
  · have hb2 : inB P.length 1 20 = false := by simpa using hbig
    clear hbig
    go_enter Try.func27, Try.ntmps27
    go_wp2_with (first | (go_at_call 38; refine (l1In_any _ _ _ _).mono ?_; rintro e w' ⟨rfl, rfl⟩))
    go_ret
    exact ⟨ret_bool (by rw [gramOkB_many hb2]), B⟩
end Go.Proofs.Ytdniejpblhbjkab
namespace Go.Proofs.Ytdniejpblhbjkab
open Go.RowKit

theorem wf_i64 {z : Int} (h : (Lit.int .i64 z).wf = true) : -9223372036854775808 ≤ z ∧ z ≤ 9223372036854775807 := bounds_i64 h
theorem fit_ints {zs : List Int} (h : (Lay.list Lay.int).fit zs) : ∀ z ∈ zs, -9223372036854775808 ≤ z ∧ z ≤ 9223372036854775807 := fun z hz => wf_i64 (h.2 z hz)
theorem part_upto {n : Nat} {x : Int} : inB x 100 (100 + n - 1) = decide (100 ≤ x ∧ x - 100 < n) := by
  rw [Bool.eq_iff_iff]; simp [inB]; omega

theorem isLetter_any (x : Int) (w : World) : Calls Try.prog 58 #[.int .i64 x] w fun e w' => e = .returned (.bool (inB x 0 25)) ∧ w' = w := by
  by_cases h1 : 0 ≤ x
  · by_cases h2 : x ≤ 25
    · go_enter Try.func58, Try.ntmps58
      go_wp2
      go_ret
      exact ⟨ret_bool (by simp [inB, h1, h2]), rfl⟩
    · go_enter Try.func58, Try.ntmps58
      go_wp2
      go_ret
      exact ⟨ret_bool (by simp [inB, h1, h2]), rfl⟩
  · go_enter Try.func58, Try.ntmps58
    go_wp2
    go_ret
    exact ⟨ret_bool (by simp [inB]; omega), rfl⟩

theorem isPartOf_any (n : Nat) (a : Option Addr) (c : Nat) (x : Int) (w : World) (hx : x ≤ 9223372036854775807) (_ : n ≤ 1048576) :
    Calls Try.prog 69 #[.agg #[.slice a n c], .int .i64 x] w fun e w' => e = .returned (.bool (inB x 100 (100 + n - 1))) ∧ Below w.heap.size w w' := by
  have B := (Below.refl w.heap.size w).alloc (Nat.le_refl _) (.cells #[.slice a n c] 28)
  rw [part_upto]
  by_cases h1 : 100 ≤ x
  · by_cases h2 : x - 100 < n
    · go_enter Try.func69, Try.ntmps69
      go_wp2
      go_ret
      exact ⟨ret_bool (decide_eq_true ⟨h1, h2⟩).symm, B⟩
    · go_enter Try.func69, Try.ntmps69
      go_wp2
      go_ret
      exact ⟨ret_bool (decide_eq_false (fun h => by omega)).symm, B⟩
  · go_enter Try.func69, Try.ntmps69
    go_wp2
    go_ret
    exact ⟨ret_bool (by simp; intro h; omega), B⟩

set_option maxRecDepth 100000 in
theorem symbolsOf_any (n : Nat) (a : Option Addr) (c : Nat) (zs : List Int) (a1 : Option Addr) (c1 : Nat) (w : World) (h : Reads w a1 zs) (hn : n ≤ 1048576) (hl : zs.length ≤ 1048576) (hz : ∀ z ∈ zs, -9223372036854775808 ≤ z ∧ z ≤ 9223372036854775807) :
    Calls Try.prog 67 #[.agg #[.slice a n c], .slice a1 zs.length c1] w fun e w' => e = .returned (.bool (zs.all (symOk n))) ∧ Below w.heap.size w w' := by
  have HZ : Hid (∀ z ∈ zs, -9223372036854775808 ≤ z ∧ z ≤ 9223372036854775807) := hz
  have B0 := (Below.refl w.heap.size w).alloc (Nat.le_refl _) (.cells #[.slice a n c] 28)
  have q0 : (w.alloc (.cells #[.slice a n c] 28)).cell? ⟨w.heap.size, 0, none⟩ = some (.slice a n c) := by simp
  clear hz
  go_enter Try.func67, Try.ntmps67
  go_wp2
  go_loopw [9] (fun s9 wr => ∃ k : Nat, k ≤ zs.length ∧ s9 = .int .i64 k ∧ Hid ((zs.take k).all (symOk n) = true) ∧ Below w.heap.size w wr ∧ wr.cell? ⟨w.heap.size, 0, none⟩ = some (.slice a n c)) (fun s9 _ => zs.length - (intOf s9).toNat)
  case atStart => exact ⟨0, Nat.zero_le _, rfl, by show _ = _; simp, B0, q0⟩
  case round =>
    obtain ⟨k, hk, rfl, HK, hbel, qk⟩ := hrel
    clear q0 B0
    have hwl : w.heap.size < wr.heap.size := World.block_lt_of_cell? wr _ qk
    by_cases hlt : k < zs.length
    · obtain ⟨b, off, rfl, hb, hc⟩ := (h.below hbel).at hlt
      have q1 := hc k hlt
      rw [List.getD_eq_getElem?_getD, List.getElem?_eq_getElem hlt, Option.getD_some] at q1
      have hr := (HZ.out zs[k] (List.getElem_mem hlt)).2
      have HS : Hid (symOk n zs[k] = true → (zs.take (k + 1)).all (symOk n) = true) := fun g => all_step HK.out hlt g
      have HN : Hid (symOk n zs[k] = false → zs.all (symOk n) = false) := fun g => all_no hlt g
      clear hc h HK
      generalize zs[k] = z at *
      by_cases z1 : inB z 0 25 = true
      · go_wp2_with (go_at_call 58; refine (isLetter_any _ _).mono ?_; rintro e w' ⟨rfl, rfl⟩)
        go_roundw
        case rel => exact ⟨k + 1, by omega, by go_num, HS.out (by simp [symOk, z1]), hbel, qk⟩
        case measure => simp [intOf]; omega
      · have z1' : inB z 0 25 = false := by simpa using z1
        clear z1
        by_cases z2 : inB z 100 (100 + n - 1) = true
        · go_wp2_with (first | (go_at_call 58; refine (isLetter_any _ _).mono ?_; rintro e w' ⟨rfl, rfl⟩) | (go_at_call 69; refine (isPartOf_any n a c _ _ hr hn).mono ?_; rintro e w1 ⟨rfl, hb1⟩))
          go_roundw
          case rel => exact ⟨k + 1, by omega, by go_num, HS.out (by simp [symOk, z2]), hbel.trans (hb1.mono hbel.size), (hb1.cell (p := ⟨w.heap.size, 0, none⟩) hwl).trans qk⟩
          case measure => simp [intOf]; omega
        · have z2' : inB z 100 (100 + n - 1) = false := by simpa using z2
          clear z2
          go_wp2_with (first | (go_at_call 58; refine (isLetter_any _ _).mono ?_; rintro e w' ⟨rfl, rfl⟩) | (go_at_call 69; refine (isPartOf_any n a c _ _ hr hn).mono ?_; rintro e w1 ⟨rfl, hb1⟩))
          go_ret
          exact ⟨ret_bool (by rw [HN.out (by simp [symOk, z1', z2'])]), hbel.trans (hb1.mono hbel.size)⟩
    · have HE : Hid (zs.all (symOk n) = true) := all_end HK.out hlt
      clear h HK
      go_wp2
      go_ret
      exact ⟨ret_bool (by rw [HE.out]), hbel⟩

set_option maxRecDepth 100000 in
theorem altsOk_any (n : Nat) (a : Option Addr) (c : Nat) (Q : List (List Int)) (a1 : Option Addr) (c1 : Nat) (w : World) (h : RD w (.slice a1 Q.length c1) (slD (Lay.list Lay.int) Q)) (hn : n ≤ 1048576) (hl : (Lay.list (Lay.list Lay.int)).wt Q ≤ 1048576) (hf : (Lay.list (Lay.list Lay.int)).fit Q) :
    Calls Try.prog 53 #[.agg #[.slice a n c], .slice a1 Q.length c1] w fun e w' => e = .returned (.bool (partOk n Q)) ∧ Below w.heap.size w w' := by
  have HF : Hid ((Lay.list (Lay.list Lay.int)).fit Q) := hf
  have HL : Hid (∀ row ∈ Q, row.length ≤ 1048576) := by
    intro row hrow
    obtain ⟨i, hi, rfl⟩ := List.getElem_of_mem hrow
    have := Lay.sumL_at (Lay.list Lay.int) hi
    rw [Lay.wt_list] at hl
    rw [Lay.wt_ints] at this
    omega
  rw [Lay.wt_list] at hl
  have hq : Q.length ≤ 1048576 := by omega
  clear hf hl
  by_cases hbig : inB Q.length 1 8 = true
  · have hb2 := inB_true.1 hbig
    have B0 := (Below.refl w.heap.size w).alloc (Nat.le_refl _) (.cells #[.slice a n c] 28)
    have q0 : (w.alloc (.cells #[.slice a n c] 28)).cell? ⟨w.heap.size, 0, none⟩ = some (.slice a n c) := by simp
    go_enter Try.func53, Try.ntmps53
    go_wp2
    go_loopw [17] (fun s wr => ∃ k : Nat, k ≤ Q.length ∧ s = .int .i64 k ∧ Hid ((Q.take k).all (rowOk n) = true) ∧ Below w.heap.size w wr ∧ wr.cell? ⟨w.heap.size, 0, none⟩ = some (.slice a n c)) (fun s _ => Q.length - (intOf s).toNat)
    case atStart => exact ⟨0, Nat.zero_le _, rfl, by show _ = _; simp, B0, q0⟩
    case round =>
      obtain ⟨k, hk, rfl, HK, hbel, qk⟩ := hrel
      clear q0 B0
      have hwl : w.heap.size < wr.heap.size := World.block_lt_of_cell? wr _ qk
      by_cases hlt : k < Q.length
      · obtain ⟨b, off, rfl, hb, a2, c2, q1, r2⟩ := (h.later hbel).listAt hlt
        have hrl := HL.out Q[k] (List.getElem_mem hlt)
        have HS : Hid (rowOk n Q[k] = true → (Q.take (k + 1)).all (rowOk n) = true) := fun g => all_step HK.out hlt g
        have HN : Hid (rowOk n Q[k] = false → partOk n Q = false) := fun g => partOk_no (all_no hlt g)
        have X : Hid (Calls Try.prog 67 #[.agg #[.slice a n c], .slice a2 Q[k].length c2] wr fun e w' => e = .returned (.bool (Q[k].all (symOk n))) ∧ Below wr.heap.size wr w') :=
          symbolsOf_any n a c Q[k] a2 c2 wr r2.reads hn hrl (fit_ints (HF.out.2 _ (List.getElem_mem hlt)))
        clear h r2 HK
        generalize Q[k] = R at *
        by_cases hr : R.length ≤ 8
        · by_cases hs : R.all (symOk n) = true
          · rw [hs] at X
            go_wp2_with (go_at_call 67; refine X.out.mono ?_; rintro e w1 ⟨rfl, hb1⟩)
            go_roundw
            case rel => exact ⟨k + 1, by omega, by go_num, HS.out (rowOk_yes hr hs), hbel.trans (hb1.mono hbel.size), (hb1.cell (p := ⟨w.heap.size, 0, none⟩) hwl).trans qk⟩
            case measure => simp [intOf]; omega
          · have hs' : R.all (symOk n) = false := by simpa using hs
            rw [hs'] at X
            clear hs
            go_wp2_with (go_at_call 67; refine X.out.mono ?_; rintro e w1 ⟨rfl, hb1⟩)
            go_ret
            exact ⟨ret_bool (by rw [HN.out (rowOk_no hs')]), hbel.trans (hb1.mono hbel.size)⟩
        · clear X
          go_wp2
          go_ret
          exact ⟨ret_bool (by rw [HN.out (rowOk_long hr)]), hbel⟩
      · have HE : Hid (Q.all (rowOk n) = true) := all_end HK.out hlt
        clear h HK
        go_wp2
        go_ret
        exact ⟨ret_bool (by rw [partOk_yes hbig HE.out]), hbel⟩
  · have hb2 : inB Q.length 1 8 = false := by simpa using hbig
    have hb3 := inB_false.1 hb2
    have B0 := (Below.refl w.heap.size w).alloc (Nat.le_refl _) (.cells #[.slice a n c] 28)
    clear hbig
    by_cases h1 : 1 ≤ Q.length
    · have h2 : 8 < Q.length := by omega
      go_enter Try.func53, Try.ntmps53
      go_wp2
      go_ret
      exact ⟨ret_bool (by rw [partOk_many hb2]), B0⟩
    · go_enter Try.func53, Try.ntmps53
      go_wp2
      go_ret
      exact ⟨ret_bool (by rw [partOk_many hb2]), B0⟩

set_option maxRecDepth 100000 in
theorem gramOk_any (x : Gm) (a0 : Option Addr) (c0 : Nat) (w : World) (h0 : RD w (.slice a0 x.parts.length c0) (slD (Lay.list (Lay.list Lay.int)) x.parts)) (hn : Lay.gram.wt x ≤ 1048576) (hf : Lay.gram.fit x) :
    Calls Try.prog 32 #[.agg #[.slice a0 x.parts.length c0]] w fun e w' => e = .returned (.bool (resGramOk x)) ∧ Below w.heap.size w w' := by
  unfold resGramOk
  rw [Lay_gram_wt, Lay.wt_list] at hn
  rw [Lay_gram_fit] at hf
  have h := h0
  have HF : Hid ((Lay.list (Lay.list (Lay.list Lay.int))).fit x.parts) := hf
  have hnl : x.parts.length ≤ 1048576 := by omega
  have HL : Hid (∀ alts ∈ x.parts, (Lay.list (Lay.list Lay.int)).wt alts ≤ 1048576) := by
    intro alts hal
    obtain ⟨i, hi, rfl⟩ := List.getElem_of_mem hal
    have := Lay.sumL_at (Lay.list (Lay.list Lay.int)) hi
    omega
  clear h0 hn hf
  generalize x.parts = P at *
  have B0 := (Below.refl w.heap.size w).alloc (Nat.le_refl _) (.cells #[.slice a0 P.length c0] 28)
  by_cases hbig : inB P.length 1 20 = true
  · have hb2 := inB_true.1 hbig
    have q0 : (w.alloc (.cells #[.slice a0 P.length c0] 28)).cell? ⟨w.heap.size, 0, none⟩ = some (.slice a0 P.length c0) := by simp
    go_enter Try.func32, Try.ntmps32
    go_wp2
    go_loopw [18] (fun s wr => ∃ k : Nat, k ≤ P.length ∧ s = .int .i64 k ∧ Hid ((P.take k).all (partOk P.length) = true) ∧ Below w.heap.size w wr ∧ wr.cell? ⟨w.heap.size, 0, none⟩ = some (.slice a0 P.length c0)) (fun s _ => P.length - (intOf s).toNat)
    case atStart => exact ⟨0, Nat.zero_le _, rfl, by show _ = _; simp, B0, q0⟩
    case round =>
      obtain ⟨k, hk, rfl, HK, hbel, qk⟩ := hrel
      clear q0 B0
      have hwl : w.heap.size < wr.heap.size := World.block_lt_of_cell? wr _ qk
      by_cases hlt : k < P.length
      · obtain ⟨b, off, rfl, hb, a2, c2, q1, r2⟩ := (h.later hbel).listAt hlt
        have HS : Hid (partOk P.length P[k] = true → (P.take (k + 1)).all (partOk P.length) = true) := fun g => all_step HK.out hlt g
        have HN : Hid (partOk P.length P[k] = false → gramOkB P = false) := fun g => gramOkB_no (all_no hlt g)
        have X : Hid (Calls Try.prog 53 #[.agg #[.slice (some ⟨b, off, none⟩) P.length c0], .slice a2 P[k].length c2] wr fun e w' => e = .returned (.bool (partOk P.length P[k])) ∧ Below wr.heap.size wr w') :=
          altsOk_any P.length _ c0 P[k] a2 c2 wr r2 hnl (HL.out _ (List.getElem_mem hlt)) (HF.out.2 _ (List.getElem_mem hlt))
        clear h r2 HK
        generalize P[k] = R at *
        by_cases hs : partOk P.length R = true
        · rw [hs] at X
          go_wp2_with (go_at_call 53; refine X.out.mono ?_; rintro e w1 ⟨rfl, hb1⟩)
          go_roundw
          case rel => exact ⟨k + 1, by omega, by go_num, HS.out hs, hbel.trans (hb1.mono hbel.size), (hb1.cell (p := ⟨w.heap.size, 0, none⟩) hwl).trans qk⟩
          case measure => simp [intOf]; omega
        · have hs' : partOk P.length R = false := by simpa using hs
          rw [hs'] at X
          clear hs
          go_wp2_with (go_at_call 53; refine X.out.mono ?_; rintro e w1 ⟨rfl, hb1⟩)
          go_ret
          exact ⟨ret_bool (by rw [HN.out hs']), hbel.trans (hb1.mono hbel.size)⟩
      · have HE : Hid (P.all (partOk P.length) = true) := all_end HK.out hlt
        clear h HK
        go_wp2
        go_ret
        exact ⟨ret_bool (by rw [gramOkB_yes hbig HE.out]), hbel⟩
  · have hb2 : inB P.length 1 20 = false := by simpa using hbig
    have hb3 := inB_false.1 hb2
    clear hbig
    by_cases h1 : 1 ≤ P.length
    · have h2 : 20 < P.length := by omega
      go_enter Try.func32, Try.ntmps32
      go_wp2
      go_ret
      exact ⟨ret_bool (by rw [gramOkB_many hb2]), B0⟩
    · go_enter Try.func32, Try.ntmps32
      go_wp2
      go_ret
      exact ⟨ret_bool (by rw [gramOkB_many hb2]), B0⟩
end Go.Proofs.Ytdniejpblhbjkab
namespace Go.Proofs.Ytdniejpblhbjkab
open Go.RowKit

/-- Each block that is told begins with the cells that are told. -/
def Keeps (w : World) (L : List (Nat × List Value)) : Prop := ∀ p ∈ L, ∀ j (hj : j < p.2.length), w.cell? ⟨p.1, j, none⟩ = some p.2[j]
theorem Keeps.nil (w : World) : Keeps w [] := fun p hp => by simp at hp
theorem Keeps.later {w w' : World} {L : List (Nat × List Value)} (h : Keeps w L) (hb : Below w.heap.size w w') : Keeps w' L := by
  intro p hp j hj
  have c := h p hp j hj
  exact (hb.cell (p := ⟨p.1, j, none⟩) (World.block_lt_of_cell? w _ c)).trans c
theorem Keeps.box {w : World} {L : List (Nat × List Value)} (h : Keeps w L) (vs : List Value) (t : TypeId) : Keeps (w.alloc (.cells vs.toArray t)) ((w.heap.size, vs) :: L) := by
  intro p hp j hj
  rcases List.mem_cons.1 hp with rfl | hp
  · have e := Lib.cell_of_heap (heap_alloc_new w (.cells vs.toArray t)) j
    rw [e]
    simp at hj
    simp [hj]
  · exact h.later ((Below.refl _ _).alloc (Nat.le_refl _) _) p hp j hj
theorem Keeps.drew {w : World} {L : List (Nat × List Value)} (h : Keeps w L) : Keeps w.drew L := h.later (Below.drew (Below.refl _ _))
theorem Keeps.drewN {w : World} {L : List (Nat × List Value)} (h : Keeps w L) (n : Nat) : Keeps (w.drewN n) L := h.later (below_drew n)

theorem Cells.rdAt {w : World} {base : Nat} {us : List Value} {ds : List Dat} {T : Nat → Prop} (h : Cells w base us ds T) (i : Nat) (hi : i < us.length) (hi' : i < ds.length) : RD w us[i] ds[i] := by
  obtain ⟨G, hl, hr, _⟩ := h
  exact (hr i hi hi').rd
theorem take_atL {P : Program} {ops : Array Oper} {Q : Exit → Act → World → Prop} {md : Region.Mode} {S : World → Prop} {i : Nat} {oi : Oper} {d : Option Tmp} {v : Value} {fuel : Nat} {listed : Array Bool} {a : Act} {w : World} (hi : ops[i]? = some oi) (hd : oi.dst = d)
    (hs : Region.noSelect ops = true) (hf : Region.free md ops listed i = true) (hr : (Region.ready md ops listed).contains i = true)
    (hQ : ∀ c a w, Q (.panic c) (a.put d v) w → Q (.panic c) a w) (hw : Region.wanted oi (yielded ops a.tmps) = true) (hv : ∀ w, S w → (execOp a.eval oi).run P w = .ok (.value v) w) (hS : S w)
    (h : wpAnyH P md ops Q S fuel (listed.setIfInBounds i true) (a.put d v) w) : wpAnyH P md ops Q S (fuel + 1) listed a w := by
  subst hd
  exact wpAnyH_take hi hs hf hr hQ (.inl ⟨hw, hv⟩) hS h
theorem Below.drewed {w w' : World} (h : Below w.heap.size w.drew w') : Below w.heap.size w w' := ⟨h.os, h.tape, h.output, h.size, h.block⟩
end Go.Proofs.Ytdniejpblhbjkab
namespace Go.Proofs.Ytdniejpblhbjkab
open Go.RowKit

section
variable {α : Type} (cnt : α → Nat) (mk : Nat → α → α)
def cntL : List α → Nat
  | [] => 0
  | x :: xs => cnt x + cntL xs
def mkL : Nat → List α → List α
  | _, [] => []
  | k, x :: xs => mk k x :: mkL (k + cnt x) xs
theorem mkL_length (k : Nat) (xs : List α) : (mkL cnt mk k xs).length = xs.length := by
  induction xs generalizing k with
  | nil => rfl
  | cons x xs ih => simp [mkL, ih]
theorem cntL_append (xs ys : List α) : cntL cnt (xs ++ ys) = cntL cnt xs + cntL cnt ys := by
  induction xs with
  | nil => simp [cntL]
  | cons x xs ih => simp [cntL, ih]; omega
theorem mkL_append (k : Nat) (xs ys : List α) : mkL cnt mk k (xs ++ ys) = mkL cnt mk k xs ++ mkL cnt mk (k + cntL cnt xs) ys := by
  induction xs generalizing k with
  | nil => simp [mkL, cntL]
  | cons x xs ih => simp [mkL, cntL, ih, Nat.add_assoc]
theorem cntL_take {xs : List α} {j : Nat} (h : j < xs.length) : cntL cnt (xs.take (j + 1)) = cntL cnt (xs.take j) + cnt xs[j] := by
  rw [List.take_succ_eq_append_getElem h, cntL_append]; simp [cntL]
theorem cntL_take_le (xs : List α) (j : Nat) : cntL cnt (xs.take j) ≤ cntL cnt xs := by
  have h : cntL cnt xs = cntL cnt (xs.take j) + cntL cnt (xs.drop j) := by rw [← cntL_append, List.take_append_drop]
  omega
theorem mid_length {k j : Nat} {xs : List α} (h : j ≤ xs.length) : (mkL cnt mk k (xs.take j) ++ xs.drop j).length = xs.length := by
  rw [List.length_append, mkL_length, List.length_take, List.length_drop]; omega
theorem mid_get {k j : Nat} {xs : List α} (h : j < xs.length) (h' : j < (mkL cnt mk k (xs.take j) ++ xs.drop j).length) : (mkL cnt mk k (xs.take j) ++ xs.drop j)[j] = xs[j] := by
  have hl : (mkL cnt mk k (xs.take j)).length = j := by rw [mkL_length, List.length_take]; omega
  rw [List.getElem_append_right (by omega)]
  simp only [hl, Nat.sub_self, List.getElem_drop, Nat.add_zero]
theorem mid_set {k j : Nat} {xs : List α} (h : j < xs.length) : (mkL cnt mk k (xs.take j) ++ xs.drop j).set j (mk (k + cntL cnt (xs.take j)) xs[j]) = mkL cnt mk k (xs.take (j + 1)) ++ xs.drop (j + 1) := by
  have hl : (mkL cnt mk k (xs.take j)).length = j := by rw [mkL_length, List.length_take]; omega
  rw [List.set_append_right _ _ (by omega), hl, Nat.sub_self, List.drop_eq_getElem_cons h, List.set_cons_zero, List.take_succ_eq_append_getElem h, mkL_append]
  simp [mkL]
theorem mkL_get {k j : Nat} {xs : List α} (h : j < xs.length) (h' : j < (mkL cnt mk k xs).length) : (mkL cnt mk k xs)[j] = mk (k + cntL cnt (xs.take j)) xs[j] := by
  have hs : xs = xs.take j ++ xs[j] :: xs.drop (j + 1) := by rw [← List.drop_eq_getElem_cons h, List.take_append_drop]
  have hl : (mkL cnt mk k (xs.take j)).length = j := by rw [mkL_length, List.length_take]; omega
  have e : (mkL cnt mk k xs)[j]? = some (mk (k + cntL cnt (xs.take j)) xs[j]) := by
    conv => lhs; rw [hs]
    rw [mkL_append, List.getElem?_append_right (by omega), hl, Nat.sub_self, mkL]; rfl
  rw [List.getElem?_eq_getElem h'] at e
  exact Option.some.inj e
theorem cntL_le {L : Lay α} (h : ∀ x, cnt x ≤ L.wt x + 1) (xs : List α) : cntL cnt xs ≤ (Lay.list L).wt xs := by
  rw [Lay.wt_list]
  induction xs with
  | nil => simp [cntL]
  | cons x xs ih => have := h x; simp only [cntL, List.length_cons, Lay.sumL]; omega
end
def cntInt : Int → Nat := fun _ => 1
def mkInt : Nat → Int → Int := fun k _ => (k : Int)
def cntIntS : List Int → Nat := cntL cntInt
def mkIntS : Nat → List Int → List Int := mkL cntInt mkInt
theorem cntIntS_eq (xs : List Int) : cntIntS xs = xs.length := by
  unfold cntIntS
  induction xs with
  | nil => rfl
  | cons x xs ih => simp [cntL, cntInt, ih]; omega
theorem cntIntS_le (xs : List Int) : cntIntS xs ≤ (Lay.list Lay.int).wt xs := cntL_le _ (fun _ => by simp [cntInt]) xs
theorem mkIntS_marks (k : Nat) (xs : List Int) : mkIntS k xs = marks (k : Int) xs.length := by
  apply List.ext_getElem?
  intro i
  by_cases h : i < xs.length
  · rw [marks_get _ _ _ h, List.getElem?_eq_getElem (by rw [mkIntS, mkL_length]; exact h)]
    simp only [mkIntS]
    rw [mkL_get cntInt mkInt h]
    have : cntL cntInt (xs.take i) = i := by have := cntIntS_eq (xs.take i); rw [cntIntS] at this; rw [this, List.length_take]; omega
    simp [mkInt, this]
  · rw [List.getElem?_eq_none (by rw [mkIntS, mkL_length]; omega), List.getElem?_eq_none (by rw [marks_length]; omega)]

/-- An integer stored into an own list of integers. -/
theorem OD.intStore {w : World} {base g n c : Nat} {M : List Int} {S : Nat → Prop} (h : OD w base (.slice (some ⟨g, 0, none⟩) n c) (slD Lay.int M) S) {i : Nat} (hi : i < M.length) (x : Int) :
    OD (w.setCell ⟨g, i, none⟩ (.int .i64 x)) base (.slice (some ⟨g, 0, none⟩) n c) (slD Lay.int (M.set i x)) S ∧ Within w (w.setCell ⟨g, i, none⟩ (.int .i64 x)) S ∧ (∃ z, w.cell? ⟨g, i, none⟩ = some z) ∧ w.frozen? ⟨g, i, none⟩ = false := by
  have := OD.elemStore Lay.int.len h hi (j := 0) (by decide) (.int .i64 M[i]) (.int .i64 x) (by simp [Lay.int]) (by simp [Lay.int]) x (by simp [Lay.int])
  have e : i * Lay.int.sz + 0 = i := by show i * 1 + 0 = i; omega
  rw [e] at this
  exact this
/-- What lies behind place i of an own list of lists. -/
theorem OD.listInto {α : Type} {L : Lay α} {w : World} {base g n c : Nat} {M : List (List α)} {S : Nat → Prop} (h : OD w base (.slice (some ⟨g, 0, none⟩) n c) (slD (Lay.list L) M) S) {i : Nat} (hi : i < M.length) :
    ∃ a' c' T, w.cell? ⟨g, i, none⟩ = some (.slice a' M[i].length c') ∧ OD w base (.slice a' M[i].length c') (slD L M[i]) T ∧ (∀ k, T k → S k) ∧
      ∀ w' xs, OD w' base (.slice a' M[i].length c') (slD L xs) T → Within w w' T → OD w' base (.slice (some ⟨g, 0, none⟩) n c) (slD (Lay.list L) (M.set i xs)) S := by
  obtain ⟨u, T, hc, ho, hT, _, hput⟩ := OD.elemInto (Lay.list L).len h hi (j := 0) (by show 0 < 1; decide) (by show 0 < 1; decide)
  have e : i * (Lay.list L).sz + 0 = i := by show i * 1 + 0 = i; omega
  rw [e] at hc
  have ho' : OD w base u (slD L M[i]) T := ho
  obtain ⟨a', c', rfl, _⟩ := OD.shapeL ho'
  exact ⟨a', c', T, hc, ho', hT, fun w' xs h' hw => hput w' (slD L xs) xs rfl h' hw⟩

/-- The values of E, each a few cells, all made by the call, in the blocks S, no block twice. -/
def Ents (w : World) (base : Nat) : List (List Value × List Dat) → (Nat → Prop) → Prop
  | [], S => ∀ k, ¬ S k
  | x :: E, S => ∃ T U, Cells w base x.1 x.2 T ∧ Ents w base E U ∧ (∀ k, T k → ¬ U k) ∧ ∀ k, S k ↔ T k ∨ U k
theorem Ents.kept {w w' : World} {base : Nat} {V : Nat → Prop} (hw : Within w w' V) : ∀ {E : List (List Value × List Dat)} {S : Nat → Prop}, Ents w base E S → (∀ k, S k → ¬ V k) → Ents w' base E S
  | [], _, h, _ => h
  | _ :: _, _, ⟨T, U, hT, hU, hd, hS⟩, hn => ⟨T, U, hT.kept hw (fun k hk => hn k ((hS k).2 (.inl hk))), hU.kept hw (fun k hk => hn k ((hS k).2 (.inr hk))), hd, hS⟩
theorem Ents.lt {w : World} {base : Nat} : ∀ {E : List (List Value × List Dat)} {S : Nat → Prop}, Ents w base E S → ∀ k, S k → base ≤ k ∧ k < w.heap.size
  | [], _, h, k, hk => absurd hk (h k)
  | _ :: _, _, ⟨_, _, hT, hU, _, hS⟩, k, hk => by
    rcases (hS k).1 hk with hk | hk
    · exact hT.lt k hk
    · exact hU.lt k hk
theorem Ents.at {w : World} {base : Nat} : ∀ {E : List (List Value × List Dat)} {S : Nat → Prop}, Ents w base E S → ∀ x ∈ E, ∀ j (hj : j < x.1.length) (hj' : j < x.2.length), RD w x.1[j] x.2[j]
  | [], _, _, _, hx, _, _, _ => by simp at hx
  | y :: E, _, ⟨_, _, hT, hU, _, _⟩, x, hx, j, hj, hj' => by
    rcases List.mem_cons.1 hx with rfl | hx
    · exact hT.rdAt j hj hj'
    · exact hU.at x hx j hj hj'
/-- One of the values, and how all are put together again when it alone has turned. -/
theorem Ents.turn {w : World} {base : Nat} : ∀ {P Q : List (List Value × List Dat)} {x : List Value × List Dat} {S : Nat → Prop}, Ents w base (P ++ x :: Q) S →
    ∃ T, Cells w base x.1 x.2 T ∧ (∀ k, T k → S k) ∧ ∀ w' ds, Cells w' base x.1 ds T → Within w w' T → Ents w' base (P ++ (x.1, ds) :: Q) S
  | [], _, _, _, ⟨T, U, hT, hU, hd, hS⟩ => ⟨T, hT, fun k hk => (hS k).2 (.inl hk), fun _ _ h' hw => ⟨T, U, h', hU.kept hw (fun k hk hk2 => hd k hk2 hk), hd, hS⟩⟩
  | _ :: _, _, _, _, ⟨T, U, hT, hU, hd, hS⟩ => by
    obtain ⟨T', h1, h2, h3⟩ := hU.turn
    exact ⟨T', h1, fun k hk => (hS k).2 (.inr (h2 k hk)), fun w' ds h' hw => ⟨T, U, hT.kept hw (fun k hk hk2 => hd k hk (h2 k hk2)), h3 w' ds h' hw, hd, hS⟩⟩
/-- One of the values is let go. -/
theorem Ents.drop {w : World} {base : Nat} : ∀ {P Q : List (List Value × List Dat)} {x : List Value × List Dat} {S : Nat → Prop}, Ents w base (P ++ x :: Q) S → ∃ S', Ents w base (P ++ Q) S' ∧ ∀ k, S' k → S k
  | [], _, _, _, ⟨_, U, _, hU, _, hS⟩ => ⟨U, hU, fun k hk => (hS k).2 (.inr hk)⟩
  | _ :: _, _, _, _, ⟨T, U, hT, hU, hd, hS⟩ => by
    obtain ⟨S', h1, h2⟩ := hU.drop
    exact ⟨fun k => T k ∨ S' k, ⟨T, S', hT, h1, fun k hk hk2 => hd k hk (h2 k hk2), fun _ => Iff.rfl⟩, fun k hk => (hS k).2 (hk.imp id (h2 k))⟩

/-- What a walk holds that began at w0: nothing old has turned, the boxes B stand, the values E are as told; nothing lies in anything else. -/
structure Holds (w0 w : World) (B : List (Nat × List Value)) (E : List (List Value × List Dat)) : Prop where
  below : Below w0.heap.size w0 w
  boxes : Keeps w B
  boxlt : ∀ p ∈ B, p.1 < w.heap.size
  ents : ∃ S, Ents w w0.heap.size E S ∧ ∀ p ∈ B, ¬ S p.1
theorem Holds.start (w : World) : Holds w w [] [] := ⟨Below.refl _ _, Keeps.nil w, fun _ h => by simp at h, fun _ => False, fun _ h => h, fun _ h => by simp at h⟩
section
variable {w0 w w' : World} {B : List (Nat × List Value)} {E P Q : List (List Value × List Dat)}
theorem Holds.size (h : Holds w0 w B E) : w0.heap.size ≤ w.heap.size := h.below.size
theorem Holds.later (h : Holds w0 w B E) (hb : Below w.heap.size w w') : Holds w0 w' B E := by
  obtain ⟨S, h1, h2⟩ := h.ents
  exact ⟨h.below.trans (hb.mono h.size), h.boxes.later hb, fun p hp => Nat.lt_of_lt_of_le (h.boxlt p hp) hb.size, S, h1.kept (Within.of_below hb (fun _ => False)) (fun _ _ h => h), h2⟩
theorem Holds.drew (h : Holds w0 w B E) : Holds w0 w.drew B E := h.later (Below.drew (Below.refl _ _))
theorem Holds.box (h : Holds w0 w B E) (vs : List Value) (t : TypeId) : Holds w0 (w.alloc (.cells vs.toArray t)) ((w.heap.size, vs) :: B) E := by
  obtain ⟨S, h1, h2⟩ := h.ents
  have hb : Below w.heap.size w (w.alloc (.cells vs.toArray t)) := (Below.refl _ _).alloc (Nat.le_refl _) _
  refine ⟨h.below.trans (hb.mono h.size), h.boxes.box vs t, fun p hp => ?_, S, h1.kept (Within.of_below hb (fun _ => False)) (fun _ _ h => h), fun p hp => ?_⟩
  · rcases List.mem_cons.1 hp with rfl | hp
    · simp
    · exact Nat.lt_of_lt_of_le (h.boxlt p hp) hb.size
  · rcases List.mem_cons.1 hp with rfl | hp
    · intro hk; have := (h1.lt _ hk).2; simp at this
    · exact h2 p hp
theorem Holds.push (h : Holds w0 w B E) (hb : Below w.heap.size w w') {vs : List Value} {ds : List Dat} {T : Nat → Prop} (hc : Cells w' w.heap.size vs ds T) : Holds w0 w' B ((vs, ds) :: E) := by
  obtain ⟨S0, h10, h20⟩ := h.ents
  have hS0 : Ents w' w0.heap.size E S0 := h10.kept (Within.of_below hb (fun _ => False)) (fun _ _ h => h)
  refine ⟨(h.later hb).below, (h.later hb).boxes, (h.later hb).boxlt, fun k => T k ∨ S0 k, ⟨T, S0, hc.base h.size, hS0, fun k hk hk2 => ?_, fun _ => Iff.rfl⟩, fun p hp hk => ?_⟩
  · have := (hc.lt k hk).1; have := (h10.lt k hk2).2; omega
  · rcases hk with hk | hk
    · have := (hc.lt _ hk).1; have := h.boxlt p hp; omega
    · exact h20 p hp hk
theorem Cells.one {w : World} {base : Nat} {v : Value} {d : Dat} {T : Nat → Prop} (h : OD w base v d T) : Cells w base [v] [d] T := Cells.last [] h
theorem Cells.od {w : World} {base : Nat} {v : Value} {d : Dat} {T : Nat → Prop} (h : Cells w base [v] [d] T) : OD w base v d T := by
  obtain ⟨G, _, hr, _, hT⟩ := h
  have e : T = G 0 := by
    funext k
    apply propext
    rw [hT k]
    exact ⟨fun ⟨i, hi, hk⟩ => by have : i = 0 := by simpa using hi
                                 exact this ▸ hk, fun hk => ⟨0, by simp, hk⟩⟩
  rw [e]
  exact hr 0 (by simp) (by simp)
theorem Holds.rd (h : Holds w0 w B E) (x : List Value × List Dat) (hx : x ∈ E) (j : Nat) (hj : j < x.1.length) (hj' : j < x.2.length) : RD w x.1[j] x.2[j] := by
  obtain ⟨S, h1, _⟩ := h.ents
  exact h1.at x hx j hj hj'
/-- A value of the walk's own, handed to what turns it alone. -/
theorem Holds.turn {x : List Value × List Dat} (h : Holds w0 w B (P ++ x :: Q)) : ∃ T, Cells w w0.heap.size x.1 x.2 T ∧ ∀ w' ds, Cells w' w0.heap.size x.1 ds T → Within w w' T → Holds w0 w' B (P ++ (x.1, ds) :: Q) := by
  obtain ⟨S, h1, h2⟩ := h.ents
  obtain ⟨T, g1, g2, g3⟩ := h1.turn
  refine ⟨T, g1, fun w' ds hc hw => ⟨hw.below h.below (fun k hk => (g1.lt k hk).1), fun p hp j hj => ?_, fun p hp => Nat.lt_of_lt_of_le (h.boxlt p hp) hw.size, S, g3 w' ds hc hw, h2⟩⟩
  have c := h.boxes p hp j hj
  have e := hw.block p.1 (h.boxlt p hp) (fun hk => h2 p hp (g2 _ hk))
  rw [← c]
  simp only [World.cell?, e]
theorem Holds.drop {x : List Value × List Dat} (h : Holds w0 w B (P ++ x :: Q)) : Holds w0 w B (P ++ Q) := by
  obtain ⟨S, h1, h2⟩ := h.ents
  obtain ⟨S', g1, g2⟩ := h1.drop
  exact ⟨h.below, h.boxes, h.boxlt, S', g1, fun p hp hk => h2 p hp (g2 _ hk)⟩
theorem Holds.cell (h : Holds w0 w B E) (p : Nat × List Value) (hp : p ∈ B) (j : Nat) (hj : j < p.2.length) : w.cell? ⟨p.1, j, none⟩ = some p.2[j] := h.boxes p hp j hj
end
end Go.Proofs.Ytdniejpblhbjkab
