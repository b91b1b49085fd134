/-
  Contracts and plain mathematics, joined: HIntS, HIntSS, HIntSSS. No statement is proved here.
-/
import Derived.Test.YthnppodnjokaoaaDoorG2
import Derived.Deep.RegionWith
namespace Go.Proofs.YthnppodnjokaoaaDoor
open Go.RowKit

theorem toIntS_l (xs : List Int) (a : Option Addr) (c : Nat) (w : World) (h : RD w (.slice a xs.length c) (slD Lay.int xs)) (hn : (Lay.list Lay.int).wt xs ≤ 1048576) :
    Calls Tryd.prog 8 #[.slice a xs.length c] w fun e w' => ∃ v S, e = .returned v ∧ OD w' w.heap.size v (slD Lay.int xs) S ∧ Below w.heap.size w w' := by
  rw [Lay.wt_ints] at hn
  refine (toIntS_own a c xs w h.reads hn).mono ?_
  rintro e w1 ⟨v, rfl, ho, hb⟩
  exact ⟨v, _, rfl, ho.od, hb⟩
theorem eqIntS_l (xs : List Int) (a b : Option Addr) (c d : Nat) (w : World) (h : RD w (.slice a xs.length c) (slD Lay.int xs)) (g : RD w (.slice b xs.length d) (slD Lay.int xs)) (hn : (Lay.list Lay.int).wt xs ≤ 4194304) :
    Calls Tryd.prog 10 #[.slice a xs.length c, .slice b xs.length d] w fun e w' => e = .returned (.bool true) ∧ Below w.heap.size w w' := by
  rw [Lay.wt_ints] at hn
  refine (eqIntS_any a b c d xs xs w h.reads g.reads hn).mono ?_
  rintro e w1 ⟨rfl, hb⟩
  exact ⟨by rw [eqL_self], hb⟩
theorem szIntS_l (xs : List Int) (a : Option Addr) (c : Nat) (l : Int) (w : World) (_ : RD w (.slice a xs.length c) (slD Lay.int xs)) (hf : (Lay.list Lay.int).fit xs) (h0 : 0 ≤ l) (h1 : l ≤ 1048576) :
    Calls Tryd.prog 66 #[.slice a xs.length c, .int .i64 l] w fun e w' => ∃ r, e = .returned (.int .i64 r) ∧ SzE ((Lay.list Lay.int).wt xs) l r ∧ Below w.heap.size w w' := by
  have hm := hf.1
  unfold maxLen at hm
  rw [Lay.wt_ints]
  by_cases hbig : l < (xs.length : Int)
  · go_enter Tryd.func66, Tryd.ntmps66
    go_wp2
    go_ret
    exact ⟨_, rfl, .inl rfl, Below.refl _ _⟩
  · go_enter Tryd.func66, Tryd.ntmps66
    go_wp2
    go_ret
    exact ⟨_, rfl, .inr ⟨by omega, rfl⟩, Below.refl _ _⟩

end Go.Proofs.YthnppodnjokaoaaDoor
namespace Go.Proofs.YthnppodnjokaoaaDoor
open Go.RowKit

theorem Tryd.infoIntS : (Tryd.prog.info? 25).map (fun i => (i.zero, i.size, i.bytes)) = some (some (.slice none 0 0), 1, 24) := by kernel_rfl

set_option maxRecDepth 100000 in
theorem toIntSS_l (xs : List (List Int)) (a : Option Addr) (c : Nat) (w : World) (h : RD w (.slice a xs.length c) (slD (Lay.list Lay.int) xs)) (hn : (Lay.list (Lay.list Lay.int)).wt xs ≤ 1048576) :
    Calls Tryd.prog 44 #[.slice a xs.length c] w fun e w' => ∃ v S, e = .returned v ∧ OD w' w.heap.size v (slD (Lay.list Lay.int) xs) S ∧ Below w.heap.size w w' := by
  rw [Lay.wt_list] at hn
  obtain ⟨W, hmk, O0, B0⟩ := make_ownL (P := Tryd.prog) w 64 25 (.slice none 0 0) 24 [.slice none 0 0] [.sl 0 []] xs.length Tryd.underlying64 Tryd.infoIntS rfl (by decide) (by omega) (by decide) (by intro u hu; simp at hu; subst hu; rfl) rfl
    (by intro W base i hi hi'; match i, hi with | 0, _ => exact .nil 0 rfl)
  rw [zero_cells (L := (Lay.list Lay.int)) (z := []) (zd := [.sl 0 []]) rfl] at O0
  go_enter Tryd.func44, Tryd.ntmps44
  go_wp2
  go_loopw [4] (fun i wr => ∃ (k : Nat) (S : Nat → Prop), k ≤ xs.length ∧ i = .int .i64 k ∧ OL wr w.heap.size 25 1 (.slice (some ⟨w.heap.size, 0, none⟩) xs.length xs.length) xs.length ((xs.take k ++ List.replicate (xs.length - k) []).flatMap (Lay.list Lay.int).cells) S ∧ Below w.heap.size w wr) (fun i _ => xs.length - (intOf i).toNat)
  case atStart => exact ⟨0, _, Nat.zero_le _, rfl, by simpa using O0, B0⟩
  case round =>
    obtain ⟨k, S, hk, rfl, hown, hbel⟩ := hrel
    by_cases hlt : k < xs.length
    · obtain ⟨b1, o1, rfl, hb1, a1, c1, q0, r1⟩ := (h.later hbel).listAt hlt
      have hk2 := Lay.sumL_at (Lay.list Lay.int) hlt
      have X : Hid (Calls Tryd.prog 8 #[.slice a1 xs[k].length c1] wr fun e w' => ∃ v S, e = .returned v ∧ OD w' wr.heap.size v (slD Lay.int xs[k]) S ∧ Below wr.heap.size wr w') :=
        toIntS_l xs[k] a1 c1 wr r1 (by omega)
      have HP : Hid ((xs.take k ++ List.replicate (xs.length - k) []).set k xs[k] = xs.take (k + 1) ++ List.replicate (xs.length - (k + 1)) []) := put_step hlt
      have hkL : k < (xs.take k ++ List.replicate (xs.length - k) []).length := by simp; omega
      generalize xs.take k ++ List.replicate (xs.length - k) [] = M at *
      generalize xs[k] = y at *
      clear h r1 hmk O0 B0 hk2
      go_wp2_with fail
      refine X.out.mono ?_
      rintro e w1 ⟨v, T, rfl, O1, hb2⟩
      obtain ⟨av, cv, rfl, _⟩ := OD.shapeL O1
      have B1 := hbel.trans (hb2.mono hbel.size)
      have own1 := hown.later hb2
      have hsz := hbel.size
      obtain ⟨S', O2, hS', G2, hSg, ⟨z0, c0⟩, f0⟩ := own1.putList hkL (.slice av y.length cv) y T (O1.base hsz) (fun k hk hk2 => by have h1 := (O1.lt k hk).1; have h2 := (hown.lt k hk2).2; omega)
      rw [HP.out] at O2
      have B2 := B1.grown G2 B1.size (fun k hk => by cases hk; exact Nat.le_refl _)
      have hz1 : w.heap.size < w1.heap.size := Nat.lt_of_lt_of_le (hown.lt _ hSg).2 hb2.size
      clear X hown own1 O1 hbel hb2 HP G2 q0 hb1 hkL B1
      go_wp2
      go_roundw
      case rel => exact ⟨k + 1, S', by omega, by go_num, O2, B2⟩
      case measure => simp [intOf]; omega
    · have e : k = xs.length := by omega
      subst e
      go_wp2
      go_ret
      exact ⟨_, _, rfl, by simpa [slD] using hown.od, hbel⟩

theorem eqIntSS_l (xs : List (List Int)) (a b : Option Addr) (c d : Nat) (w : World) (h : RD w (.slice a xs.length c) (slD (Lay.list Lay.int) xs)) (g : RD w (.slice b xs.length d) (slD (Lay.list Lay.int) xs)) (hn : (Lay.list (Lay.list Lay.int)).wt xs ≤ 4194304) :
    Calls Tryd.prog 48 #[.slice a xs.length c, .slice b xs.length d] w fun e w' => e = .returned (.bool true) ∧ Below w.heap.size w w' := by
  rw [Lay.wt_list] at hn
  go_enter Tryd.func48, Tryd.ntmps48
  go_wp2
  go_loopw [5] (fun i wr => ∃ k : Nat, k ≤ xs.length ∧ i = .int .i64 k ∧ Below w.heap.size w wr) (fun i _ => xs.length - (intOf i).toNat)
  case atStart => exact ⟨0, Nat.zero_le _, rfl, Below.refl _ _⟩
  case round =>
    obtain ⟨k, hk, rfl, hbel⟩ := hrel
    by_cases hlt : k < xs.length
    · obtain ⟨b1, o1, rfl, hb1, a1, c1, q0, r1⟩ := (h.later hbel).listAt hlt
      obtain ⟨b2, o2, rfl, hb2, a2, c2, p0, r2⟩ := (g.later hbel).listAt hlt
      have hk2 := Lay.sumL_at (Lay.list Lay.int) hlt
      have X : Hid (Calls Tryd.prog 10 #[.slice a1 xs[k].length c1, .slice a2 xs[k].length c2] wr.drew fun e w' => e = .returned (.bool true) ∧ Below wr.heap.size wr w') :=
        (eqIntS_l xs[k] a1 a2 c1 c2 wr.drew (r1.later (below_drew 1)) (r2.later (below_drew 1)) (by omega)).mono fun e w' h => ⟨h.1, ⟨h.2.os, h.2.tape, h.2.output, h.2.size, h.2.block⟩⟩
      clear h g r1 r2 hk2
      generalize xs[k] = y at *
      go_wp2
      go_region_with (go_at_call 10; refine X.out.mono ?_; rintro e w1 ⟨rfl, hl1⟩)
      all_goals
        go_wp2
        go_roundw
        case rel => exact ⟨k + 1, by omega, by go_num, hbel.trans (hl1.mono hbel.size)⟩
        case measure => simp [intOf]; omega
    · go_wp2
      go_ret
      exact ⟨rfl, hbel⟩

set_option maxRecDepth 100000 in
theorem szIntSS_l (xs : List (List Int)) (a : Option Addr) (c : Nat) (l : Int) (w : World) (h : RD w (.slice a xs.length c) (slD (Lay.list Lay.int) xs)) (hf : (Lay.list (Lay.list Lay.int)).fit xs) (h0 : 0 ≤ l) (h1 : l ≤ 1048576) :
    Calls Tryd.prog 39 #[.slice a xs.length c, .int .i64 l] w fun e w' => ∃ r, e = .returned (.int .i64 r) ∧ SzE ((Lay.list (Lay.list Lay.int)).wt xs) l r ∧ Below w.heap.size w w' := by
  obtain ⟨hm, hfe⟩ := hf
  unfold maxLen at hm
  rw [Lay.wt_list]
  by_cases hbig : l < (xs.length : Int)
  · go_enter Tryd.func39, Tryd.ntmps39
    go_wp2
    go_ret
    exact ⟨_, rfl, .inl rfl, Below.refl _ _⟩
  · go_enter Tryd.func39, Tryd.ntmps39
    go_wp2
    go_loopw [1, 5] (fun sl i wr => ∃ (k : Nat) (x : Int), k ≤ xs.length ∧ i = .int .i64 k ∧ sl = .int .i64 x ∧ 0 ≤ x ∧ Hid (x + xs.length + Lay.sumL (Lay.list Lay.int) (xs.take k) = l) ∧ Below w.heap.size w wr) (fun _ i _ => xs.length - (intOf i).toNat)
    case atStart => exact ⟨0, l - xs.length, Nat.zero_le _, rfl, rfl, by omega, by show _ = _; simp [Lay.sumL], Below.refl _ _⟩
    case round =>
      obtain ⟨k, x, hk, rfl, rfl, hx0, HXL, hbel⟩ := hrel
      by_cases hlt : k < xs.length
      · obtain ⟨b1, o1, rfl, hb1, a1, c1, q0, r1⟩ := (h.later hbel).listAt hlt
        have fe := hfe xs[k] (List.getElem_mem hlt)
        have HW : Hid (Lay.sumL (Lay.list Lay.int) (xs.take (k + 1)) = Lay.sumL (Lay.list Lay.int) (xs.take k) + (Lay.list Lay.int).wt xs[k]) := Lay.sumL_take _ hlt
        have hx1 : x ≤ 1048576 := by have := HXL.out; omega
        have X : Hid (Calls Tryd.prog 66 #[.slice a1 xs[k].length c1, .int .i64 x] wr fun e w' => ∃ r, e = .returned (.int .i64 r) ∧ SzE ((Lay.list Lay.int).wt xs[k]) x r ∧ Below wr.heap.size wr w') :=
          szIntS_l xs[k] a1 c1 x wr r1 fe hx0 hx1
        clear h r1 fe hfe
        generalize (Lay.list Lay.int).wt xs[k] = wk at *
        generalize xs[k] = y at *
        go_wp2_with fail
        refine X.out.mono ?_
        rintro e w1 ⟨r, rfl, hr, hb2⟩
        have B2 := hbel.trans (hb2.mono hbel.size)
        clear X hb2 q0
        rcases hr with rfl | ⟨hr0, hr1⟩
        · go_wp2
          go_ret
          exact ⟨_, rfl, .inl rfl, B2⟩
        · have HR : Hid (r = x - (wk : Nat)) := hr1
          clear hr1
          go_wp2
          go_roundw
          case rel => exact ⟨k + 1, r, by omega, by go_num, rfl, hr0, by show _ = _; rw [HW.out]; have h1 := HXL.out; have h2 := HR.out; omega, B2⟩
          case measure => simp [intOf]; omega
      · have e : k = xs.length := by omega
        subst e
        have HE : Hid (x = l - (xs.length + Lay.sumL (Lay.list Lay.int) xs : Nat)) := by have := HXL.out; rw [List.take_length] at this; show _ = _; omega
        clear HXL
        go_wp2
        go_ret
        exact ⟨_, rfl, .inr ⟨hx0, HE.out⟩, hbel⟩

end Go.Proofs.YthnppodnjokaoaaDoor
namespace Go.Proofs.YthnppodnjokaoaaDoor
open Go.RowKit

theorem Tryd.infoIntSS : (Tryd.prog.info? 64).map (fun i => (i.zero, i.size, i.bytes)) = some (some (.slice none 0 0), 1, 24) := by kernel_rfl

set_option maxRecDepth 100000 in
theorem toIntSSS_l (xs : List (List (List Int))) (a : Option Addr) (c : Nat) (w : World) (h : RD w (.slice a xs.length c) (slD (Lay.list (Lay.list Lay.int)) xs)) (hn : (Lay.list (Lay.list (Lay.list Lay.int))).wt xs ≤ 1048576) :
    Calls Tryd.prog 22 #[.slice a xs.length c] w fun e w' => ∃ v S, e = .returned v ∧ OD w' w.heap.size v (slD (Lay.list (Lay.list Lay.int)) xs) S ∧ Below w.heap.size w w' := by
  rw [Lay.wt_list] at hn
  obtain ⟨W, hmk, O0, B0⟩ := make_ownL (P := Tryd.prog) w 22 64 (.slice none 0 0) 24 [.slice none 0 0] [.sl 0 []] xs.length Tryd.underlying22 Tryd.infoIntSS rfl (by decide) (by omega) (by decide) (by intro u hu; simp at hu; subst hu; rfl) rfl
    (by intro W base i hi hi'; match i, hi with | 0, _ => exact .nil 0 rfl)
  rw [zero_cells (L := (Lay.list (Lay.list Lay.int))) (z := []) (zd := [.sl 0 []]) rfl] at O0
  go_enter Tryd.func22, Tryd.ntmps22
  go_wp2
  go_loopw [4] (fun i wr => ∃ (k : Nat) (S : Nat → Prop), k ≤ xs.length ∧ i = .int .i64 k ∧ OL wr w.heap.size 64 1 (.slice (some ⟨w.heap.size, 0, none⟩) xs.length xs.length) xs.length ((xs.take k ++ List.replicate (xs.length - k) []).flatMap (Lay.list (Lay.list Lay.int)).cells) S ∧ Below w.heap.size w wr) (fun i _ => xs.length - (intOf i).toNat)
  case atStart => exact ⟨0, _, Nat.zero_le _, rfl, by simpa using O0, B0⟩
  case round =>
    obtain ⟨k, S, hk, rfl, hown, hbel⟩ := hrel
    by_cases hlt : k < xs.length
    · obtain ⟨b1, o1, rfl, hb1, a1, c1, q0, r1⟩ := (h.later hbel).listAt hlt
      have hk2 := Lay.sumL_at (Lay.list (Lay.list Lay.int)) hlt
      have X : Hid (Calls Tryd.prog 44 #[.slice a1 xs[k].length c1] wr fun e w' => ∃ v S, e = .returned v ∧ OD w' wr.heap.size v (slD (Lay.list Lay.int) xs[k]) S ∧ Below wr.heap.size wr w') :=
        toIntSS_l xs[k] a1 c1 wr r1 (by omega)
      have HP : Hid ((xs.take k ++ List.replicate (xs.length - k) []).set k xs[k] = xs.take (k + 1) ++ List.replicate (xs.length - (k + 1)) []) := put_step hlt
      have hkL : k < (xs.take k ++ List.replicate (xs.length - k) []).length := by simp; omega
      generalize xs.take k ++ List.replicate (xs.length - k) [] = M at *
      generalize xs[k] = y at *
      clear h r1 hmk O0 B0 hk2
      go_wp2_with fail
      refine X.out.mono ?_
      rintro e w1 ⟨v, T, rfl, O1, hb2⟩
      obtain ⟨av, cv, rfl, _⟩ := OD.shapeL O1
      have B1 := hbel.trans (hb2.mono hbel.size)
      have own1 := hown.later hb2
      have hsz := hbel.size
      obtain ⟨S', O2, hS', G2, hSg, ⟨z0, c0⟩, f0⟩ := own1.putList hkL (.slice av y.length cv) y T (O1.base hsz) (fun k hk hk2 => by have h1 := (O1.lt k hk).1; have h2 := (hown.lt k hk2).2; omega)
      rw [HP.out] at O2
      have B2 := B1.grown G2 B1.size (fun k hk => by cases hk; exact Nat.le_refl _)
      have hz1 : w.heap.size < w1.heap.size := Nat.lt_of_lt_of_le (hown.lt _ hSg).2 hb2.size
      clear X hown own1 O1 hbel hb2 HP G2 q0 hb1 hkL B1
      go_wp2
      go_roundw
      case rel => exact ⟨k + 1, S', by omega, by go_num, O2, B2⟩
      case measure => simp [intOf]; omega
    · have e : k = xs.length := by omega
      subst e
      go_wp2
      go_ret
      exact ⟨_, _, rfl, by simpa [slD] using hown.od, hbel⟩

theorem eqIntSSS_l (xs : List (List (List Int))) (a b : Option Addr) (c d : Nat) (w : World) (h : RD w (.slice a xs.length c) (slD (Lay.list (Lay.list Lay.int)) xs)) (g : RD w (.slice b xs.length d) (slD (Lay.list (Lay.list Lay.int)) xs)) (hn : (Lay.list (Lay.list (Lay.list Lay.int))).wt xs ≤ 4194304) :
    Calls Tryd.prog 25 #[.slice a xs.length c, .slice b xs.length d] w fun e w' => e = .returned (.bool true) ∧ Below w.heap.size w w' := by
  rw [Lay.wt_list] at hn
  go_enter Tryd.func25, Tryd.ntmps25
  go_wp2
  go_loopw [5] (fun i wr => ∃ k : Nat, k ≤ xs.length ∧ i = .int .i64 k ∧ Below w.heap.size w wr) (fun i _ => xs.length - (intOf i).toNat)
  case atStart => exact ⟨0, Nat.zero_le _, rfl, Below.refl _ _⟩
  case round =>
    obtain ⟨k, hk, rfl, hbel⟩ := hrel
    by_cases hlt : k < xs.length
    · obtain ⟨b1, o1, rfl, hb1, a1, c1, q0, r1⟩ := (h.later hbel).listAt hlt
      obtain ⟨b2, o2, rfl, hb2, a2, c2, p0, r2⟩ := (g.later hbel).listAt hlt
      have hk2 := Lay.sumL_at (Lay.list (Lay.list Lay.int)) hlt
      have X : Hid (Calls Tryd.prog 48 #[.slice a1 xs[k].length c1, .slice a2 xs[k].length c2] wr.drew fun e w' => e = .returned (.bool true) ∧ Below wr.heap.size wr w') :=
        (eqIntSS_l xs[k] a1 a2 c1 c2 wr.drew (r1.later (below_drew 1)) (r2.later (below_drew 1)) (by omega)).mono fun e w' h => ⟨h.1, ⟨h.2.os, h.2.tape, h.2.output, h.2.size, h.2.block⟩⟩
      clear h g r1 r2 hk2
      generalize xs[k] = y at *
      go_wp2
      go_region_with (go_at_call 48; refine X.out.mono ?_; rintro e w1 ⟨rfl, hl1⟩)
      all_goals
        go_wp2
        go_roundw
        case rel => exact ⟨k + 1, by omega, by go_num, hbel.trans (hl1.mono hbel.size)⟩
        case measure => simp [intOf]; omega
    · go_wp2
      go_ret
      exact ⟨rfl, hbel⟩

set_option maxRecDepth 100000 in
theorem szIntSSS_l (xs : List (List (List Int))) (a : Option Addr) (c : Nat) (l : Int) (w : World) (h : RD w (.slice a xs.length c) (slD (Lay.list (Lay.list Lay.int)) xs)) (hf : (Lay.list (Lay.list (Lay.list Lay.int))).fit xs) (h0 : 0 ≤ l) (h1 : l ≤ 1048576) :
    Calls Tryd.prog 20 #[.slice a xs.length c, .int .i64 l] w fun e w' => ∃ r, e = .returned (.int .i64 r) ∧ SzE ((Lay.list (Lay.list (Lay.list Lay.int))).wt xs) l r ∧ Below w.heap.size w w' := by
  obtain ⟨hm, hfe⟩ := hf
  unfold maxLen at hm
  rw [Lay.wt_list]
  by_cases hbig : l < (xs.length : Int)
  · go_enter Tryd.func20, Tryd.ntmps20
    go_wp2
    go_ret
    exact ⟨_, rfl, .inl rfl, Below.refl _ _⟩
  · go_enter Tryd.func20, Tryd.ntmps20
    go_wp2
    go_loopw [1, 5] (fun sl i wr => ∃ (k : Nat) (x : Int), k ≤ xs.length ∧ i = .int .i64 k ∧ sl = .int .i64 x ∧ 0 ≤ x ∧ Hid (x + xs.length + Lay.sumL (Lay.list (Lay.list Lay.int)) (xs.take k) = l) ∧ Below w.heap.size w wr) (fun _ i _ => xs.length - (intOf i).toNat)
    case atStart => exact ⟨0, l - xs.length, Nat.zero_le _, rfl, rfl, by omega, by show _ = _; simp [Lay.sumL], Below.refl _ _⟩
    case round =>
      obtain ⟨k, x, hk, rfl, rfl, hx0, HXL, hbel⟩ := hrel
      by_cases hlt : k < xs.length
      · obtain ⟨b1, o1, rfl, hb1, a1, c1, q0, r1⟩ := (h.later hbel).listAt hlt
        have fe := hfe xs[k] (List.getElem_mem hlt)
        have HW : Hid (Lay.sumL (Lay.list (Lay.list Lay.int)) (xs.take (k + 1)) = Lay.sumL (Lay.list (Lay.list Lay.int)) (xs.take k) + (Lay.list (Lay.list Lay.int)).wt xs[k]) := Lay.sumL_take _ hlt
        have hx1 : x ≤ 1048576 := by have := HXL.out; omega
        have X : Hid (Calls Tryd.prog 39 #[.slice a1 xs[k].length c1, .int .i64 x] wr fun e w' => ∃ r, e = .returned (.int .i64 r) ∧ SzE ((Lay.list (Lay.list Lay.int)).wt xs[k]) x r ∧ Below wr.heap.size wr w') :=
          szIntSS_l xs[k] a1 c1 x wr r1 fe hx0 hx1
        clear h r1 fe hfe
        generalize (Lay.list (Lay.list Lay.int)).wt xs[k] = wk at *
        generalize xs[k] = y at *
        go_wp2_with fail
        refine X.out.mono ?_
        rintro e w1 ⟨r, rfl, hr, hb2⟩
        have B2 := hbel.trans (hb2.mono hbel.size)
        clear X hb2 q0
        rcases hr with rfl | ⟨hr0, hr1⟩
        · go_wp2
          go_ret
          exact ⟨_, rfl, .inl rfl, B2⟩
        · have HR : Hid (r = x - (wk : Nat)) := hr1
          clear hr1
          go_wp2
          go_roundw
          case rel => exact ⟨k + 1, r, by omega, by go_num, rfl, hr0, by show _ = _; rw [HW.out]; have h1 := HXL.out; have h2 := HR.out; omega, B2⟩
          case measure => simp [intOf]; omega
      · have e : k = xs.length := by omega
        subst e
        have HE : Hid (x = l - (xs.length + Lay.sumL (Lay.list (Lay.list Lay.int)) xs : Nat)) := by have := HXL.out; rw [List.take_length] at this; show _ = _; omega
        clear HXL
        go_wp2
        go_ret
        exact ⟨_, rfl, .inr ⟨hx0, HE.out⟩, hbel⟩

end Go.Proofs.YthnppodnjokaoaaDoor
