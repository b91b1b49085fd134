/-
  The specification's cursor over the bytes of a draw: what is known of it in memory, and contracts of its functions over this translation. No statement is proved here.
-/
import Derived.Test.YthnppodnjokaoaaOwn
import Derived.OpenShut
import Derived.Test.YthnppodnjokaoaaInfo
namespace Go.Proofs.Ythnppodnjokaoaa
open Go.RowKit

theorem and_bound (z : Int) (m : Nat) (hm : m < 4611686018427387904) : 0 ≤ bits .and .i64 z (m : Int) ∧ bits .and .i64 z (m : Int) ≤ m := by
  have h1 : (BitVec.ofInt 64 (m : Int)).toNat = m := by
    rw [BitVec.ofInt_natCast, BitVec.toNat_ofNat]; exact Nat.mod_eq_of_lt (by omega)
  have h2 : (BitVec.ofInt 64 z &&& BitVec.ofInt 64 (m : Int)).toNat ≤ m := by
    rw [BitVec.toNat_and, h1]; exact Nat.and_le_right
  have h3 : bits .and .i64 z (m : Int) = IntKind.i64.wrap ((BitVec.ofInt 64 z &&& BitVec.ofInt 64 (m : Int)).toNat : Int) := rfl
  rw [h3, IntKind.wrap_i64]
  omega

/-- The address a leads to the bytes bs, in cells below block g. -/
def BReads (w : World) (g : Nat) (a : Option Addr) (bs : List Int) : Prop :=
  bs = [] ∨ ∃ b off, a = some ⟨b, off, none⟩ ∧ b < g ∧ ∀ i, i < bs.length → w.cell? ⟨b, off + i, none⟩ = some (.int .u8 (bs.getD i 0)) ∧ 0 ≤ bs.getD i 0 ∧ bs.getD i 0 ≤ 255

theorem IsRow.breads {w : World} {a : Option Addr} {len cap : Nat} {zs : List Int} (h : IsRow .u8 w a len cap zs) :
    ∃ bs : List Int, len = bs.length ∧ bs.length ≤ cap ∧ BReads w w.heap.size a bs := by
  rcases h with ⟨rfl, rfl, rfl, rfl⟩ | ⟨x, rfl, hl, hm, hz, hc, hw⟩
  · exact ⟨[], rfl, by simp, .inl rfl⟩
  · have e : (zs.take len).length = len := by simp; omega
    refine ⟨zs.take len, e.symm, by omega, ?_⟩
    by_cases h0 : len = 0
    · subst h0; exact .inl (by simp)
    · obtain ⟨b, off, spot⟩ := x
      have h1 := hc 0 (by omega)
      have hs : spot = none := by simpa [Addr.add] using World.cell?_spot h1
      subst hs
      refine .inr ⟨b, off, rfl, by simpa [Addr.add] using World.block_lt_of_cell? w _ h1, fun i hi => ?_⟩
      rw [e] at hi
      have := hc i (by omega)
      rw [Addr.add_lit] at this
      have hg : (zs.take len).getD i 0 = zs.getD i 0 := getD_take hi
      rw [hg]
      have hb := hw (zs.getD i 0) (by rw [List.getD_eq_getElem?_getD, List.getElem?_eq_getElem (by omega)]; exact List.getElem_mem _)
      have hb2 : 0 ≤ zs.getD i 0 ∧ zs.getD i 0 ≤ 255 := by simpa [Lit.wf, IntKind.wrap, IntKind.bits, IntKind.signed] using bounds_u8 hb
      exact ⟨this, hb2⟩

/-- Block g is a cursor (of type t) over bytes that lie below it. -/
def Cur (w : World) (t : TypeId) (g : Nat) : Prop :=
  ∃ a c i h bs, w.heap[g]? = some (.cells #[.slice a (List.length bs) c, .int .i64 (i : Nat), .int .i64 h] t (0, 0)) ∧ i ≤ bs.length ∧ bs.length ≤ 1048576 ∧ BReads w g a bs

theorem BReads.blocks {w w' : World} {g : Nat} {a : Option Addr} {bs : List Int} (h : BReads w g a bs) (hb : ∀ k, k < g → w'.heap[k]? = w.heap[k]?) : BReads w' g a bs := by
  rcases h with h | ⟨b, off, rfl, hlt, hc⟩
  · exact .inl h
  · exact .inr ⟨b, off, rfl, hlt, fun i hi => ⟨(World.cell?_of_block (a := ⟨b, off + i, none⟩) (hb b hlt)).trans (hc i hi).1, (hc i hi).2⟩⟩

theorem Cur.lt {w : World} {t : TypeId} {g : Nat} (h : Cur w t g) : g < w.heap.size := by
  obtain ⟨a, c, i, x, bs, hg, _⟩ := h
  exact (Array.getElem?_eq_some_iff.1 hg).1

theorem Cur.below {w w' : World} {t : TypeId} {g : Nat} (h : Cur w t g) (hb : Below w.heap.size w w') : Cur w' t g := by
  have hlt := h.lt
  obtain ⟨a, c, i, x, bs, hg, hi, hn, hr⟩ := h
  exact ⟨a, c, i, x, bs, (hb.block g hlt).trans hg, hi, hn, hr.blocks fun k hk => hb.block k (by omega)⟩

theorem Cur.grown {w w' : World} {t : TypeId} {g : Nat} {row : Option Nat} (h : Cur w t g) (hg : w.grownBy w' row) (hr : ∀ k, row = some k → g < k) : Cur w' t g := by
  have hlt := h.lt
  obtain ⟨a, c, i, x, bs, hb, hi, hn, hs⟩ := h
  have hk : ∀ k, k ≤ g → w'.heap[k]? = w.heap[k]? := fun k hk => hg.block k (by omega) (fun e => by have := hr k e.symm; omega)
  exact ⟨a, c, i, x, bs, (hk g (Nat.le_refl _)).trans hb, hi, hn, hs.blocks fun k h => hk k (by omega)⟩

/-- What the call has made lies behind the cursor: the cursor's own steps leave it. -/
theorem OwnInts.step {w w' : World} {base g : Nat} {e : TypeId} {v : Value} {xs : List Int} (h : OwnInts w base e v xs) (hg : w.grownBy w' (some g)) (hb : g < base) : OwnInts w' base e v xs := by
  refine h.kept hg ?_
  cases hv : v.ownBlock with
  | none => simp
  | some k =>
    have := (h.block k hv).1
    exact .inr (by intro e; cases e; omega)

theorem Cur.drewN {w : World} {t : TypeId} {g : Nat} (h : Cur w t g) (n : Nat) : Cur (w.drewN n) t g := h
theorem grownBy_drewN {w w' : World} {row : Option Nat} (h : w.grownBy w' row) (n : Nat) : w.grownBy (w'.drewN n) row := ⟨h.os, h.tape, h.output, h.size, h.block⟩

theorem grownBy_like {w w' w'' : World} {row : Option Nat} (h : w.grownBy w' row) (e1 : w''.os = w'.os) (e2 : w''.tape = w'.tape) (e3 : w''.output = w'.output) (e4 : w''.heap = w'.heap) : w.grownBy w'' row :=
  ⟨e1.trans h.os, e2.trans h.tape, e3.trans h.output, by rw [e4]; exact h.size, fun k hk hne => by rw [e4]; exact h.block k hk hne⟩

theorem cur_two {w : World} {t : TypeId} {g : Nat} {a : Option Addr} {c i : Nat} {h : Int} {bs : List Int}
    (hg : w.heap[g]? = some (.cells #[.slice a (List.length bs) c, .int .i64 (i : Nat), .int .i64 h] t (0, 0))) (hi : i ≤ bs.length) (hn : bs.length ≤ 1048576) (hr : BReads w g a bs) (H : Int) :
    Cur (w.setCell ⟨g, 2, none⟩ (.int .i64 H)) t g ∧ w.grownBy (w.setCell ⟨g, 2, none⟩ (.int .i64 H)) (some g) ∧
    (i < bs.length → Cur ((w.setCell ⟨g, 2, none⟩ (.int .i64 H)).setCell ⟨g, 1, none⟩ (.int .i64 ((i : Int) + 1))) t g ∧ w.grownBy ((w.setCell ⟨g, 2, none⟩ (.int .i64 H)).setCell ⟨g, 1, none⟩ (.int .i64 ((i : Int) + 1))) (some g)) := by
  have h2 := heap_setCell_same w g 2 _ t (.int .i64 H) hg
  have h1 := heap_setCell_same (w.setCell ⟨g, 2, none⟩ (.int .i64 H)) g 1 _ t (.int .i64 ((i : Int) + 1)) h2
  have b2 : ∀ k, k ≠ g → (w.setCell ⟨g, 2, none⟩ (.int .i64 H)).heap[k]? = w.heap[k]? := fun k hk => Below.heap_setCell w ⟨g, 2, none⟩ _ k hk
  have b1 : ∀ k, k ≠ g → ((w.setCell ⟨g, 2, none⟩ (.int .i64 H)).setCell ⟨g, 1, none⟩ (.int .i64 ((i : Int) + 1))).heap[k]? = w.heap[k]? := fun k hk => (Below.heap_setCell _ ⟨g, 1, none⟩ _ k hk).trans (b2 k hk)
  refine ⟨⟨a, c, i, H, bs, by simpa using h2, hi, hn, hr.blocks fun k hk => b2 k (by omega)⟩, ⟨rfl, rfl, rfl, by simp, fun k _ hk => b2 k (fun e => hk (by rw [e]))⟩, fun hlt => ⟨⟨a, c, i + 1, H, bs, by simpa using h1, by omega, hn, hr.blocks fun k hk => b1 k (by omega)⟩, ⟨rfl, rfl, rfl, by simp, fun k _ hk => b1 k (fun e => hk (by rw [e]))⟩⟩⟩

theorem BReads.at {w : World} {g : Nat} {a : Option Addr} {bs : List Int} (h : BReads w g a bs) {i : Nat} (hi : i < bs.length) :
    ∃ b off x, a = some ⟨b, off, none⟩ ∧ b < g ∧ w.cell? ⟨b, off + i, none⟩ = some (.int .u8 x) ∧ 0 ≤ x ∧ x ≤ 255 := by
  rcases h with h | ⟨b, off, rfl, hlt, hc⟩
  · subst h; simp at hi
  · exact ⟨b, off, _, rfl, hlt, (hc i hi).1, (hc i hi).2⟩

theorem l1Byte_any (g : Nat) (w : World) (h : Cur w 43 g) :
    Calls Try.prog 34 #[.pointer (some ⟨g, 0, none⟩)] w fun e w' => ∃ x : Int, e = .returned (.int .i64 x) ∧ 0 ≤ x ∧ x ≤ 255 ∧ Cur w' 43 g ∧ w.grownBy w' (some g) := by
  obtain ⟨a, c, i, hh, bs, hg, hi, hn, hr⟩ := h
  have c0 : w.cell? ⟨g, 0, none⟩ = some (.slice a bs.length c) := by simp [World.cell?, hg]
  have c1 : w.cell? ⟨g, 1, none⟩ = some (.int .i64 i) := by simp [World.cell?, hg]
  have c2 : w.cell? ⟨g, 2, none⟩ = some (.int .i64 hh) := by simp [World.cell?, hg]
  have f1 : w.frozen? ⟨g, 1, none⟩ = false := by simp [World.frozen?, hg]
  have f2 : w.frozen? ⟨g, 2, none⟩ = false := by simp [World.frozen?, hg]
  by_cases hlt : i < bs.length
  · obtain ⟨b, off, x, rfl, hbg, hcb, hx0, hx1⟩ := hr.at hlt
    go_enter Try.func34, Try.ntmps34
    go_wp2
    go_quiet (fail)
    go_wp2
    go_quiet (fail)
    go_wp2
    go_quiet (fail)
    go_wp2
    go_ret
    exact ⟨_, rfl, (and_bound _ 255 (by decide)).1, (and_bound _ 255 (by decide)).2, ((cur_two hg hi hn hr (wrap64 (wrap64 (hh * 6364136223846793005) + 1442695040888963407))).2.2 hlt).1, grownBy_like ((cur_two hg hi hn hr (wrap64 (wrap64 (hh * 6364136223846793005) + 1442695040888963407))).2.2 hlt).2 rfl rfl rfl rfl⟩
  · go_enter Try.func34, Try.ntmps34
    go_wp2
    go_quiet (fail)
    go_wp2
    go_quiet (fail)
    go_wp2
    go_ret
    exact ⟨_, rfl, (and_bound _ 255 (by decide)).1, (and_bound _ 255 (by decide)).2, (cur_two hg hi hn hr (wrap64 (wrap64 (hh * 6364136223846793005) + 1442695040888963407))).1, grownBy_like (cur_two hg hi hn hr (wrap64 (wrap64 (hh * 6364136223846793005) + 1442695040888963407))).2.1 rfl rfl rfl rfl⟩

theorem l1Below_any (g : Nat) (n : Int) (w : World) (h : Cur w 43 g) (hn : 1 ≤ n) (hn2 : n ≤ 256) :
    Calls Try.prog 27 #[.pointer (some ⟨g, 0, none⟩), .int .i64 n] w fun e w' => ∃ x : Int, e = .returned (.int .i64 x) ∧ 0 ≤ x ∧ x < n ∧ Cur w' 43 g ∧ w.grownBy w' (some g) := by
  go_enter Try.func27, Try.ntmps27
  go_wp2_with fail
  refine (l1Byte_any _ _ h).mono ?_
  rintro e w1 ⟨x, rfl, hx0, hx1, hc, hg⟩
  go_wp2
  go_ret
  exact ⟨_, rfl, Int.emod_nonneg _ (by omega), Int.emod_lt_of_pos _ (by omega), hc, hg⟩

theorem l1Once_any (g : Nat) (n : Int) (w : World) (h : Cur w 43 g) (hn : 1 ≤ n) (hn2 : n ≤ 256) :
    Calls Try.prog 26 #[.pointer (some ⟨g, 0, none⟩), .int .i64 n] w fun e w' => ∃ b : Bool, e = .returned (.bool b) ∧ Cur w' 43 g ∧ w.grownBy w' (some g) := by
  go_enter Try.func26, Try.ntmps26
  go_wp2_with fail
  refine (l1Below_any _ _ _ h hn hn2).mono ?_
  rintro e w1 ⟨x, rfl, hx0, hx1, hc, hg⟩
  go_wp2
  go_ret
  exact ⟨_, rfl, hc, hg⟩

theorem l1PickInt_any (g : Nat) (a : Option Addr) (c : Nat) (zs : List Int) (w : World) (h : Cur w 43 g) (hr : ∀ w', w.grownBy w' (some g) → Reads w' a zs) (hn : 1 ≤ zs.length) (hn2 : zs.length ≤ 256) :
    Calls Try.prog 32 #[.pointer (some ⟨g, 0, none⟩), .slice a zs.length c] w fun e w' => ∃ x : Int, e = .returned (.int .i64 x) ∧ x ∈ zs ∧ Cur w' 43 g ∧ w.grownBy w' (some g) := by
  go_enter Try.func32, Try.ntmps32
  go_wp2_with fail
  refine (l1Below_any _ _ _ h (by omega) (by omega)).mono ?_
  rintro e w1 ⟨x, rfl, hx0, hx1, hc, hg⟩
  obtain ⟨k, rfl⟩ := Int.eq_ofNat_of_zero_le hx0
  have hlt : k < zs.length := by omega
  obtain ⟨b, o, rfl, hb, hcell⟩ := (hr w1 hg).at hlt
  have hcx := hcell k hlt
  clear hr hcell
  go_wp2
  go_ret
  exact ⟨_, rfl, List.getElem_mem hlt, hc, hg⟩

set_option maxRecDepth 100000 in
theorem l1New_any (a : Option Addr) (c : Nat) (bs : List Int) (w : World) (hr : BReads w w.heap.size a bs) (hn : bs.length ≤ 1048576) :
    Calls Try.prog 22 #[.slice a bs.length c] w fun e w' => ∃ g, e = .returned (.pointer (some ⟨g, 0, none⟩)) ∧ w.heap.size ≤ g ∧ Cur w' 43 g ∧ Below w.heap.size w w' := by
  go_enter Try.func22, Try.ntmps22
  go_wp2
  go_loop [3, 4] (fun x i => ∃ (k : Nat) (H : Int), k ≤ bs.length ∧ i = .int .i64 k ∧ x = .int .i64 H) (fun _ i => bs.length - (intOf i).toNat)
  case atStart => exact ⟨0, _, Nat.zero_le _, rfl, rfl⟩
  case round =>
    obtain ⟨k, H, hk, rfl, rfl⟩ := hrel
    have fin : ∀ H : Int, Cur (w.alloc (.cells #[.slice a bs.length c, .int .i64 0, .int .i64 H] 43)) 43 w.heap.size ∧ Below w.heap.size w (w.alloc (.cells #[.slice a bs.length c, .int .i64 0, .int .i64 H] 43)) := fun H =>
      ⟨⟨a, c, 0, H, bs, Go.Deep.blk_alloc_new _ _, Nat.zero_le _, hn, hr.blocks fun k hk => Go.Deep.blk_alloc_lt _ _ _ hk⟩, (Below.refl _ _).alloc (Nat.le_refl _) _⟩
    have FIN := fin H
    clear fin
    by_cases hlt : k < bs.length
    · obtain ⟨b, off, x, rfl, hbg, hcb, hx0, hx1⟩ := hr.at hlt
      by_cases h4 : k < 4000
      · clear FIN
        go_wp2
        go_round
        case rel => exact ⟨k + 1, _, by omega, by go_num, rfl⟩
        case measure => simp [intOf]; omega
      · go_wp2
        go_ret
        exact ⟨_, rfl, Nat.le_refl _, FIN.1, FIN.2⟩
    · go_wp2
      go_ret
      exact ⟨_, rfl, Nat.le_refl _, FIN.1, FIN.2⟩
end Go.Proofs.Ythnppodnjokaoaa
