/-
  Contracts of the specification's draws of texts (l1Pick, l2Grams, l2Draw, DrawWords) over this translation. No statement is proved here.
-/
import Derived.Test.YtkbnafmkgiknbaaCur
import Derived.Test.YtkbnafmkgiknbaaOwnS
import Derived.Deep.RegionWith
namespace Go.Proofs.Ytkbnafmkgiknbaa
open Go.RowKit

def strOf : Value → ByteArray
  | .string s => s
  | _ => ByteArray.empty
/-- All values are texts of at most m bytes. -/
def okStrs (m : Nat) (l : List Value) : Bool := l.all fun v => match v with | .string s => decide (s.size ≤ m) | _ => false
theorem okStrs_eq {m : Nat} {l : List Value} (h : okStrs m l = true) : l = (l.map strOf).map Value.string ∧ ∀ x ∈ l.map strOf, x.size ≤ m := by
  induction l with
  | nil => exact ⟨rfl, by simp⟩
  | cons v l ih =>
    simp only [okStrs, List.all_cons, Bool.and_eq_true] at h
    obtain ⟨h1, h2⟩ := h
    obtain ⟨i1, i2⟩ := ih h2
    cases v with
    | string s =>
      have hs : s.size ≤ m := by simpa using h1
      refine ⟨?_, ?_⟩
      · rw [List.map_cons, List.map_cons, ← i1]; rfl
      · intro x hx
        rcases List.mem_cons.1 hx with rfl | hx
        · exact hs
        · exact i2 x hx
    | _ => simp at h1

/-- A literal list of texts, just made. -/
theorem readsS_lit (w : World) (e : TypeId) (cs : Array Value) (m : Nat) (h : okStrs m cs.toList = true) :
    ReadsS (w.alloc (.cells cs e)) (some ⟨w.heap.size, 0, none⟩) (cs.toList.map strOf) ∧ (cs.toList.map strOf).length = cs.size ∧ ∀ x ∈ cs.toList.map strOf, x.size ≤ m := by
  obtain ⟨h1, h2⟩ := okStrs_eq h
  refine ⟨.inr ⟨w.heap.size, 0, rfl, by simp, fun i hi => ?_⟩, by simp, h2⟩
  have hi2 : i < cs.toList.length := by simpa using hi
  rw [cell_of_row _ _ (0 + i) cs e (0, 0) (heap_alloc_new w _), Nat.zero_add, ← Array.getElem?_toList]
  conv => lhs; rw [h1]
  rw [List.getElem?_map, List.getElem?_eq_getElem hi, List.getD_eq_getElem?_getD, List.getElem?_eq_getElem hi]
  rfl

theorem strs_end (w : World) (e : TypeId) (cs : Array Value) (m n : Nat) (h : okStrs m cs.toList = true) (hn : cs.size = n) :
    ∃ zs : List ByteArray, ReadsS (w.alloc (.cells cs e)) (some ⟨w.heap.size, 0, none⟩) zs ∧ zs.length = n ∧ (∀ x ∈ zs, x.size ≤ m) ∧ Below w.heap.size w (w.alloc (.cells cs e)) := by
  obtain ⟨h1, h2, h3⟩ := readsS_lit w e cs m h
  exact ⟨_, h1, h2.trans hn, h3, (Below.refl _ _).alloc (Nat.le_refl _) _⟩

theorem ReadsS.grown {w w' : World} {a : Option Addr} {zs : List ByteArray} {g : Nat} (h : ReadsS w a zs) (hg : w.grownBy w' (some g)) (hne : ∀ b off, a = some ⟨b, off, none⟩ → b ≠ g) : ReadsS w' a zs := by
  rcases h with h | ⟨b, off, rfl, hlt, hc⟩
  · exact .inl h
  · refine .inr ⟨b, off, rfl, Nat.lt_of_lt_of_le hlt hg.size, fun i hi => ?_⟩
    rw [World.cell?_of_block (a := ⟨b, off + i, none⟩) (hg.block b hlt (by intro e; exact hne b off rfl (Option.some.inj e)))]
    exact hc i hi

theorem l1Pick_any (g : Nat) (a : Option Addr) (n c : Nat) (zs : List ByteArray) (m : Nat) (w : World) (h : Cur w 87 g) (hr : ReadsS w a zs) (hne : ∀ b off, a = some ⟨b, off, none⟩ → b ≠ g) (hl : zs.length = n) (hn : 1 ≤ n) (hn2 : n ≤ 256) (hm : ∀ x ∈ zs, x.size ≤ m) :
    Calls Try.prog 41 #[.pointer (some ⟨g, 0, none⟩), .slice a n c] w fun e w' => ∃ x : ByteArray, e = .returned (.string x) ∧ x.size ≤ m ∧ Cur w' 87 g ∧ w.grownBy w' (some g) := by
  subst hl
  go_enter Try.func41, Try.ntmps41
  go_wp2_with fail
  refine (l1Below_any _ _ _ h (by omega) (by omega)).mono ?_
  rintro e w1 ⟨x, rfl, hx0, hx1, hc, hg⟩
  obtain ⟨k, rfl⟩ := Int.eq_ofNat_of_zero_le hx0
  have hlt : k < zs.length := by omega
  obtain ⟨b, o, rfl, hb, hcell⟩ := (hr.grown hg hne).at hlt
  have hcx := hcell k hlt
  have HM : Hid ((zs.getD k ByteArray.empty).size ≤ m) := by
    rw [List.getD_eq_getElem?_getD, List.getElem?_eq_getElem hlt]; exact hm _ (List.getElem_mem hlt)
  generalize zs.getD k ByteArray.empty = tx at hcx HM
  clear hr hcell hm
  go_wp2
  go_ret
  exact ⟨_, rfl, HM.out, hc, hg⟩

theorem l1Pick_lit (g : Nat) (cs : Array Value) (n m : Nat) (w : World) (h : Cur w 87 g) (ho : okStrs m cs.toList = true) (hn : cs.size = n) (hn1 : 1 ≤ n) (hn2 : n ≤ 256) :
    Calls Try.prog 41 #[.pointer (some ⟨g, 0, none⟩), .slice (some ⟨w.heap.size, 0, none⟩) n n] (w.alloc (.cells cs 9)) fun e w' => ∃ x : ByteArray, e = .returned (.string x) ∧ x.size ≤ m ∧ Cur w' 87 g ∧ w.grownBy w' (some g) := by
  obtain ⟨zs, h1, h2, h3, h4⟩ := strs_end w 9 cs m n ho hn
  have hl := h.lt
  refine (l1Pick_any g _ n n zs m _ (h.below h4) h1 (by intro b off e; cases e; omega) h2 hn1 hn2 h3).mono ?_
  rintro e w' ⟨x, hx, hs, hc, hg⟩
  exact ⟨x, hx, hs, hc, grownBy_trans (grownBy_of_below h4 (some g)) hg⟩

theorem l1Pick_lit_drew (g : Nat) (cs : Array Value) (n m : Nat) (w : World) (h : Cur w 87 g) (ho : okStrs m cs.toList = true) (hn : cs.size = n) (hn1 : 1 ≤ n) (hn2 : n ≤ 256) :
    Calls Try.prog 41 #[.pointer (some ⟨g, 0, none⟩), .slice (some ⟨w.heap.size, 0, none⟩) n n] (w.alloc (.cells cs 9)).drew fun e w' => ∃ x : ByteArray, e = .returned (.string x) ∧ x.size ≤ m ∧ Cur w' 87 g ∧ w.grownBy w' (some g) := by
  refine (l1Pick_lit g cs n m w.drew h ho hn hn1 hn2).mono ?_
  rintro e w' ⟨x, hx, hs, hc, hg⟩
  exact ⟨x, hx, hs, hc, ⟨hg.os, hg.tape, hg.output, hg.size, hg.block⟩⟩

set_option maxRecDepth 100000 in
theorem l2Grams_any (w : World) : Calls Try.prog 55 #[] w fun e w' => ∃ (zs : List ByteArray), e = .returned (.slice (some ⟨w.heap.size, 0, none⟩) 12 12) ∧ ReadsS w' (some ⟨w.heap.size, 0, none⟩) zs ∧ zs.length = 12 ∧ (∀ x ∈ zs, x.size ≤ 64) ∧ Below w.heap.size w w' := by
  go_enter Try.func55, Try.ntmps55
  go_wp2
  go_ret
  refine (strs_end w 9 _ 64 12 ?_ ?_).imp fun zs hz => ⟨rfl, hz⟩
  · rfl
  · rfl

set_option maxRecDepth 100000 in
theorem l2Draw_any (g : Nat) (w : World) (h : Cur w 87 g) :
    Calls Try.prog 34 #[.pointer (some ⟨g, 0, none⟩)] w fun e w' => ∃ x : ByteArray, e = .returned (.string x) ∧ x.size ≤ 200 ∧ Cur w' 87 g ∧ w.grownBy w' (some g) := by
  have hgl := h.lt
  go_enter Try.func34, Try.ntmps34
  go_wp2_with fail
  refine (l2Grams_any _).mono ?_
  rintro e w1 ⟨zs, rfl, hr, hzl, hzm, hb1⟩
  go_wp2_with fail
  refine (l1Pick_any g _ 12 12 zs 64 _ (h.below hb1) hr (by intro b off e; cases e; omega) hzl (by decide) (by decide) hzm).mono ?_
  rintro e w2 ⟨s, rfl, hs, hc2, hg2⟩
  have G2 := grownBy_trans (grownBy_of_below hb1 (some g)) hg2
  clear hr hzl hzm hb1 hg2 h
  go_wp2_with fail
  refine (l1Once_any g 2 _ hc2 (by decide) (by decide)).mono ?_
  rintro e w3 ⟨bb, rfl, hc3, hg3⟩
  have G3 := grownBy_trans G2 hg3
  clear G2 hg3 hc2
  cases bb with
  | true =>
    go_wp2
    go_ret
    exact ⟨s, rfl, by omega, hc3, G3⟩
  | false =>
    go_wp2_with fail
    refine (l1Below_any g _ _ hc3 (by omega) (by omega)).mono ?_
    rintro e w4 ⟨x, rfl, hx0, hx1, hc4, hg4⟩
    have G4 := grownBy_trans G3 hg4
    clear G3 hg4 hc3
    obtain ⟨k, rfl⟩ := Int.eq_ofNat_of_zero_le hx0
    have hk : k ≤ s.size := by omega
    go_wp2_with fail
    refine (l1Below_any g 5 _ hc4 (by decide) (by decide)).mono ?_
    rintro e w5 ⟨y, rfl, hy0, hy1, hc5, hg5⟩
    have G5 := grownBy_trans G4 hg5
    clear G4 hg5 hc4
    have hy : y = 0 ∨ y = 1 ∨ y = 2 ∨ y = 3 ∨ y = 4 := by omega
    rcases hy with rfl | rfl | rfl | rfl | rfl
    · go_wp2_with fail
      go_region_with (go_at_call 41; refine (l1Pick_lit_drew g _ 13 8 _ hc5 rfl rfl (by decide) (by decide)).mono ?_; rintro e w6 ⟨tx, rfl, htx, hc6, hg6⟩)
      all_goals
        go_wp2
        go_ret
        exact ⟨_, rfl, by simp; omega, hc6, grownBy_trans G5 hg6⟩
    · go_wp2
      go_ret
      exact ⟨_, rfl, by simp; omega, hc5, G5⟩
    · by_cases hlt : k < s.size
      · go_wp2
        go_quiet (fail)
        go_wp2
        go_ret
        exact ⟨_, rfl, by simp; omega, hc5.drewN _, grownBy_drewN G5 _⟩
      · go_wp2
        go_ret
        exact ⟨_, rfl, by omega, hc5, G5⟩
    · go_wp2_with fail
      refine (l1Pick_lit g _ 17 64 _ hc5 rfl rfl (by decide) (by decide)).mono ?_
      rintro e w6 ⟨tx, rfl, htx, hc6, hg6⟩
      go_wp2
      go_ret
      exact ⟨_, rfl, by omega, hc6, grownBy_trans G5 hg6⟩
    · go_wp2
      go_ret
      exact ⟨_, rfl, by omega, hc5, G5⟩

theorem Try.infoByteD : (Try.prog.info? 5).map (fun i => (i.zero, i.size, i.bytes)) = some (some (.int .u8 0), 1, 1) := by kernel_rfl

theorem zerosN (n : Nat) (hn : n ≤ 1000) (w : World) : ∃ (W : World) (Z : ByteArray), (Instr.makeSlice 22 (.int .i64 (n : Int)) (.int .i64 (n : Int))).run Try.prog w = .ok (.slice (some ⟨w.heap.size, 0, none⟩) n n) W ∧
    (convert 22 9 (.slice (some ⟨w.heap.size, 0, none⟩) n n)).run Try.prog W = .ok (.string Z) W ∧ Z.size = n ∧ Below w.heap.size w W := by
  refine ⟨w.alloc (.cells (madeCells #[.int .u8 0] n) 5), ⟨(List.replicate n 0).toArray⟩, ?_, ?_, ?_, (Below.refl _ _).alloc (Nat.le_refl _) _⟩
  · exact run_make_row' (P := Try.prog) 22 5 (.int .u8 0) 1 Try.underlying22 Try.infoByteD rfl .i64 .i64 n (by omega) (by omega) w
  · have hrow := World.rowIs_made w (.int .u8 0) n 5
    have := run_convert_bytes_back (P := Try.prog) (w.alloc (.cells (madeCells #[.int .u8 0] n) 5)) 22 9 5 ⟨w.heap.size, 0, none⟩ n (List.replicate n 0) Try.underlying22 Try.underlying5 Try.underlying9 (by
      intro j hj
      have hj2 : j < n := by simpa using hj
      rw [Addr.add_lit, Nat.zero_add, hrow.cell hj2]
      simp)
    rw [List.length_replicate] at this
    exact this
  · rw [ByteArray.size]; simp

theorem zeros300 (w : World) : ∃ (W : World) (Z : ByteArray), (Instr.makeSlice 22 (.int .i64 300) (.int .i64 300)).run Try.prog w = .ok (.slice (some ⟨w.heap.size, 0, none⟩) 300 300) W ∧
    (convert 22 9 (.slice (some ⟨w.heap.size, 0, none⟩) 300 300)).run Try.prog W = .ok (.string Z) W ∧ Z.size = 300 ∧ Below w.heap.size w W := zerosN 300 (by decide) w

set_option maxRecDepth 100000 in
theorem drawWords_any (a : Option Addr) (c : Nat) (bs : List Int) (w : World) (hr : BReads w w.heap.size a bs) (hn : bs.length ≤ 1048576) :
    Calls Try.prog 16 #[.slice a bs.length c] w fun e w' => ∃ x : ByteArray, e = .returned (.string x) ∧ x.size ≤ 1000 ∧ Below w.heap.size w w' := by
  go_enter Try.func16, Try.ntmps16
  go_wp2_with fail
  refine (l1New_any a c bs _ hr hn).mono ?_
  rintro e w1 ⟨g, rfl, hg, hc1, hb1⟩
  go_wp2_with fail
  refine (l2Draw_any g _ hc1).mono ?_
  rintro e w2 ⟨s, rfl, hs, hc2, hg2⟩
  have B2 : Below w.heap.size w w2 := hb1.grown hg2 hb1.size (fun k hk => by cases hk; exact hg)
  go_wp2_with fail
  refine (l1Once_any g 20 _ hc2 (by decide) (by decide)).mono ?_
  rintro e w3 ⟨bb, rfl, hc3, hg3⟩
  have B3 : Below w.heap.size w w3 := B2.grown hg3 B2.size (fun k hk => by cases hk; exact hg)
  clear hb1 hg2 hg3 hc1 hc2 hc3 B2 hr
  cases bb with
  | true =>
    obtain ⟨W, Z, hmk, hcv, hZ, hB⟩ := zeros300 w3
    have B4 := B3.trans (hB.mono B3.size)
    clear B3 hB
    go_wp2
    go_ret
    exact ⟨_, rfl, by simp; omega, B4⟩
  | false =>
    go_wp2
    go_ret
    exact ⟨_, rfl, by omega, B3⟩
end Go.Proofs.Ytkbnafmkgiknbaa
