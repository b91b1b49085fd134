/-
  Contracts of impl.letterText, impl.symbolText and impl.RowText over this translation. No statement is proved here.
-/
import Derived.Test.YtghpekijimoicaaDoorSpecRowText
import Derived.Test.YtghpekijimoicaaDoorGramOk
import Derived.Test.YtghpekijimoicaaDoorBuilder
namespace Go.Proofs.YtghpekijimoicaaDoor
open Go.RowKit

/-- The library's table that Digits reads. -/
abbrev PowIs (w : World) : Prop := Lib.TabIs Tryd.prog w "internal/strconv.uint64pow10" .u64 Lib.pow10Tab
theorem PowIs.later {w w' : World} (h : PowIs w) (hb : Below w.heap.size w w') : PowIs w' := Go.Joins.tab_stays gPow h hb (Nat.le_refl _)
theorem isB_ltR {B b : Nat} {bs : List Value} {w : World} (h : IsB B b bs w) : b < w.heap.size := by
  rcases h with h | h <;> exact h.lt
/-- A builder below memory that nobody has touched. -/
theorem IsB.keptR {B b : Nat} {bs : List Value} {w w' : World} (h : IsB B b bs w) (hb : Below w.heap.size w w') : IsB B b bs w' := by
  have key : ∀ p, Lib.BuilderAtF 68 5 B b p bs w → Lib.BuilderAtF 68 5 B b p bs w' := by
    rintro p ⟨hB, v, hbk, hown, hne⟩
    exact ⟨hB, v, (hb.block b (Array.getElem?_eq_some_iff.1 hbk).1).trans hbk, hown.kept (grownBy_of_below hb none) (by cases v.ownBlock <;> simp), hne⟩
  rcases h with h | h
  · exact .inl (key _ h)
  · exact .inr (key _ h)
theorem sizeL (l : List UInt8) : (⟨l.toArray⟩ : ByteArray).size = l.length := by simp [ByteArray.size]
theorem strCells_list (l : List UInt8) : Lib.strCells ⟨l.toArray⟩ = Lib.byteCells l := by simp [Lib.strCells, Lib.byteCells]

/-- A letter, or ?. -/
def letText (x : Int) : List UInt8 := if inB x 0 25 then [UInt8.ofNat (97 + x.toNat)] else [63]
theorem letText_sym {x : Int} (h : x < 100) : symText x = letText x := by
  unfold symText letText
  split
  · rfl
  · rw [if_neg (by omega)]

set_option maxRecDepth 100000 in
theorem letterText_any (x : Int) (w : World) (h0 : -9223372036854775808 ≤ x) (h1 : x ≤ 9223372036854775807) :
    Calls Tryd.prog 73 #[.int .i64 x] w fun e w' => e = .returned (.string ⟨(letText x).toArray⟩) ∧ Below w.heap.size w w' := by
  by_cases hl : inB x 0 25 = true
  · have hx := inB_true.1 hl
    have hcv := conv_one (P := Tryd.prog) 66 9 5 Tryd.underlying66 Tryd.underlying5 Tryd.underlying9 w (UInt8.ofNat (97 + x.toNat)) (97 + x) (letter_byte hl)
    rw [letText, if_pos hl]
    generalize UInt8.ofNat (97 + x.toNat) = b at *
    go_enter Tryd.func73, Tryd.ntmps73
    go_wp2_with (go_at_call 80; refine (isLetter_any _ _).mono ?_; rintro e w' ⟨rfl, rfl⟩)
    go_ret
    exact ⟨rfl, (Below.refl _ _).alloc (Nat.le_refl _) _⟩
  · have hl2 : inB x 0 25 = false := by simpa using hl
    rw [letText, if_neg hl]
    clear hl
    go_enter Tryd.func73, Tryd.ntmps73
    go_wp2_with (go_at_call 80; refine (isLetter_any _ _).mono ?_; rintro e w' ⟨rfl, rfl⟩)
    go_ret
    exact ⟨rfl, Below.refl _ _⟩

set_option maxRecDepth 100000 in
theorem symbolText_any (x : Int) (w : World) (h0 : -9223372036854775808 ≤ x) (h1 : x ≤ 9223372036854775807) (ht : PowIs w) :
    Calls Tryd.prog 47 #[.int .i64 x] w fun e w' => e = .returned (.string ⟨(symText x).toArray⟩) ∧ Below w.heap.size w w' := by
  by_cases hp : 100 ≤ x
  · rw [symText_part hp]
    have hi := itoa_le (n := x - 100) (by omega) (by omega)
    have X : Hid (Calls Tryd.prog 72 #[.int .i64 (x - 100)] w fun e w' => e = .returned (.string ⟨(Lib.itoa (x - 100)).toArray⟩) ∧ Below w.heap.size w w') := implDigits_any (x - 100) w (by omega) (by omega) ht
    clear ht
    generalize Lib.itoa (x - 100) = ds at *
    go_enter Tryd.func47, Tryd.ntmps47
    go_wp2_with (go_at_call 72; refine X.out.mono ?_; rintro e w1 ⟨rfl, hb1⟩)
    go_ret
    exact ⟨ret_strB (by simp), hb1⟩
  · have X : Hid (Calls Tryd.prog 73 #[.int .i64 x] w fun e w' => e = .returned (.string ⟨(symText x).toArray⟩) ∧ Below w.heap.size w w') := by rw [letText_sym (by omega)]; exact letterText_any x w h0 h1
    clear ht
    go_enter Tryd.func47, Tryd.ntmps47
    go_wp2_with (go_at_call 73; refine X.out.mono ?_; rintro e w1 ⟨rfl, hb1⟩)
    go_ret
    exact ⟨rfl, hb1⟩

/-- What RowText answers. -/
def resRowText (zs : List Int) : ByteArray := ⟨(rowText zs).toArray⟩

theorem specRowText_any (zs : List Int) (a : Option Addr) (c : Nat) (w : World) (h : RD w (.slice a zs.length c) (slD Lay.int zs)) (hl : zs.length ≤ 1048576) (hf : (Lay.list Lay.int).fit zs) :
    Calls Tryd.prog 21 #[.slice a zs.length c] w fun e w' => e = .returned (.string (resRowText zs)) ∧ Below w.heap.size w w' := specRow_p zs a c w h.reads hl (fit_ints hf)

set_option maxHeartbeats 1000000 in
set_option maxRecDepth 100000 in
theorem rowText_any (zs : List Int) (a : Option Addr) (c : Nat) (w : World) (h : RD w (.slice a zs.length c) (slD Lay.int zs)) (hl : zs.length ≤ 1048576) (hf : (Lay.list Lay.int).fit zs) (ht : PowIs w) :
    Calls Tryd.prog 22 #[.slice a zs.length c] w fun e w' => e = .returned (.string (resRowText zs)) ∧ Below w.heap.size w w' := by
  have HR : Hid (Reads w a zs) := h.reads
  have HT : Hid (PowIs w) := ht
  have HZ : Hid (∀ z ∈ zs, -9223372036854775808 ≤ z ∧ z ≤ 9223372036854775807) := fit_ints hf
  have HZ2 : Hid (∀ z ∈ zs, z ≤ 9223372036854775807) := fun z h => (fit_ints hf z h).2
  clear h ht hf
  go_enter Tryd.func22, Tryd.ntmps22
  go_wp2
  go_loopw [8] (fun i wr => ∃ k : Nat, k ≤ zs.length ∧ i = .int .i64 k ∧ Hid (IsB w.heap.size w.heap.size (Lib.byteCells (rowTo zs k)) wr) ∧ Below w.heap.size w wr) (fun i _ => zs.length - (intOf i).toNat)
  case atStart => exact ⟨0, Nat.zero_le _, rfl, .of (Lib.fresh_isBuilder _ _ w), (Below.refl _ _).alloc (Nat.le_refl _) _⟩
  case round =>
    obtain ⟨k, hk, rfl, HB, hbel⟩ := hrel
    have hsz := hbel.size
    by_cases hlt : k < zs.length
    · obtain ⟨b, off, rfl, hb, hc⟩ := (HR.out.below hbel).at hlt
      have q0 := hc k hlt
      rw [List.getD_eq_getElem?_getD, List.getElem?_eq_getElem hlt, Option.getD_some] at q0
      have hlen := rowTo_le HZ2.out k hk
      have hr := HZ.out zs[k] (List.getElem_mem hlt)
      have hsl := symText_le hr.2
      have X : Hid (∀ W : World, Below w.heap.size w W → Calls Tryd.prog 47 #[.int .i64 zs[k]] W fun e w' => e = .returned (.string ⟨(symText zs[k]).toArray⟩) ∧ Below W.heap.size W w') := fun W hW => symbolText_any zs[k] W hr.1 hr.2 (HT.out.later hW)
      clear hc HR
      by_cases h0 : k = 0
      · subst h0
        have HE : Hid (rowTo zs (0 + 1) = symText zs[0]) := rowTo_first hlt
        have HB0 : Hid (IsB w.heap.size w.heap.size (Lib.byteCells []) wr) := HB.out
        generalize symText zs[0] = ts at *
        generalize zs[0] = z at *
        rw [Nat.add_zero] at q0
        clear hlen HB
        go_wp2_with fail
        refine (X.out _ hbel).mono ?_
        rintro e w1 ⟨rfl, hb1⟩
        have B1 := hbel.trans (hb1.mono hsz)
        go_wp2_with fail
        refine (writeString_any w.heap.size w.heap.size _ ⟨ts.toArray⟩ _ (HB0.out.keptR hb1) (by rw [Lib.byteCells_length, sizeL]; simp; omega) B1.size).mono ?_
        rintro e w3 ⟨rfl, hU3, hb3, _⟩
        have HU : Hid (UsedB w.heap.size w.heap.size (Lib.byteCells ts) w3) := by
          have := hU3; rw [strCells_list] at this; exact this
        clear hU3
        go_wp2
        go_roundw
        case rel => exact ⟨0 + 1, by omega, by go_num, by rw [HE.out]; exact .inr HU.out, B1.trans hb3⟩
        case measure => simp [intOf]; omega
      · have HE : Hid (rowTo zs (k + 1) = (rowTo zs k ++ [32]) ++ symText zs[k]) := rowTo_next hlt h0
        have hk0 : 0 < (k : Int) := by omega
        generalize symText zs[k] = ts at *
        generalize zs[k] = z at *
        generalize rowTo zs k = pre at *
        go_wp2_with fail
        refine (writeString_any w.heap.size w.heap.size _ ⟨[32].toArray⟩ _ HB.out (by rw [Lib.byteCells_length, sizeL]; simp; omega) hsz).mono ?_
        rintro e w0 ⟨rfl, hU0, hb0, _⟩
        have B0 := hbel.trans hb0
        go_wp2_with fail
        refine (X.out _ B0).mono ?_
        rintro e w1 ⟨rfl, hb1⟩
        have B1 := B0.trans (hb1.mono B0.size)
        go_wp2_with fail
        refine (writeString_any w.heap.size w.heap.size _ ⟨ts.toArray⟩ _ (IsB.keptR (.inr hU0) hb1) (by rw [strCells_list, List.length_append, Lib.byteCells_length, Lib.byteCells_length, sizeL]; simp; omega) B1.size).mono ?_
        rintro e w3 ⟨rfl, hU3, hb3, _⟩
        have HU : Hid (UsedB w.heap.size w.heap.size (Lib.byteCells ((pre ++ [32]) ++ ts)) w3) := by
          have := hU3; rw [strCells_list, strCells_list] at this
          show UsedB _ _ _ _
          rw [Lib.byteCells_append, Lib.byteCells_append]; exact this
        clear hU3 hU0
        go_wp2
        go_roundw
        case rel => exact ⟨k + 1, by omega, by go_num, by rw [HE.out]; exact .inr HU.out, B1.trans hb3⟩
        case measure => simp [intOf]; omega
    · have e : k = zs.length := by omega
      subst e
      clear HR
      go_wp2_with fail
      refine (Tryd.Builder_String_any_k w.heap.size w.heap.size _ _ HB.out hsz).mono ?_
      rintro e w2 ⟨rfl, _, hb2, _⟩
      go_wp2
      go_ret
      exact ⟨rfl, hbel.trans hb2⟩
end Go.Proofs.YtghpekijimoicaaDoor
