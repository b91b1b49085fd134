/-
  Contract of the project's RulesText over this translation. No statement is proved here.
-/
import Derived.Test.YtkbnafmkgiknbacExprText
import Derived.Test.YtkbnafmkgiknbacSpecRulesText
namespace Go.Proofs.Ytkbnafmkgiknbac
open Go.RowKit

theorem isB_lt' {B b : Nat} {bs : List Value} {w : World} (h : IsB B b bs w) : b < w.heap.size := by
  rcases h with h | h <;> exact h.lt
theorem strCells_bytes' (s : ByteArray) : Lib.strCells s = Lib.byteCells s.data.toList := rfl

/-- A builder below memory that nobody has touched. -/
theorem IsB.kept {B b : Nat} {bs : List Value} {w w' : World} (h : IsB B b bs w) (hb : Below w.heap.size w w') : IsB B b bs w' := by
  have key : ∀ p, Lib.BuilderAtF 59 5 B b p bs w → Lib.BuilderAtF 59 5 B b p bs w' := by
    rintro p ⟨hB, v, hbk, hown, hne⟩
    exact ⟨hB, v, (hb.block b (Array.getElem?_eq_some_iff.1 hbk).1).trans hbk, hown.kept (grownBy_of_below hb none) (by cases v.ownBlock <;> simp), hne⟩
  rcases h with h | h
  · exact .inl (key _ h)
  · exact .inr (key _ h)

set_option maxHeartbeats 1000000 in
set_option maxRecDepth 100000 in
theorem rulesText_any (rs : List Rl) (a : Option Addr) (c : Nat) (w : World) (h : RD w (.slice a rs.length c) (ruD rs)) (hw : Rl.wtL rs ≤ 274877906944) :
    Calls Try.prog 25 #[.slice a rs.length c] w fun e w' => e = .returned (strOfB (Rl.strL rs)) ∧ Below w.heap.size w w' := by
  have hlen := Rl.length_le_wtL rs
  have H : Hid (RD w (.slice a rs.length c) (ruD rs)) := h
  clear h
  go_enter Try.func25, Try.ntmps25
  go_wp2
  go_loopw [8] (fun i wr => ∃ k : Nat, k ≤ rs.length ∧ i = .int .i64 k ∧ Hid (IsB w.heap.size w.heap.size (Lib.byteCells (Rl.strL (rs.take k))) wr ∧ Below w.heap.size w wr)) (fun i _ => rs.length - (intOf i).toNat)
  case atStart => exact ⟨0, Nat.zero_le _, rfl, .of (Lib.fresh_isBuilder _ _ w), (Below.refl _ _).alloc (Nat.le_refl _) _⟩
  case round =>
    obtain ⟨k, hk, rfl, HB⟩ := hrel
    have hsz := HB.out.2.size
    by_cases hlt : k < rs.length
    · obtain ⟨b1, o1, rfl, hb1, q0, q1, q2, a1, c1, q3, r1⟩ := (H.out.later HB.out.2).ru hlt
      have g1 := Rl.wtL_take hlt
      have g2 := Rl.wtL_take_le rs (k + 1)
      have g3 := Rl.strL_le (rs.take k)
      have g4 := Ex.str_le rs[k].ex
      have g5 : rs[k].wt = rs[k].name.size + rs[k].ex.wt := rfl
      have n1 : (Rl.strL (rs.take k)).length ≤ 8796093022208 := by omega
      have n2 : rs[k].name.size ≤ 1099511627776 := by omega
      have n3 : rs[k].ex.str.length ≤ 3298534883330 := by omega
      have X : Hid (∀ W, Below wr.heap.size wr W → Calls Try.prog 20 #[.agg #[.int .i64 rs[k].ex.kind, .string rs[k].ex.text, .slice a1 rs[k].ex.kids.length c1]] W fun e w' => e = .returned (.string ⟨rs[k].ex.str.toArray⟩) ∧ Below W.heap.size W w') :=
        fun W hW => exprText_any rs[k].ex a1 c1 W (r1.later hW) (by omega)
      have X2 : Hid (RD wr (.slice a1 rs[k].ex.kids.length c1) (exD rs[k].ex.kids)) := r1
      have EJ : Hid (Rl.strL (rs.take (k + 1)) = Rl.strL (rs.take k) ++ (rs[k].name.data.toList ++ ([32, 61, 32] ++ (rs[k].ex.str ++ [32, 59, 10])))) := Rl.strL_take hlt
      have hBl := isB_lt' HB.out.1
      have hxw : rs[k].ex.wt ≤ 274877906944 := by omega
      have X3 : Hid (∀ W, RD W (.slice a1 rs[k].ex.kids.length c1) (exD rs[k].ex.kids) → Calls Try.prog 20 #[.agg #[.int .i64 rs[k].ex.kind, .string rs[k].ex.text, .slice a1 rs[k].ex.kids.length c1]] W fun e w' => e = .returned (.string ⟨rs[k].ex.str.toArray⟩) ∧ Below W.heap.size W w') :=
        fun W hW => exprText_any rs[k].ex a1 c1 W hW hxw
      have X4 : Hid (∀ W, Below w.heap.size w W → W.cell? ⟨b1, o1 + k * 4 + 3, none⟩ = some (.slice a1 rs[k].ex.kids.length c1) → RD W (.slice a1 rs[k].ex.kids.length c1) (exD rs[k].ex.kids)) := by
        intro W hW hc
        obtain ⟨b1', o1', e1', hb1', _, _, _, a1', c1', q3', r1'⟩ := (H.out.later hW).ru hlt
        cases e1'
        rw [hc] at q3'
        cases q3'
        exact r1'
      have hb1w : b1 < w.heap.size := by
        obtain ⟨b1', o1', e1', hb1', _⟩ := H.out.ru hlt
        cases e1'
        exact hb1'
      clear r1 g1 g2 g3 g4 g5 X
      generalize Rl.strL (rs.take k) = pre at *
      generalize rs[k].ex.str = ys at *
      generalize rs[k].ex.kids = yk at *
      generalize rs[k].ex.kind = yd at *
      generalize rs[k].ex.text = yt at *
      generalize rs[k].name = nm at *
      go_wp2_with fail
      refine (writeString_any w.heap.size w.heap.size _ nm _ (HB.out.1.alloc _) (by rw [Lib.byteCells_length]; omega) (by simp; omega)).mono ?_
      rintro e w2 ⟨rfl, hU, hb2, hk2⟩
      have hblk := hk2 _ _ (heap_alloc_new wr _) (by simp; omega) (by intro c fz e; cases e)
      have B2 := (HB.out.2.alloc hsz _).trans hb2
      have HU2 : Hid (IsB w.heap.size w.heap.size (Lib.byteCells (pre ++ nm.data.toList)) w2) := by rw [Lib.byteCells_append]; exact .inr hU
      have hz2 := hb2.size
      simp only [World.size_alloc] at hz2
      have HBK : Hid (w2.heap[wr.heap.size]? = some (.cells #[.string nm, .int .i64 yd, .string yt, .slice a1 yk.length c1] 77 (0, 0))) := hblk
      have HB2 : Hid (Below w.heap.size w w2) := B2
      have hs2 := B2.size
      clear hU hb2 hk2 hblk B2
      go_wp2_with fail
      refine (writeString_any w.heap.size w.heap.size _ ⟨#[32, 61, 32]⟩ w2 HU2.out (by have z1 : (ByteArray.mk #[32, 61, 32]).size = 3 := rfl; rw [z1]; simp [Lib.byteCells_length]; omega) hs2).mono ?_
      rintro e w3 ⟨rfl, hU, hb3, hk3⟩
      have hblk := hk3 _ _ HBK.out (by simp; omega) (by intro c fz e; cases e)
      have B3 := HB2.out.trans hb3
      have HU3 : Hid (IsB w.heap.size w.heap.size (Lib.byteCells (pre ++ nm.data.toList ++ [32, 61, 32])) w3) := by rw [Lib.byteCells_append]; exact .inr hU
      have hz3 := hb3.size
      have d1 : w3.cell? ⟨wr.heap.size, 1, none⟩ = some (.int .i64 yd) := by rw [Lib.cell_of_heap hblk]; rfl
      have d2 : w3.cell? ⟨wr.heap.size, 2, none⟩ = some (.string yt) := by rw [Lib.cell_of_heap hblk]; rfl
      have d3 : w3.cell? ⟨wr.heap.size, 3, none⟩ = some (.slice a1 yk.length c1) := by rw [Lib.cell_of_heap hblk]; rfl
      have q3w : w.cell? ⟨b1, o1 + k * 4 + 3, none⟩ = some (.slice a1 yk.length c1) := (HB.out.2.cell (p := ⟨b1, o1 + k * 4 + 3, none⟩) hb1w).symm.trans q3
      have HRD : Hid (RD w3 (.slice a1 yk.length c1) (exD yk)) := X4.out w3 B3 ((B3.cell (p := ⟨b1, o1 + k * 4 + 3, none⟩) hb1w).trans q3w)
      have HB3 : Hid (Below w.heap.size w w3) := B3
      have hs3 := B3.size
      clear hU hb3 hk3 hblk B3 X4 q0 q1 q2 q3 q3w HU2 HBK HB2
      go_wp2_with fail
      refine (X3.out w3 HRD.out).mono ?_
      rintro e w4 ⟨rfl, hb4⟩
      have HU4 : Hid (IsB w.heap.size w.heap.size (Lib.byteCells (pre ++ nm.data.toList ++ [32, 61, 32])) w4) := HU3.out.kept hb4
      have HB4 : Hid (Below w.heap.size w w4) := HB3.out.trans (hb4.mono hs3)
      have hs4 := HB4.out.size
      clear hb4 HU3 HB3 HRD X3 d1 d2 d3
      go_wp2_with fail
      refine (writeString_any w.heap.size w.heap.size _ ⟨ys.toArray⟩ w4 HU4.out (by rw [show (ByteArray.mk ys.toArray).size = ys.length from (by simp [ByteArray.size])]; simp [Lib.byteCells_length]; omega) hs4).mono ?_
      rintro e w5 ⟨rfl, hU, hb5, _⟩
      have HU5 : Hid (IsB w.heap.size w.heap.size (Lib.byteCells (pre ++ nm.data.toList ++ [32, 61, 32] ++ ys)) w5) := by rw [Lib.byteCells_append]; exact .inr hU
      have HB5 : Hid (Below w.heap.size w w5) := HB4.out.trans hb5
      have hs5 := HB5.out.size
      clear hb5 HU4 HB4 hU
      go_wp2_with fail
      refine (writeString_any w.heap.size w.heap.size _ ⟨#[32, 59, 10]⟩ w5 HU5.out (by have z1 : (ByteArray.mk #[32, 59, 10]).size = 3 := rfl; rw [z1]; simp [Lib.byteCells_length]; omega) hs5).mono ?_
      rintro e w6 ⟨rfl, hU, hb6, _⟩
      have HU6 : Hid (IsB w.heap.size w.heap.size (Lib.byteCells (pre ++ (nm.data.toList ++ ([32, 61, 32] ++ (ys ++ [32, 59, 10]))))) w6) := by
        rw [show pre ++ (nm.data.toList ++ ([32, 61, 32] ++ (ys ++ [32, 59, 10]))) = (pre ++ nm.data.toList ++ [32, 61, 32] ++ ys) ++ [32, 59, 10] by simp, Lib.byteCells_append]; exact .inr hU
      have HB6 : Hid (Below w.heap.size w w6) := HB5.out.trans hb6
      clear hb6 HU5 HB5 hU
      go_wp2
      go_roundw
      case rel => exact ⟨k + 1, by omega, by go_num, by rw [EJ.out]; exact HU6.out, HB6.out⟩
      case measure => simp [intOf]; omega
    · have e : k = rs.length := by omega
      subst e
      have HE : Hid (IsB w.heap.size w.heap.size (Lib.byteCells (Rl.strL rs)) wr) := by have := HB.out.1; rw [List.take_length] at this; exact this
      go_wp2_with fail
      refine (Try.Builder_String_any_k w.heap.size w.heap.size _ _ HE.out hsz).mono ?_
      rintro e w2 ⟨rfl, _, hb2, _⟩
      go_wp2
      go_ret
      exact ⟨rfl, HB.out.2.trans hb2⟩
end Go.Proofs.Ytkbnafmkgiknbac
