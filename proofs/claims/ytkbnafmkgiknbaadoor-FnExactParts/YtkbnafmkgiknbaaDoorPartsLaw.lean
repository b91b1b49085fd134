/-
  The walk of the exact law of Parts over this translation, out of the contracts. No statement is proved here (the frame is in the text that imports this one).
-/
import Derived.Test.YtkbnafmkgiknbaaDoorParts
namespace Go.Proofs.YtkbnafmkgiknbaaDoor
open Go.RowKit

theorem markS_one (base : Nat) (v : Value) (xs : List ByteArray) (w : World) (h : OwnStrs w base 9 v xs) (hl : xs.length ≤ 8388608) :
    Calls Tryd.prog 13 #[v, .int .i64 1] w fun e w' => e = .returned (.int .i64 (1 + xs.length)) ∧ OwnStrs w' base 9 v (marksS 1 xs.length) ∧ w.grownBy w' v.ownBlock :=
  markStringS_any base v xs 1 w h (Nat.le_refl _) (by omega) hl
theorem heldS_one (base n : Nat) (v : Value) (w : World) (h : OwnStrs w base 9 v (marksS 1 n)) (hl : n ≤ 8388608) :
    Calls Tryd.prog 14 #[v, .int .i64 1] w fun e w' => e = .returned (.int .i64 (1 + n)) ∧ Below w.heap.size w w' :=
  heldStringS_own base n v 1 w h (Nat.le_refl _) (by omega) hl
theorem OwnStrs.apart' {w1 w2 : World} {b1 b2 : Nat} {e : TypeId} {v1 v2 : Value} {xs ys : List ByteArray} (h1 : OwnStrs w1 b1 e v1 xs) (h2 : OwnStrs w2 b2 e v2 ys) (hb : w1.heap.size ≤ b2) : v1.ownBlock = none ∨ v1.ownBlock ≠ v2.ownBlock := (h1.apart h2 hb).1

theorem parts_law (s : ByteArray) (b : UInt8) (w : World) (hm : s.size ≤ 9223372036854775807) (m : Int) (hx : w.cell? ⟨3, 0, none⟩ = some (.int .i64 m)) :
    Calls Tryd.prog 5 #[.string s, .int .u8 (b.toNat : Int)] w fun e w' => e = .returned (.bool true) ∧ Below w.heap.size w w' := by
  by_cases hbig : 1048576 < s.size
  · go_enter Tryd.func5, Tryd.ntmps5
    go_wp2
    go_ret
    exact ⟨rfl, Below.refl _ _⟩
  have hs : s.size ≤ 1048576 := by omega
  have HX : Hid (∀ w', Below w.heap.size w w' → w'.cell? ⟨3, 0, none⟩ = some (.int .i64 m)) := fun w' hb => (hb.cell (p := ⟨3, 0, none⟩) (block_lt_of_cell hx)).trans hx
  clear hx
  go_enter Tryd.func5, Tryd.ntmps5
  go_wp2_with fail
  refine (specParts_any s b _ hs).mono ?_
  rintro e w1 ⟨vB, xs, rfl, HB, oB1, hl1⟩
  go_wp2_with fail
  refine (implParts_any s b _ hs m (HX.out _ hl1)).mono ?_
  rintro e w2 ⟨vD, ys, rfl, HD, oD2, hl2⟩
  obtain rfl : ys = xs := texts_eq (HD.out.trans HB.out.symm)
  have hlen : ys.length ≤ s.size + 1 := by
    have h1 := splitL_length b s.data.toList
    rw [← HB.out] at h1
    have h2 : s.data.toList.length = s.size := by simp
    simpa [rawS, h2] using h1
  have k2 := hl1.trans (hl2.mono hl1.size)
  have oB2 := oB1.below hl2
  have hap := oB1.apart' oD2 (Nat.le_refl _)
  have HAP : Hid (vB.ownBlock = none ∨ vB.ownBlock ≠ vD.ownBlock) := hap
  clear hap oB1
  go_wp2_with fail
  refine (eqStringS_own _ _ _ _ _ _ _ oD2 oB2 (by omega)).mono ?_
  rintro e w3 ⟨rfl, hl3⟩
  rw [eqS_self]
  have k3 := k2.trans (hl3.mono k2.size)
  have oB3 := oB2.below hl3
  have oD3 := oD2.below hl3
  clear oB2 oD2
  go_wp2_with fail
  refine (markS_one _ _ _ _ oD3 (by omega)).mono ?_
  rintro e w4 ⟨rfl, oD4, hg4⟩
  have k4 := k3.grown hg4 k3.size (fun k hk => Nat.le_trans hl1.size (oD3.block k hk).1)
  have oB4 := oB3.kept hg4 HAP.out
  clear oB3 oD3 hg4
  go_wp2_with fail
  refine (heldS_one _ _ _ _ oD4 (by omega)).mono ?_
  rintro e w5 ⟨rfl, hl5⟩
  have k5 := k4.trans (hl5.mono k4.size)
  have oB5 := oB4.below hl5
  have oD5 := oD4.below hl5
  clear oB4 oD4
  go_wp2_with fail
  refine (implParts_any s b _ hs m (HX.out _ k5)).mono ?_
  rintro e w6 ⟨vG, zs, rfl, HG, oG6, hl6⟩
  obtain rfl : zs = ys := texts_eq (HG.out.trans HB.out.symm)
  have k6 := k5.trans (hl6.mono k5.size)
  have oB6 := oB5.below hl6
  have oD6 := oD5.below hl6
  clear oB5 oD5
  go_wp2_with fail
  refine (eqStringS_own _ _ _ _ _ _ _ oG6 oB6 (by omega)).mono ?_
  rintro e w7 ⟨rfl, hl7⟩
  rw [eqS_self]
  have k7 := k6.trans (hl7.mono k6.size)
  have oD7 := oD6.below hl7
  clear oB6 oD6 oG6
  go_wp2_with fail
  refine (heldS_one _ _ _ _ oD7 (by omega)).mono ?_
  rintro e w8 ⟨rfl, hl8⟩
  have k8 := k7.trans (hl8.mono k7.size)
  go_wp2
  go_ret
  exact ⟨rfl, k8⟩

theorem parts_law' (s : ByteArray) (x : Int) (w : World) (hm : s.size ≤ 9223372036854775807) (hx : 0 ≤ x ∧ x ≤ 255) (hc : ∃ m : Int, w.cell? ⟨3, 0, none⟩ = some (.int .i64 m)) :
    Calls Tryd.prog 5 #[.string s, .int .u8 x] w fun e w' => e = .returned (.bool true) ∧ Below w.heap.size w w' := by
  obtain ⟨m, hc⟩ := hc
  obtain ⟨n, rfl⟩ := Int.eq_ofNat_of_zero_le hx.1
  have e : ((UInt8.ofNat n).toNat : Int) = (n : Int) := by
    rw [UInt8.toNat_ofNat']; omega
  have := parts_law s (UInt8.ofNat n) w hm m hc
  rwa [e] at this
end Go.Proofs.YtkbnafmkgiknbaaDoor
