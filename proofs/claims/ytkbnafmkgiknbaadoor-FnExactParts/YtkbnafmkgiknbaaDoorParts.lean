/-
  Contracts of Parts (the program's, by the library's Split and Clone, and the specification's) over this translation. No statement is proved here.
-/
import Derived.Test.YtkbnafmkgiknbaaDoorStrs
import Derived.Test.YtkbnafmkgiknbaaDoorPartsMath
namespace Go.Proofs.YtkbnafmkgiknbaaDoor
open Go.RowKit

/-- The texts of a list, as lists of bytes. -/
def rawS (xs : List ByteArray) : List (List UInt8) := xs.map fun x => x.data.toList
theorem rawS_append (xs : List ByteArray) (x : ByteArray) : rawS (xs ++ [x]) = rawS xs ++ [x.data.toList] := by simp [rawS]

/-- The loop of the specification's Parts: k bytes are looked at; the piece at hand begins at place j. -/
def PartsInv (b : UInt8) (l : List UInt8) (out : List ByteArray) (j k : Nat) : Prop :=
  (k ≤ l.length ∧ j ≤ k ∧ rawS out ++ ahead ((l.drop j).take (k - j)) (splitL b (l.drop k)) = splitL b l) ∨ (k = l.length + 1 ∧ rawS out = splitL b l)

theorem parts_start (b : UInt8) (l : List UInt8) : PartsInv b l [] 0 0 := .inl ⟨Nat.zero_le _, Nat.le_refl _, by simp [rawS, ahead_nil]⟩
theorem parts_miss {b : UInt8} {l : List UInt8} {out : List ByteArray} {j k : Nat} (h : PartsInv b l out j k) (hk : k < l.length) (hb : ¬ l[k] = b) : PartsInv b l out j (k + 1) := by
  rcases h with ⟨h1, h2, h3⟩ | ⟨h1, _⟩
  · refine .inl ⟨hk, by omega, ?_⟩
    rw [splitL_miss hk hb] at h3
    rw [← h3]
    congr 2
    rw [show k + 1 - j = k - j + 1 by omega, List.take_succ_eq_append_getElem (by rw [List.length_drop]; omega)]
    congr 2
    simp only [List.getElem_drop]
    congr 1; omega
  · omega
theorem parts_hit {b : UInt8} {l : List UInt8} {out : List ByteArray} {j k : Nat} {x : ByteArray} (h : PartsInv b l out j k) (hk : k < l.length) (hb : l[k] = b) (hx : x.data.toList = (l.drop j).take (k - j)) : PartsInv b l (out ++ [x]) (k + 1) (k + 1) := by
  rcases h with ⟨h1, h2, h3⟩ | ⟨h1, _⟩
  · refine .inl ⟨hk, Nat.le_refl _, ?_⟩
    rw [splitL_hit hk hb] at h3
    have e : (l.drop (k + 1)).take (k + 1 - (k + 1)) = [] := by simp
    rw [e, ahead_nil, ← h3, rawS_append, hx, List.append_assoc]
    simp [ahead]
  · omega
theorem parts_last {b : UInt8} {l : List UInt8} {out : List ByteArray} {j : Nat} {x : ByteArray} (h : PartsInv b l out j l.length) (hx : x.data.toList = (l.drop j).take (l.length - j)) : PartsInv b l (out ++ [x]) (l.length + 1) (l.length + 1) := by
  rcases h with ⟨h1, h2, h3⟩ | ⟨h1, _⟩
  · refine .inr ⟨rfl, ?_⟩
    rw [← h3, rawS_append, hx]
    simp [ahead, splitL]
  · omega
theorem parts_from {b : UInt8} {l : List UInt8} {out : List ByteArray} {j k : Nat} (h : PartsInv b l out j k) (hk : k ≤ l.length) : j ≤ k := by
  rcases h with ⟨_, h2, _⟩ | ⟨h1, _⟩
  · exact h2
  · omega
theorem parts_count {b : UInt8} {l : List UInt8} {out : List ByteArray} {j k : Nat} (h : PartsInv b l out j k) : out.length ≤ l.length + 1 := by
  have hl := splitL_length b l
  rcases h with ⟨_, _, h3⟩ | ⟨_, h3⟩
  · rw [← h3, List.length_append] at hl
    have : (rawS out).length = out.length := by simp [rawS]
    omega
  · rw [← h3] at hl
    simpa [rawS] using hl
theorem parts_done {b : UInt8} {l : List UInt8} {out : List ByteArray} {j k : Nat} (h : PartsInv b l out j k) (hk : ¬ k ≤ l.length) : rawS out = splitL b l := by
  rcases h with ⟨h1, _, _⟩ | ⟨_, h3⟩
  · omega
  · exact h3

theorem specParts_any (s : ByteArray) (b : UInt8) (w : World) (hs : s.size ≤ 1048576) :
    Calls Tryd.prog 10 #[.string s, .int .u8 (b.toNat : Int)] w fun e w' => ∃ v xs, e = .returned v ∧ Hid (rawS xs = splitL b s.data.toList) ∧ OwnStrs w' w.heap.size 9 v xs ∧ Below w.heap.size w w' := by
  have hlen : s.data.toList.length = s.size := by simp
  have HL : Hid (s.data.toList.length = s.size) := hlen
  clear hlen
  go_enter Tryd.func10, Tryd.ntmps10
  go_wp2
  go_loopw [5, 6, 7] (fun o f i wr => ∃ (k j : Nat) (xs : List ByteArray), k ≤ s.size + 1 ∧ i = .int .i64 k ∧ f = .int .i64 j ∧ Hid (PartsInv b s.data.toList xs j k) ∧ OwnStrs wr w.heap.size 9 o xs ∧ Below w.heap.size w wr) (fun _ _ i _ => s.size + 1 - (intOf i).toNat)
  case atStart => exact ⟨0, 0, [], Nat.zero_le _, rfl, rfl, parts_start b _, OwnStrs.empty (Nat.le_refl _), (Below.refl _ _).alloc (Nat.le_refl _) _⟩
  case round =>
    obtain ⟨k, j, xs, hk, rfl, rfl, HI, hown, hbel⟩ := hrel
    have hxs : xs.length ≤ s.size + 1 := by have := parts_count HI.out; rwa [HL.out] at this
    have hjk : k ≤ s.size → j ≤ k := fun h => parts_from HI.out (by rw [HL.out]; exact h)
    by_cases hle : k ≤ s.size
    · have hj := hjk hle
      clear hjk
      by_cases he : k = s.size
      · subst he
        go_wp2_with (at_builtin; refine wpList_append_strs _ rfl (.tmp 26) (.tmp 31) 27 rfl w.heap.size 9 Tryd.underlying27 Tryd.infoStr _ _ rfl (hown.alloc _) _ _ _ [s.extract j s.size] rfl rfl (ReadsS.new _ _ _) (by simp; omega) (Nat.le_trans hbel.size (by simp)) ?_)
        intro v2 w2 o2 g2
        have k2 := (hbel.alloc hbel.size _).grown g2 (Nat.le_trans hbel.size (by simp)) (fun k hk => (hown.block k hk).1)
        have HN : Hid (PartsInv b s.data.toList (xs ++ [s.extract j s.size]) (s.size + 1) (s.size + 1)) := by
          have hi := HI.out
          rw [← HL.out] at hi
          have := parts_last (x := s.extract j s.size) hi (by rw [Lib.extract_data, HL.out])
          rwa [HL.out] at this
        clear hown g2
        go_wp2
        go_roundw
        case rel => exact ⟨s.size + 1, s.size + 1, _, Nat.le_refl _, by go_num, by go_num, HN, o2, k2⟩
        case measure => simp [intOf]
      · have hlt : k < s.size := by omega
        have hkl : k < s.data.toList.length := by rw [HL.out]; exact hlt
        clear he
        by_cases hb : s[k] = b
        · have ht : ((s[k].toNat : Int) == (b.toNat : Int)) = true := by simp [hb]
          have HN : Hid (PartsInv b s.data.toList (xs ++ [s.extract j k]) (k + 1) (k + 1)) := parts_hit HI.out hkl hb (Lib.extract_data s j k)
          clear hb
          go_wp2_with (at_builtin; refine wpList_append_strs _ rfl (.tmp 26) (.tmp 31) 27 rfl w.heap.size 9 Tryd.underlying27 Tryd.infoStr _ _ rfl (hown.alloc _) _ _ _ [s.extract j k] rfl rfl (ReadsS.new _ _ _) (by simp; omega) (Nat.le_trans hbel.size (by simp)) ?_)
          intro v2 w2 o2 g2
          have k2 := (hbel.alloc hbel.size _).grown g2 (Nat.le_trans hbel.size (by simp)) (fun k hk => (hown.block k hk).1)
          clear hown g2
          go_wp2
          go_roundw
          case rel => exact ⟨k + 1, k + 1, _, by omega, by go_num, by go_num, HN, o2, k2⟩
          case measure => simp [intOf]; omega
        · have ht : ((s[k].toNat : Int) == (b.toNat : Int)) = false := by
            rw [beq_eq_false_iff_ne]; intro e; exact hb (UInt8.toNat_inj.1 (by omega))
          have HN : Hid (PartsInv b s.data.toList xs j (k + 1)) := parts_miss HI.out hkl hb
          clear hb
          go_wp2
          go_roundw
          case rel => exact ⟨k + 1, j, xs, by omega, by go_num, rfl, HN, hown, hbel⟩
          case measure => simp [intOf]; omega
    · go_wp2
      go_ret
      exact ⟨_, xs, rfl, parts_done HI.out (by rw [HL.out]; exact hle), hown, hbel⟩

theorem set_same (xs : List ByteArray) (k : Nat) (h : k < xs.length) : xs.set k xs[k] = xs := by simp

theorem split_own (s : ByteArray) (b : UInt8) (w : World) (hs : s.size ≤ 1048576) (m : Int) (hm : w.cell? ⟨3, 0, none⟩ = some (.int .i64 m)) :
    Calls Tryd.prog 18 #[.string s, .string ⟨#[b]⟩] w fun e w' => ∃ g xs, e = .returned (.slice (some ⟨g, 0, none⟩) (List.length xs) xs.length) ∧ Hid (rawS xs = splitL b s.data.toList) ∧ OwnStrs w' w.heap.size 9 (.slice (some ⟨g, 0, none⟩) xs.length xs.length) xs ∧ Below w.heap.size w w' := by
  refine (Tryd.strings_Split s ⟨#[b]⟩ m w (by omega) hm (Nat.le_refl _)).mono ?_
  rintro e w1 ⟨rfl, rfl⟩
  have hall : (Lib.splitB ⟨#[b]⟩ 0 (Lib.countB s ⟨#[b]⟩) s).length = Lib.countB s ⟨#[b]⟩ + 1 := Lib.splitB_all ⟨#[b]⟩ (Nat.le_refl _) 0 _ s rfl
  have hraw : rawS (Lib.splitB ⟨#[b]⟩ 0 (Lib.countB s ⟨#[b]⟩) s) = splitL b s.data.toList := splitB_is b s.size s (Nat.le_refl _)
  have hbound : (Lib.splitB ⟨#[b]⟩ 0 (Lib.countB s ⟨#[b]⟩) s).length ≤ s.size + 1 := by
    have h1 := splitL_length b s.data.toList
    rw [← hraw] at h1
    have h2 : s.data.toList.length = s.size := by simp
    simpa [rawS, h2] using h1
  refine ⟨w.heap.size, Lib.splitB ⟨#[b]⟩ 0 (Lib.countB s ⟨#[b]⟩) s, by rw [hall], hraw, ?_, (Below.refl _ _).alloc (Nat.le_refl _) _⟩
  have := World.ownsRow_lit (base := w.heap.size) (e := 9) (size := 1) w ((Lib.splitB ⟨#[b]⟩ 0 (Lib.countB s ⟨#[b]⟩) s).map Value.string).toArray (Lib.splitB ⟨#[b]⟩ 0 (Lib.countB s ⟨#[b]⟩) s).length (Nat.le_refl _) (by unfold maxLen; omega) (by simp)
  exact this

theorem clone_any (s : ByteArray) (w : World) (hs : s.size ≤ 1048576) :
    Calls Tryd.prog 19 #[.string s] w fun e w' => e = .returned (.string s) ∧ Below w.heap.size w w' := by
  go_enter Tryd.func19, Tryd.ntmps19
  go_wp2_with fail
  refine (Tryd.stringslite_Clone s _ (by omega)).mono ?_
  rintro e w1 ⟨rfl, hl1⟩
  go_wp2
  go_ret
  exact ⟨rfl, hl1⟩

theorem piece_size {b : UInt8} {l : List UInt8} {xs : List ByteArray} (h : rawS xs = splitL b l) {k : Nat} (hk : k < xs.length) : xs[k].size ≤ l.length := by
  have hm : xs[k].data.toList ∈ splitL b l := by
    rw [← h]; exact List.mem_map.2 ⟨xs[k], List.getElem_mem hk, rfl⟩
  have := splitL_piece b l _ hm
  simpa using this

theorem implParts_any (s : ByteArray) (b : UInt8) (w : World) (hs : s.size ≤ 1048576) (m : Int) (hm : w.cell? ⟨3, 0, none⟩ = some (.int .i64 m)) :
    Calls Tryd.prog 11 #[.string s, .int .u8 (b.toNat : Int)] w fun e w' => ∃ v xs, e = .returned v ∧ Hid (rawS xs = splitL b s.data.toList) ∧ OwnStrs w' w.heap.size 9 v xs ∧ Below w.heap.size w w' := by
  have hcv := conv_one (P := Tryd.prog) 32 9 5 Tryd.underlying32 Tryd.underlying5 Tryd.underlying9 w b _ rfl
  have hb1 := (Below.refl w.heap.size w).alloc (Nat.le_refl _) (.cells #[.int .u8 (b.toNat : Int)] 5)
  have hm1 : (w.alloc (.cells #[.int .u8 (b.toNat : Int)] 5)).cell? ⟨3, 0, none⟩ = some (.int .i64 m) := (hb1.cell (p := ⟨3, 0, none⟩) (block_lt_of_cell hm)).trans hm
  have HM : Hid ((w.alloc (.cells #[.int .u8 (b.toNat : Int)] 5)).cell? ⟨3, 0, none⟩ = some (.int .i64 m)) := hm1
  clear hm hm1
  go_enter Tryd.func11, Tryd.ntmps11
  go_wp2_with fail
  refine (split_own s b _ hs m HM.out).mono ?_
  rintro e w1 ⟨g, xs, rfl, HR, o1, hl1⟩
  have k1 := hb1.trans (hl1.mono hb1.size)
  have hxs : xs.length ≤ s.size + 1 := by
    have h1 := splitL_length b s.data.toList
    rw [← HR.out] at h1
    have h2 : s.data.toList.length = s.size := by simp
    simpa [rawS, h2] using h1
  have hps : ∀ k (h : k < xs.length), xs[k].size ≤ 1048576 := fun k h => by
    have h1 := piece_size HR.out h
    have h2 : s.data.toList.length = s.size := by simp
    omega
  have HP : Hid (∀ k (h : k < xs.length), xs[k].size ≤ 1048576) := hps
  have o1' := o1.base hb1.size
  clear hcv HM hb1 hl1 hps o1
  go_wp2
  go_loopw [15] (fun i wr => ∃ k : Nat, k ≤ xs.length ∧ i = .int .i64 k ∧ OwnStrs wr w.heap.size 9 (.slice (some ⟨g, 0, none⟩) xs.length xs.length) xs ∧ Below w.heap.size w wr) (fun i _ => xs.length - (intOf i).toNat)
  case atStart => exact ⟨0, Nat.zero_le _, rfl, o1', k1⟩
  case round =>
    obtain ⟨k, hk, rfl, hown, hbel⟩ := hrel
    by_cases hlt : k < xs.length
    · obtain ⟨b1, o1, hbo, hb1, hc1⟩ := hown.reads.at hlt
      cases hbo
      have hcx := hc1 k hlt
      rw [Nat.zero_add] at hcx
      clear hc1
      go_wp2_with fail
      refine (clone_any _ _ (HP.out k hlt)).mono ?_
      rintro e w2 ⟨rfl, hl2⟩
      have o2 := hown.below hl2
      obtain ⟨⟨u, hu⟩, hf⟩ := o2.at rfl k hlt
      have R := o2.store rfl k xs[k]
      rw [set_same xs k hlt] at R
      have k2 := (hbel.trans (hl2.mono hbel.size)).grown R.2 (Nat.le_trans hbel.size hl2.size) (fun j hj => (o2.block j hj).1)
      clear hown hcx
      go_wp2
      go_roundw
      case rel => exact ⟨k + 1, by omega, by go_num, R.1, k2⟩
      case measure => simp [intOf]; omega
    · go_wp2
      go_ret
      exact ⟨_, xs, rfl, HR, hown, hbel⟩
end Go.Proofs.YtkbnafmkgiknbaaDoor
