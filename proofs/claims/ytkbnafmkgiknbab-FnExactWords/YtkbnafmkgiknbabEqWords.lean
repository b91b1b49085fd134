/-
  Contracts of the law package's small helpers on lists of words (eqWord, eqWordS, markWordS, heldWordS) over this translation. No statement is proved here.
-/
import Derived.Test.YtkbnafmkgiknbabWordsMath
import Derived.Test.YtkbnafmkgiknbabMarkText
import Derived.Deep.RegionWith
namespace Go.Proofs.Ytkbnafmkgiknbab
open Go.RowKit

theorem eqWord_same (kd pl : Int) (tx : ByteArray) (w : World) : Calls Try.prog 36 #[.agg #[.int .i64 kd, .int .i64 pl, .string tx], .agg #[.int .i64 kd, .int .i64 pl, .string tx]] w fun e w' => e = .returned (.bool true) ∧ Below w.heap.size w w' := by
  go_enter Try.func36, Try.ntmps36
  go_wp2
  go_ret
  exact ⟨rfl, ((Below.refl _ _).alloc (Nat.le_refl _) _).alloc (by simp) _⟩

/-- The three cells of a word that is read. -/
theorem ReadsT.word {w : World} {a : Option Addr} {zs : List Wd} (h : ReadsT wdE w a zs) {i : Nat} (hi : i < zs.length) :
    ∃ b off, a = some ⟨b, off, none⟩ ∧ b < w.heap.size ∧ w.cell? ⟨b, off + i * 3, none⟩ = some (.int .i64 zs[i].kind) ∧ w.cell? ⟨b, off + i * 3 + 1, none⟩ = some (.int .i64 zs[i].place) ∧ w.cell? ⟨b, off + i * 3 + 2, none⟩ = some (.string zs[i].text) := by
  obtain ⟨b, off, rfl, hb, hc⟩ := h.at hi
  refine ⟨b, off, rfl, hb, ?_, ?_, ?_⟩
  · simpa [wdE] using hc 0 (by decide)
  · simpa [wdE, ← Nat.add_assoc] using hc 1 (by decide)
  · simpa [wdE, ← Nat.add_assoc] using hc 2 (by decide)

theorem eqWordS_same (a b : Option Addr) (c d : Nat) (ws : List Wd) (w : World) (h : ReadsT wdE w a ws) (g : ReadsT wdE w b ws) (hl : ws.length ≤ 1099511627776) :
    Calls Try.prog 25 #[.slice a ws.length c, .slice b ws.length d] w fun e w' => e = .returned (.bool true) ∧ Below w.heap.size w w' := by
  go_enter Try.func25, Try.ntmps25
  go_wp2
  go_loopw [5] (fun i wr => ∃ k : Nat, k ≤ ws.length ∧ i = .int .i64 k ∧ Below w.heap.size w wr) (fun i _ => ws.length - (intOf i).toNat)
  case atStart => exact ⟨0, Nat.zero_le _, rfl, Below.refl _ _⟩
  case round =>
    obtain ⟨k, hk, rfl, hbel⟩ := hrel
    by_cases hlt : k < ws.length
    · obtain ⟨b1, o1, rfl, hb1, q0, q1, q2⟩ := (h.below hbel).word hlt
      obtain ⟨b2, o2, rfl, hb2, r0, r1, r2⟩ := (g.below hbel).word hlt
      generalize ws[k].kind = kd at *
      generalize ws[k].place = pl at *
      generalize ws[k].text = tx at *
      go_wp2
      go_region_with (go_at_call 36; refine (eqWord_same kd pl tx _).mono ?_; rintro e w1 ⟨rfl, hl1⟩)
      all_goals
        go_wp2
        go_roundw
        case rel => exact ⟨k + 1, by omega, by go_num, hbel.drew.trans (hl1.mono hbel.size)⟩
        case measure => simp [intOf]; omega
    · go_wp2
      go_ret
      exact ⟨rfl, hbel⟩

theorem eqWordS_own (b1 b2 : Nat) (u v : Value) (ws : List Wd) (w : World) (h : OwnT wdE w b1 40 u ws) (g : OwnT wdE w b2 40 v ws) (hl : ws.length ≤ 1099511627776) :
    Calls Try.prog 25 #[u, v] w fun e w' => e = .returned (.bool true) ∧ Below w.heap.size w w' := by
  obtain ⟨a, c, rfl, hr, _⟩ := h.shape
  obtain ⟨a2, c2, rfl, gr, _⟩ := g.shape
  exact eqWordS_same a a2 c c2 ws w hr gr hl

/-- A store into one field of a word. -/
theorem OwnT.kindW {w : World} {base g cap : Nat} {e : TypeId} {xs : List Wd} {n : Nat} (hn : n = xs.length) (h : OwnT wdE w base e (.slice (some ⟨g, 0, none⟩) n cap) xs) {i : Nat} (hi : i < xs.length) (z : Int) :
    OwnT wdE (w.setCell ⟨g, i * 3, none⟩ (.int .i64 z)) base e (.slice (some ⟨g, 0, none⟩) n cap) (xs.set i { xs[i] with kind := z }) ∧ w.grownBy (w.setCell ⟨g, i * 3, none⟩ (.int .i64 z)) (some g) ∧ (∃ u, w.cell? ⟨g, i * 3, none⟩ = some u) ∧ w.frozen? ⟨g, i * 3, none⟩ = false := by
  have h1 := h.store hn hi 0 (by decide) (.int .i64 z) { xs[i] with kind := z } rfl
  have h2 := h.at hn hi 0 (by decide)
  exact ⟨h1.1, h1.2, ⟨_, h2.1⟩, h2.2⟩
theorem OwnT.placeW {w : World} {base g cap : Nat} {e : TypeId} {xs : List Wd} {n : Nat} (hn : n = xs.length) (h : OwnT wdE w base e (.slice (some ⟨g, 0, none⟩) n cap) xs) {i : Nat} (hi : i < xs.length) (z : Int) :
    OwnT wdE (w.setCell ⟨g, i * 3 + 1, none⟩ (.int .i64 z)) base e (.slice (some ⟨g, 0, none⟩) n cap) (xs.set i { xs[i] with place := z }) ∧ w.grownBy (w.setCell ⟨g, i * 3 + 1, none⟩ (.int .i64 z)) (some g) ∧ (∃ u, w.cell? ⟨g, i * 3 + 1, none⟩ = some u) ∧ w.frozen? ⟨g, i * 3 + 1, none⟩ = false := by
  have h1 := h.store hn hi 1 (by decide) (.int .i64 z) { xs[i] with place := z } rfl
  have h2 := h.at hn hi 1 (by decide)
  exact ⟨h1.1, h1.2, ⟨_, h2.1⟩, h2.2⟩
theorem OwnT.textW {w : World} {base g cap : Nat} {e : TypeId} {xs : List Wd} {n : Nat} (hn : n = xs.length) (h : OwnT wdE w base e (.slice (some ⟨g, 0, none⟩) n cap) xs) {i : Nat} (hi : i < xs.length) (z : ByteArray) :
    OwnT wdE (w.setCell ⟨g, i * 3 + 2, none⟩ (.string z)) base e (.slice (some ⟨g, 0, none⟩) n cap) (xs.set i { xs[i] with text := z }) ∧ w.grownBy (w.setCell ⟨g, i * 3 + 2, none⟩ (.string z)) (some g) ∧ (∃ u, w.cell? ⟨g, i * 3 + 2, none⟩ = some u) ∧ w.frozen? ⟨g, i * 3 + 2, none⟩ = false := by
  have h1 := h.store hn hi 2 (by decide) (.string z) { xs[i] with text := z } rfl
  have h2 := h.at hn hi 2 (by decide)
  exact ⟨h1.1, h1.2, ⟨_, h2.1⟩, h2.2⟩

theorem set_three {L : List Wd} {j : Nat} (hj : j < L.length) (a b : Int) (t : ByteArray) (h1 : j < (L.set j { L[j] with kind := a }).length) (h2 : j < ((L.set j { L[j] with kind := a }).set j { (L.set j { L[j] with kind := a })[j] with place := b }).length) :
    ((L.set j { L[j] with kind := a }).set j { (L.set j { L[j] with kind := a })[j] with place := b }).set j { ((L.set j { L[j] with kind := a }).set j { (L.set j { L[j] with kind := a })[j] with place := b })[j] with text := t } = L.set j ⟨a, b, t⟩ := by
  simp

/-- The words that stand for n marks from k on, three a word. -/
def marksW (k : Nat) : Nat → List Wd
  | 0 => []
  | n + 1 => marksW k n ++ [⟨((k + 3 * n : Nat) : Int), ((k + 3 * n : Nat) : Int) + 1, markB (k + 3 * n + 2)⟩]
theorem marksW_length (k n : Nat) : (marksW k n).length = n := by
  induction n with
  | zero => rfl
  | succ n ih => simp [marksW, ih]
theorem marksW_get (k n i : Nat) (h : i < n) : (marksW k n)[i]? = some ⟨((k + 3 * i : Nat) : Int), ((k + 3 * i : Nat) : Int) + 1, markB (k + 3 * i + 2)⟩ := by
  induction n with
  | zero => omega
  | succ n ih =>
    rw [marksW]
    by_cases e : i < n
    · rw [List.getElem?_append_left (by rw [marksW_length]; exact e)]; exact ih e
    · have : i = n := by omega
      subst this
      rw [List.getElem?_append_right (by rw [marksW_length]; exact Nat.le_refl _), marksW_length]; simp
theorem setW_step {k : Nat} {xs : List Wd} {j : Nat} (h : j < xs.length) : (marksW k j ++ xs.drop j).set j ⟨((k + 3 * j : Nat) : Int), ((k + 3 * j : Nat) : Int) + 1, markB (k + 3 * j + 2)⟩ = marksW k (j + 1) ++ xs.drop (j + 1) := by
  rw [List.set_append_right _ _ (by rw [marksW_length]; exact Nat.le_refl _), marksW_length, Nat.sub_self, List.drop_eq_getElem_cons h, List.set_cons_zero, marksW]
  simp
theorem stepW_length {k : Nat} {xs : List Wd} {j : Nat} (h : j ≤ xs.length) : xs.length = (marksW k j ++ xs.drop j).length := by
  rw [List.length_append, marksW_length, List.length_drop]; omega

set_option maxRecDepth 100000 in
theorem markWordS_any (base : Nat) (v : Value) (xs : List Wd) (k : Nat) (w : World) (h : OwnT wdE w base 40 v xs) (hk : 1 ≤ k) (hk2 : k ≤ 1099511627776) (hl : xs.length ≤ 8388608) :
    Calls Try.prog 26 #[v, .int .i64 (k : Int)] w fun e w' => e = .returned (.int .i64 ((k : Int) + 3 * xs.length)) ∧ OwnT wdE w' base 40 v (marksW k xs.length) ∧ w.grownBy w' v.ownBlock := by
  obtain ⟨a, cap, rfl, _, hg, _⟩ := h.shape
  go_enter Try.func26, Try.ntmps26
  go_wp2
  go_loopw [1, 5] (fun sk i wr => ∃ j : Nat, j ≤ xs.length ∧ i = .int .i64 j ∧ sk = .int .i64 ((k + 3 * j : Nat) : Int) ∧ OwnT wdE wr base 40 (.slice a xs.length cap) (marksW k j ++ xs.drop j) ∧ w.grownBy wr (Value.ownBlock (.slice a xs.length cap))) (fun _ i _ => xs.length - (intOf i).toNat)
  case atStart => exact ⟨0, Nat.zero_le _, rfl, rfl, by simpa [marksW] using h, World.grownBy.refl _ _⟩
  case round =>
    obtain ⟨j, hj, rfl, rfl, hown, hgr⟩ := hrel
    by_cases hlt : j < xs.length
    · obtain ⟨g, rfl⟩ := hg (by intro e; simp [e] at hlt)
      clear hg
      have HST : Hid ((marksW k j ++ xs.drop j).set j ⟨((k + 3 * j : Nat) : Int), ((k + 3 * j : Nat) : Int) + 1, markB (k + 3 * j + 2)⟩ = marksW k (j + 1) ++ xs.drop (j + 1)) := setW_step hlt
      have hL := stepW_length (k := k) hj
      have HM : Hid (k + 3 * (j + 1) = k + 3 * j + 3) := by show _ = _; omega
      have hA : k + 3 * j ≤ 1099536793600 := by omega
      have hA1 : 1 ≤ k + 3 * j := by omega
      generalize marksW k j ++ xs.drop j = L at *
      generalize k + 3 * j = m at *
      have hjL : j < L.length := by omega
      obtain ⟨O1, G1, ⟨u1, c1⟩, f1⟩ := hown.kindW hL hjL (m : Int)
      have hL1 : xs.length = (L.set j { L[j] with kind := (m : Int) }).length := by simpa using hL
      have hj1 : j < (L.set j { L[j] with kind := (m : Int) }).length := by omega
      obtain ⟨O2, G2, ⟨u2, c2⟩, f2⟩ := O1.placeW hL1 hj1 ((m : Int) + 1)
      have hj2 : j < ((L.set j { L[j] with kind := (m : Int) }).set j { (L.set j { L[j] with kind := (m : Int) })[j] with place := (m : Int) + 1 }).length := by simpa using hj1
      have HS3 : Hid (((L.set j { L[j] with kind := (m : Int) }).set j { (L.set j { L[j] with kind := (m : Int) })[j] with place := (m : Int) + 1 }).set j { ((L.set j { L[j] with kind := (m : Int) }).set j { (L.set j { L[j] with kind := (m : Int) })[j] with place := (m : Int) + 1 })[j] with text := markB (m + 2) } = L.set j ⟨m, (m : Int) + 1, markB (m + 2)⟩) :=
        set_three hjL (m : Int) ((m : Int) + 1) (markB (m + 2)) hj1 hj2
      have hL2 : xs.length = ((L.set j { L[j] with kind := (m : Int) }).set j { (L.set j { L[j] with kind := (m : Int) })[j] with place := (m : Int) + 1 }).length := by simpa using hL
      generalize (L.set j { L[j] with kind := (m : Int) }).set j { (L.set j { L[j] with kind := (m : Int) })[j] with place := (m : Int) + 1 } = L2 at *
      have G12 := grownBy_trans (grownBy_trans hgr G1) G2
      have M : ∀ W : World, Calls Try.prog 37 #[.int .i64 ((m : Int) + 1 + 1)] W fun e w' => e = .returned (.string (markB (m + 2))) ∧ Below W.heap.size W w' := by
        intro W
        have e : ((m : Int) + 1 + 1) = ((m + 2 : Nat) : Int) := by omega
        rw [e]
        exact markText_any (m + 2) W (by omega) (by omega)
      have HL2 : Hid (xs.length = L2.length) := hL2
      clear hown hgr O1 G1 G2 hL1 hj1 hL hL2
      go_wp2_with fail
      refine (M _).mono ?_
      rintro e w3 ⟨rfl, hl3⟩
      have O3 := O2.below hl3
      obtain ⟨O4, G4, ⟨u4, c4⟩, f4⟩ := O3.textW HL2.out hj2 (markB (m + 2))
      have G5 := grownBy_trans (grownBy_trans G12 (grownBy_of_below hl3 _)) G4
      clear O2 O3 G12 G4 M c1 c2 f1 f2 hl3
      go_wp2
      go_roundw
      case rel => exact ⟨j + 1, by omega, by go_num, by rw [HM.out]; congr 1, by rw [← HST.out, ← HS3.out]; exact O4, G5⟩
      case measure => simp [intOf]; omega
    · have e : j = xs.length := by omega
      go_wp2
      go_ret
      subst e
      exact ⟨ret_int (by omega), by simpa using hown, hgr⟩

theorem heldWordS_any (a : Option Addr) (n c : Nat) (k : Nat) (w : World) (h : ReadsT wdE w a (marksW k n)) (hk : 1 ≤ k) (hk2 : k ≤ 1099511627776) (hl : n ≤ 8388608) :
    Calls Try.prog 27 #[.slice a n c, .int .i64 (k : Int)] w fun e w' => e = .returned (.int .i64 ((k : Int) + 3 * n)) ∧ Below w.heap.size w w' := by
  go_enter Try.func27, Try.ntmps27
  go_wp2
  go_loopw [1, 5] (fun sk i wr => ∃ j : Nat, j ≤ n ∧ i = .int .i64 j ∧ sk = .int .i64 ((k + 3 * j : Nat) : Int) ∧ Below w.heap.size w wr) (fun _ i _ => n - (intOf i).toNat)
  case atStart => exact ⟨0, Nat.zero_le _, rfl, rfl, Below.refl _ _⟩
  case round =>
    obtain ⟨j, hj, rfl, rfl, hbel⟩ := hrel
    by_cases hlt : j < n
    · have hlt2 : j < (marksW k n).length := by rw [marksW_length]; exact hlt
      obtain ⟨b1, o1, rfl, hb2, q0, q1, q2⟩ := (h.below hbel).word hlt2
      have hget : (marksW k n)[j] = ⟨((k + 3 * j : Nat) : Int), ((k + 3 * j : Nat) : Int) + 1, markB (k + 3 * j + 2)⟩ := by
        have := marksW_get k n j hlt
        rw [List.getElem?_eq_getElem hlt2] at this
        exact Option.some.inj this
      rw [hget] at q0 q1 q2
      have HM : Hid (k + 3 * (j + 1) = k + 3 * j + 3) := by show _ = _; omega
      have hA : k + 3 * j ≤ 1099536793600 := by omega
      have hA1 : 1 ≤ k + 3 * j := by omega
      clear hget h
      generalize k + 3 * j = m at *
      have M : ∀ W : World, Calls Try.prog 37 #[.int .i64 ((m : Int) + 1 + 1)] W fun e w' => e = .returned (.string (markB (m + 2))) ∧ Below W.heap.size W w' := by
        intro W
        have e : ((m : Int) + 1 + 1) = ((m + 2 : Nat) : Int) := by omega
        rw [e]
        exact markText_any (m + 2) W (by omega) (by omega)
      have HMT : Hid (∀ W : World, Calls Try.prog 37 #[.int .i64 ((m : Int) + 1 + 1)] W fun e w' => e = .returned (.string (markB (m + 2))) ∧ Below W.heap.size W w') := M
      clear M
      go_wp2
      go_region_with (go_at_call 37; refine (HMT.out _).mono ?_; rintro e w1 ⟨rfl, hl1⟩; have hcx1 := (hl1.cell (p := ⟨b1, o1 + j * 3 + 2, none⟩) hb2).trans q2)
      all_goals
        go_wp2
        go_roundw
        case rel => exact ⟨j + 1, by omega, by go_num, by rw [HM.out]; congr 1, hbel.drew.trans (hl1.mono hbel.size)⟩
        case measure => simp [intOf]; omega
    · have e : j = n := by omega
      go_wp2
      go_ret
      subst e
      exact ⟨ret_int (by omega), hbel⟩

theorem heldWordS_own (base n : Nat) (v : Value) (k : Nat) (w : World) (h : OwnT wdE w base 40 v (marksW k n)) (hk : 1 ≤ k) (hk2 : k ≤ 1099511627776) (hl : n ≤ 8388608) :
    Calls Try.prog 27 #[v, .int .i64 (k : Int)] w fun e w' => e = .returned (.int .i64 ((k : Int) + 3 * n)) ∧ Below w.heap.size w w' := by
  obtain ⟨a, c, rfl, hr, _⟩ := h.shape
  rw [marksW_length]
  exact heldWordS_any a n c k w hr hk hk2 hl
end Go.Proofs.Ytkbnafmkgiknbab
