/-
  The text of rules: plain mathematics, and the contract of spec.RulesText over this translation. No statement is proved here.
-/
import Derived.Test.YtkbnafmkgiknbacToRule
import Derived.Test.YtkbnafmkgiknbacSpecExprText
namespace Go.Proofs.Ytkbnafmkgiknbac
open Go.RowKit

/-- The text of a rule; of several. -/
def Rl.str (r : Rl) : List UInt8 := r.name.data.toList ++ ([32, 61, 32] ++ (r.ex.str ++ [32, 59, 10]))
def Rl.strL (rs : List Rl) : List UInt8 := rs.flatMap Rl.str
theorem Rl.str_le (r : Rl) : r.str.length ≤ 3 * r.wt + 8 := by
  have h := Ex.str_le r.ex
  have h2 : r.name.data.toList.length = r.name.size := by simp
  simp only [Rl.str, Rl.wt, List.length_append, List.length_cons, List.length_nil]; omega
theorem Rl.strL_le (rs : List Rl) : (Rl.strL rs).length ≤ 8 * Rl.wtL rs := by
  induction rs with
  | nil => simp [Rl.strL]
  | cons r rs ih =>
    have h := Rl.str_le r
    simp only [Rl.strL, Rl.wtL, List.flatMap_cons, List.length_append] at ih ⊢
    omega
theorem Rl.strL_take {rs : List Rl} {k : Nat} (h : k < rs.length) : Rl.strL (rs.take (k + 1)) = Rl.strL (rs.take k) ++ rs[k].str := by
  rw [Rl.strL, List.take_succ_eq_append_getElem h, List.flatMap_append]; simp [Rl.strL]

set_option maxHeartbeats 1000000 in
set_option maxRecDepth 100000 in
theorem specRulesText_any (rs : List Rl) (a : Option Addr) (c : Nat) (w : World) (h : RD w (.slice a rs.length c) (ruD rs)) (hw : Rl.wtL rs ≤ 1099511627776) :
    Calls Try.prog 23 #[.slice a rs.length c] w fun e w' => e = .returned (strOfB (Rl.strL rs)) ∧ Below w.heap.size w w' := by
  have hlen := Rl.length_le_wtL rs
  go_enter Try.func23, Try.ntmps23
  go_wp2
  go_loopw [3, 4] (fun t i wr => ∃ k : Nat, k ≤ rs.length ∧ i = .int .i64 k ∧ t = .string ⟨(Rl.strL (rs.take k)).toArray⟩ ∧ Below w.heap.size w wr) (fun _ i _ => rs.length - (intOf i).toNat)
  case atStart => exact ⟨0, Nat.zero_le _, rfl, rfl, Below.refl _ _⟩
  case round =>
    obtain ⟨k, hk, rfl, rfl, hbel⟩ := hrel
    by_cases hlt : k < rs.length
    · obtain ⟨b1, o1, rfl, hb1, q0, q1, q2, a1, c1, q3, r1⟩ := (h.later hbel).ru hlt
      have g1 := Rl.wtL_take hlt
      have g2 := Rl.wtL_take_le rs (k + 1)
      have g3 := Rl.strL_le (rs.take k)
      have g4 := Ex.str_le rs[k].ex
      have g5 : rs[k].wt = rs[k].name.size + rs[k].ex.wt := rfl
      have n1 : (Rl.strL (rs.take k)).length ≤ 8796093022208 := by omega
      have n2 : rs[k].name.size ≤ 1099511627776 := by omega
      have n3 : rs[k].ex.str.length ≤ 3298534883330 := by omega
      have X : Hid (∀ W, Below wr.heap.size wr W → Calls Try.prog 18 #[.agg #[.int .i64 rs[k].ex.kind, .string rs[k].ex.text, .slice a1 rs[k].ex.kids.length c1]] W fun e w' => e = .returned (.string ⟨rs[k].ex.str.toArray⟩) ∧ Below W.heap.size W w') :=
        fun W hW => specExprText_any _ rs[k].ex (Nat.lt_succ_self _) a1 c1 W (r1.later hW) (by omega)
      have EJ : Hid (Rl.strL (rs.take (k + 1)) = Rl.strL (rs.take k) ++ (rs[k].name.data.toList ++ ([32, 61, 32] ++ (rs[k].ex.str ++ [32, 59, 10])))) := Rl.strL_take hlt
      clear r1 h g1 g2 g3 g4 g5
      generalize Rl.strL (rs.take k) = pre at *
      generalize rs[k].ex.str = ys at *
      generalize rs[k].ex.kids = yk at *
      generalize rs[k].ex.kind = yd at *
      generalize rs[k].ex.text = yt at *
      generalize rs[k].name = nm at *
      go_wp2
      refine wp_region_held_drew (S := fun w' => w'.cell? ⟨b1, o1 + k * 4, none⟩ = some (.string nm) ∧ w'.cell? ⟨b1, o1 + k * 4 + 1, none⟩ = some (.int .i64 yd) ∧ w'.cell? ⟨b1, o1 + k * 4 + 2, none⟩ = some (.string yt) ∧ w'.cell? ⟨b1, o1 + k * 4 + 3, none⟩ = some (.slice a1 yk.length c1)) (by kernel_rfl) ?_ (fun hHeld => ?_)
      · go_keep
      refine take_at (i := 0) (d := some 11) (v := .string ⟨pre.toArray⟩) rfl rfl (by kernel_rfl) (by kernel_rfl) (by kernel_rfl) (fun _ _ _ h => h) (by rfl) ?_ hHeld ?_
      · intro w hSw; (try dsimp only at hSw); go_simp; first | done | rfl | omega
      try simp only [Act.put, List.setIfInBounds_toArray, List.set_cons_zero, List.set_cons_succ]
      refine take_at (i := 1) (d := some 12) (v := .slice (some ⟨b1, o1, none⟩) rs.length c) rfl rfl (by kernel_rfl) (by kernel_rfl) (by kernel_rfl) (fun _ _ _ h => h) (by rfl) ?_ hHeld ?_
      · intro w hSw; (try dsimp only at hSw); go_simp; first | done | rfl | omega
      try simp only [Act.put, List.setIfInBounds_toArray, List.set_cons_zero, List.set_cons_succ]
      refine take_at (i := 2) (d := some 13) (v := .int .i64 k) rfl rfl (by kernel_rfl) (by kernel_rfl) (by kernel_rfl) (fun _ _ _ h => h) (by rfl) ?_ hHeld ?_
      · intro w hSw; (try dsimp only at hSw); go_simp; first | done | rfl | omega
      try simp only [Act.put, List.setIfInBounds_toArray, List.set_cons_zero, List.set_cons_succ]
      refine take_at (i := 3) (d := some 14) (v := .pointer (some ⟨b1, o1 + k * 4, none⟩)) rfl rfl (by kernel_rfl) (by kernel_rfl) (by kernel_rfl) (fun _ _ _ h => h) (by rfl) ?_ hHeld ?_
      · intro w hSw; (try dsimp only at hSw); go_simp; first | done | rfl | omega
      try simp only [Act.put, List.setIfInBounds_toArray, List.set_cons_zero, List.set_cons_succ]
      refine take_at (i := 4) (d := some 15) (v := .pointer (some ⟨b1, o1 + k * 4, none⟩)) rfl rfl (by kernel_rfl) (by kernel_rfl) (by kernel_rfl) (fun _ _ _ h => h) (by rfl) ?_ hHeld ?_
      · intro w hSw; (try dsimp only at hSw); go_simp; first | done | rfl | omega
      try simp only [Act.put, List.setIfInBounds_toArray, List.set_cons_zero, List.set_cons_succ]
      refine take_at (i := 5) (d := some 16) (v := .string nm) rfl rfl (by kernel_rfl) (by kernel_rfl) (by kernel_rfl) (fun _ _ _ h => h) (by rfl) ?_ hHeld ?_
      · intro w hSw; (try dsimp only at hSw); go_simp; first | done | rfl | omega
      try simp only [Act.put, List.setIfInBounds_toArray, List.set_cons_zero, List.set_cons_succ]
      refine take_at (i := 6) (d := some 17) (v := .string (⟨pre.toArray⟩ ++ nm)) rfl rfl (by kernel_rfl) (by kernel_rfl) (by kernel_rfl) (fun _ _ _ h => h) (by rfl) ?_ hHeld ?_
      · intro w hSw; (try dsimp only at hSw); go_simp; first | done | rfl | omega
      try simp only [Act.put, List.setIfInBounds_toArray, List.set_cons_zero, List.set_cons_succ]
      refine take_at (i := 7) (d := some 18) (v := .string (⟨pre.toArray⟩ ++ nm ++ ⟨#[32, 61, 32]⟩)) rfl rfl (by kernel_rfl) (by kernel_rfl) (by kernel_rfl) (fun _ _ _ h => h) (by rfl) ?_ hHeld ?_
      · intro w hSw; (try dsimp only at hSw); go_simp; first | done | rfl | omega
      try simp only [Act.put, List.setIfInBounds_toArray, List.set_cons_zero, List.set_cons_succ]
      refine take_at (i := 8) (d := some 19) (v := .slice (some ⟨b1, o1, none⟩) rs.length c) rfl rfl (by kernel_rfl) (by kernel_rfl) (by kernel_rfl) (fun _ _ _ h => h) (by rfl) ?_ hHeld ?_
      · intro w hSw; (try dsimp only at hSw); go_simp; first | done | rfl | omega
      try simp only [Act.put, List.setIfInBounds_toArray, List.set_cons_zero, List.set_cons_succ]
      refine take_at (i := 9) (d := some 20) (v := .int .i64 k) rfl rfl (by kernel_rfl) (by kernel_rfl) (by kernel_rfl) (fun _ _ _ h => h) (by rfl) ?_ hHeld ?_
      · intro w hSw; (try dsimp only at hSw); go_simp; first | done | rfl | omega
      try simp only [Act.put, List.setIfInBounds_toArray, List.set_cons_zero, List.set_cons_succ]
      refine take_at (i := 10) (d := some 21) (v := .pointer (some ⟨b1, o1 + k * 4, none⟩)) rfl rfl (by kernel_rfl) (by kernel_rfl) (by kernel_rfl) (fun _ _ _ h => h) (by rfl) ?_ hHeld ?_
      · intro w hSw; (try dsimp only at hSw); go_simp; first | done | rfl | omega
      try simp only [Act.put, List.setIfInBounds_toArray, List.set_cons_zero, List.set_cons_succ]
      refine take_at (i := 11) (d := some 22) (v := .pointer (some ⟨b1, o1 + k * 4 + 1, none⟩)) rfl rfl (by kernel_rfl) (by kernel_rfl) (by kernel_rfl) (fun _ _ _ h => h) (by rfl) ?_ hHeld ?_
      · intro w hSw; (try dsimp only at hSw); go_simp; first | done | rfl | omega
      try simp only [Act.put, List.setIfInBounds_toArray, List.set_cons_zero, List.set_cons_succ]
      refine take_at (i := 12) (d := some 23) (v := .agg #[.int .i64 yd, .string yt, .slice a1 yk.length c1]) rfl rfl (by kernel_rfl) (by kernel_rfl) (by kernel_rfl) (fun _ _ _ h => h) (by rfl) ?_ hHeld ?_
      · intro w hSw; (try dsimp only at hSw); go_simp; first | done | rfl | omega
      try simp only [Act.put, List.setIfInBounds_toArray, List.set_cons_zero, List.set_cons_succ]
      refine wpAnyH_ready (rs := [13]) (by kernel_rfl) (by simp) ?_
      refine AllReadyH.cons (o := _) rfl (fun K hK => ?_) AllReadyH.nil
      rw [if_pos (by rfl)]
      go_simp
      refine (X.out _ (by go_grown)).mono ?_
      rintro e w1 ⟨rfl, hl1⟩
      have B1 := hbel.drew.trans (hl1.mono hbel.size)
      have s0 : w1.cell? ⟨b1, o1 + k * 4, none⟩ = some (.string nm) := (hl1.cell (p := ⟨b1, o1 + k * 4, none⟩) (by simp; omega)).trans (by simp [*])
      have s1 : w1.cell? ⟨b1, o1 + k * 4 + 1, none⟩ = some (.int .i64 yd) := (hl1.cell (p := ⟨b1, o1 + k * 4 + 1, none⟩) (by simp; omega)).trans (by simp [*])
      have s2 : w1.cell? ⟨b1, o1 + k * 4 + 2, none⟩ = some (.string yt) := (hl1.cell (p := ⟨b1, o1 + k * 4 + 2, none⟩) (by simp; omega)).trans (by simp [*])
      have s3 : w1.cell? ⟨b1, o1 + k * 4 + 3, none⟩ = some (.slice a1 yk.length c1) := (hl1.cell (p := ⟨b1, o1 + k * 4 + 3, none⟩) (by simp; omega)).trans (by simp [*])
      go_wp2_with fail
      refine hK.out _ _ ⟨s0, s1, s2, s3⟩ (fun hHeld => ?_)
      clear hK K
      try simp only [Act.put, List.setIfInBounds_toArray, List.set_cons_zero, List.set_cons_succ]
      refine take_at (i := 14) (d := some 25) (v := .string (⟨pre.toArray⟩ ++ nm ++ ⟨#[32, 61, 32]⟩ ++ ⟨ys.toArray⟩)) rfl rfl (by kernel_rfl) (by kernel_rfl) (by kernel_rfl) (fun _ _ _ h => h) (by rfl) ?_ hHeld ?_
      · intro w hSw; (try dsimp only at hSw); go_simp; first | done | rfl | omega
      try simp only [Act.put, List.setIfInBounds_toArray, List.set_cons_zero, List.set_cons_succ]
      refine take_at (i := 15) (d := some 26) (v := .string (⟨pre.toArray⟩ ++ nm ++ ⟨#[32, 61, 32]⟩ ++ ⟨ys.toArray⟩ ++ ⟨#[32, 59, 10]⟩)) rfl rfl (by kernel_rfl) (by kernel_rfl) (by kernel_rfl) (fun _ _ _ h => h) (by rfl) ?_ hHeld ?_
      · intro w hSw; (try dsimp only at hSw); go_simp; first | done | rfl | omega
      try simp only [Act.put, List.setIfInBounds_toArray, List.set_cons_zero, List.set_cons_succ]
      refine take_at (i := 16) (d := some 3) (v := .string (⟨pre.toArray⟩ ++ nm ++ ⟨#[32, 61, 32]⟩ ++ ⟨ys.toArray⟩ ++ ⟨#[32, 59, 10]⟩)) rfl rfl (by kernel_rfl) (by kernel_rfl) (by kernel_rfl) (fun _ _ _ h => h) (by rfl) ?_ hHeld ?_
      · intro w hSw; (try dsimp only at hSw); go_simp; first | done | rfl | omega
      try simp only [Act.put, List.setIfInBounds_toArray, List.set_cons_zero, List.set_cons_succ]
      refine wpAnyH_done (by kernel_rfl) ?_ _
      clear hHeld s0 s1 s2 s3 q0 q1 q2 q3 X
      go_wp2
      go_roundw
      case rel => exact ⟨k + 1, by omega, by go_num, by rw [EJ.out]; exact congrArg Value.string (by apply ByteArray.ext; apply Array.ext'; simp), B1⟩
      case measure => simp [intOf]; omega
    · have e : k = rs.length := by omega
      subst e
      have EE : Hid (Rl.strL (rs.take rs.length) = Rl.strL rs) := by show _ = _; rw [List.take_length]
      generalize Rl.strL (rs.take rs.length) = pre at *
      clear h
      go_wp2
      go_ret
      exact ⟨by rw [← EE.out]; rfl, hbel⟩
end Go.Proofs.Ytkbnafmkgiknbac
