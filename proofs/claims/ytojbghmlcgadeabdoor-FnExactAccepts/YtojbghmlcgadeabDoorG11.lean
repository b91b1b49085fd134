/-
  Contracts and plain mathematics, joined: MIntSS, MIntSSS, MGram, AcceptsLaw. No statement is proved here.
-/
import Derived.Test.YtojbghmlcgadeabDoorG4
import Derived.Test.YtojbghmlcgadeabDoorG10
import Derived.Test.YtojbghmlcgadeabDoorG5
import Derived.Test.YtojbghmlcgadeabDoorG7
namespace Go.Proofs.YtojbghmlcgadeabDoor
open Go.RowKit

def cntIntSS : List (List Int) → Nat := cntL cntIntS
def mkIntSS : Nat → List (List Int) → List (List Int) := mkL cntIntS mkIntS
theorem cntIntSS_le (xs : List (List Int)) : cntIntSS xs ≤ (Lay.list (Lay.list Lay.int)).wt xs := cntL_le _ (fun x => by have := cntIntS_le x; omega) xs
theorem cntIntSS_room {xs : List (List Int)} {j k M : Nat} (hlt : j < xs.length) (hk : k + (xs.length + (Lay.list Lay.int).sumL xs) ≤ M) : k + cntIntSS (xs.take j) + (Lay.list Lay.int).wt xs[j] ≤ M := by
  have h1 := cntIntSS_le (xs.take j)
  rw [Lay.wt_list, List.length_take] at h1
  have h2 := Lay.sumL_take (Lay.list Lay.int) hlt
  have h3 := Lay.sumL_take_le (Lay.list Lay.int) xs (j + 1)
  omega

end Go.Proofs.YtojbghmlcgadeabDoor
namespace Go.Proofs.YtojbghmlcgadeabDoor
open Go.RowKit

def cntIntSSS : List (List (List Int)) → Nat := cntL cntIntSS
def mkIntSSS : Nat → List (List (List Int)) → List (List (List Int)) := mkL cntIntSS mkIntSS
theorem cntIntSSS_le (xs : List (List (List Int))) : cntIntSSS xs ≤ (Lay.list (Lay.list (Lay.list Lay.int))).wt xs := cntL_le _ (fun x => by have := cntIntSS_le x; omega) xs
theorem cntIntSSS_room {xs : List (List (List Int))} {j k M : Nat} (hlt : j < xs.length) (hk : k + (xs.length + (Lay.list (Lay.list Lay.int)).sumL xs) ≤ M) : k + cntIntSSS (xs.take j) + (Lay.list (Lay.list Lay.int)).wt xs[j] ≤ M := by
  have h1 := cntIntSSS_le (xs.take j)
  rw [Lay.wt_list, List.length_take] at h1
  have h2 := Lay.sumL_take (Lay.list (Lay.list Lay.int)) hlt
  have h3 := Lay.sumL_take_le (Lay.list (Lay.list Lay.int)) xs (j + 1)
  omega

end Go.Proofs.YtojbghmlcgadeabDoor
namespace Go.Proofs.YtojbghmlcgadeabDoor
open Go.RowKit

def cntGram (x : Gm) : Nat := cntIntSSS x.parts
def mkGram (k : Nat) (x : Gm) : Gm := ⟨mkIntSSS k x.parts⟩
theorem cntGram_le (x : Gm) : cntGram x ≤ Lay.gram.wt x := cntIntSSS_le x.parts
theorem mkGram_len (k : Nat) (x : Gm) : (mkGram k x).parts.length = x.parts.length := mkL_length _ _ _ _

end Go.Proofs.YtojbghmlcgadeabDoor
namespace Go.Proofs.YtojbghmlcgadeabDoor
open Go.RowKit

set_option maxHeartbeats 4000000 in
set_option maxRecDepth 100000 in
theorem fnExactAccepts_law (x0 : Gm) (a0 : Option Addr) (c0 : Nat) (z1 : List Int) (a1 : Option Addr) (c1 : Nat) (w : World) (h0 : RD w (.slice a0 x0.parts.length c0) (slD (Lay.list (Lay.list Lay.int)) x0.parts)) (h1 : RD w (.slice a1 z1.length c1) (slD Lay.int z1)) (hf0 : Lay.gram.fit x0) (hf1 : (Lay.list Lay.int).fit z1) (hT : ErrsIs w) :
    Calls Tryd.prog 4 #[.agg #[.slice a0 x0.parts.length c0], .slice a1 z1.length c1] w fun e w' => e = .returned (.bool true) ∧ Below w.heap.size w w' := by
  have HH0 : Hid (Holds w w [] []) := Holds.start w
  have HT : Hid (ErrsIs w) := hT
  clear hT
  have H0 : Hid (RD w (.slice a0 x0.parts.length c0) (slD (Lay.list (Lay.list Lay.int)) x0.parts)) := h0
  clear h0
  have HF0 : Hid (Lay.gram.fit x0) := hf0
  have H1 : Hid (RD w (.slice a1 z1.length c1) (slD Lay.int z1)) := h1
  clear h1
  have HF1 : Hid ((Lay.list Lay.int).fit z1) := hf1
  have HH1 : Hid (Holds w (w.alloc (.cells #[.slice a0 x0.parts.length c0] 24)) [(w.heap.size, [.slice a0 x0.parts.length c0])] []) := by show Holds _ _ _ _; simpa using HH0.out.box [.slice a0 x0.parts.length c0] 24
  clear HH0
  have hm1 := hf1.1
  unfold maxLen at hm1
  clear hf1
  by_cases hl1 : 1048576 < z1.length
  · go_enter Tryd.func4, Tryd.ntmps4
    go_wp2
    go_ret
    exact ⟨rfl, HH1.out.below⟩
  go_enter Tryd.func4, Tryd.ntmps4
  have q0 : (w.alloc (.cells #[.slice a0 x0.parts.length c0] 24)).cell? ⟨w.heap.size, 0, none⟩ = some (.slice a0 x0.parts.length c0) := HH1.out.cell (w.heap.size, [.slice a0 x0.parts.length c0]) List.mem_cons_self 0 (by simp)
  go_wp2_with fail
  refine (szGram_l x0 a0 c0 _ _ (H0.out.later HH1.out.below) HF0.out (by omega) (by omega)).mono ?_
  rintro e w3 ⟨r0, rfl, hr0, B2⟩
  clear q0
  have HH4 : Hid (Holds w w3 [(w.heap.size, [.slice a0 x0.parts.length c0])] []) := HH1.out.later B2
  clear HH1
  clear B2
  rcases hr0 with rfl | ⟨hr0a, hr0b⟩
  · go_wp2
    go_ret
    exact ⟨rfl, HH4.out.below⟩
  have HW0 : Hid (Lay.gram.wt x0 ≤ 1048576) := by show _ ≤ _; omega
  have hr0c : r0 ≤ 1048576 := by omega
  clear hr0b hf0
  have q0 : w3.cell? ⟨w.heap.size, 0, none⟩ = some (.slice a0 x0.parts.length c0) := HH4.out.cell (w.heap.size, [.slice a0 x0.parts.length c0]) List.mem_cons_self 0 (by simp)
  go_wp2_with fail
  refine (toGram_l x0 a0 c0 _ (H0.out.later HH4.out.below) (by have := HW0.out; omega)).mono ?_
  rintro e w7 ⟨a0s, c0s, S0s, rfl, O6, B5⟩
  clear q0
  have HH8 : Hid (Holds w w7 [(w.heap.size, [.slice a0 x0.parts.length c0])] [([.slice a0s x0.parts.length c0s], Lay.gram.cells x0)]) := HH4.out.push B5 O6
  clear HH4
  clear B5 O6
  have q0 : w7.cell? ⟨w.heap.size, 0, none⟩ = some (.slice a0 x0.parts.length c0) := HH8.out.cell (w.heap.size, [.slice a0 x0.parts.length c0]) List.mem_cons_self 0 (by simp)
  go_wp2_with fail
  refine (toIntS_l z1 a1 c1 _ (H1.out.later HH8.out.below) (by rw [Lay.wt_ints]; omega)).mono ?_
  rintro e w11 ⟨v1s, S1s, rfl, O10o, B9⟩
  clear q0
  obtain ⟨a1s, c1s, rfl, _⟩ := OD.shapeL O10o
  have O10 := Cells.one O10o
  clear O10o
  have HH12 : Hid (Holds w w11 [(w.heap.size, [.slice a0 x0.parts.length c0])] [([.slice a1s z1.length c1s], [slD Lay.int z1]), ([.slice a0s x0.parts.length c0s], Lay.gram.cells x0)]) := HH8.out.push B9 O10
  clear HH8
  clear B9 O10
  have R13 : Hid (RD w11 (.slice a0s x0.parts.length c0s) (slD (Lay.list (Lay.list Lay.int)) x0.parts)) := HH12.out.rd ([.slice a0s x0.parts.length c0s], Lay.gram.cells x0) (List.mem_cons_of_mem _ List.mem_cons_self) 0 (by simp) (by simp [Lay.gram])
  have R14 : Hid (RD w11 (.slice a1s z1.length c1s) (slD Lay.int z1)) := HH12.out.rd ([.slice a1s z1.length c1s], [slD Lay.int z1]) List.mem_cons_self 0 (by simp) (by simp)
  have q0 : w11.cell? ⟨w.heap.size, 0, none⟩ = some (.slice a0 x0.parts.length c0) := HH12.out.cell (w.heap.size, [.slice a0 x0.parts.length c0]) List.mem_cons_self 0 (by simp)
  go_wp2_with fail
  refine (specAccepts_any x0 a0s c0s z1 a1s c1s _ R13.out R14.out (by have := HW0.out; omega) HF0.out (by omega) HF1.out).mono ?_
  rintro e w16 ⟨rfl, B15⟩
  clear q0
  have HH17 : Hid (Holds w w16 [(w.heap.size, [.slice a0 x0.parts.length c0])] [([.slice a1s z1.length c1s], [slD Lay.int z1]), ([.slice a0s x0.parts.length c0s], Lay.gram.cells x0)]) := HH12.out.later B15
  clear HH12
  clear B15
  clear R13 R14
  have HH18 : Hid (Holds w w16 [(w.heap.size, [.slice a0 x0.parts.length c0])] [([.slice a1s z1.length c1s], [slD Lay.int z1])]) := Holds.drop (P := [([.slice a1s z1.length c1s], [slD Lay.int z1])]) (x := ([.slice a0s x0.parts.length c0s], Lay.gram.cells x0)) (Q := []) HH17.out
  clear HH17
  have HH19 : Hid (Holds w w16 [(w.heap.size, [.slice a0 x0.parts.length c0])] []) := Holds.drop (P := []) (x := ([.slice a1s z1.length c1s], [slD Lay.int z1])) (Q := []) HH18.out
  clear HH18
  have q0 : w16.cell? ⟨w.heap.size, 0, none⟩ = some (.slice a0 x0.parts.length c0) := HH19.out.cell (w.heap.size, [.slice a0 x0.parts.length c0]) List.mem_cons_self 0 (by simp)
  go_wp2_with fail
  refine (toGram_l x0 a0 c0 _ (H0.out.later HH19.out.below) (by have := HW0.out; omega)).mono ?_
  rintro e w22 ⟨a0m, c0m, S0m, rfl, O21, B20⟩
  clear q0
  have HH23 : Hid (Holds w w22 [(w.heap.size, [.slice a0 x0.parts.length c0])] [([.slice a0m x0.parts.length c0m], Lay.gram.cells x0)]) := HH19.out.push B20 O21
  clear HH19
  clear B20 O21
  have HH24 : Hid (Holds w (w22.alloc (.cells #[.slice a0m x0.parts.length c0m] 28)) [(w22.heap.size, [.slice a0m x0.parts.length c0m]), (w.heap.size, [.slice a0 x0.parts.length c0])] [([.slice a0m x0.parts.length c0m], Lay.gram.cells x0)]) := by show Holds _ _ _ _; simpa using HH23.out.box [.slice a0m x0.parts.length c0m] 28
  clear HH23
  have q0 : (w22.alloc (.cells #[.slice a0m x0.parts.length c0m] 28)).cell? ⟨w22.heap.size, 0, none⟩ = some (.slice a0m x0.parts.length c0m) := HH24.out.cell (w22.heap.size, [.slice a0m x0.parts.length c0m]) List.mem_cons_self 0 (by simp)
  have q1 : (w22.alloc (.cells #[.slice a0m x0.parts.length c0m] 28)).cell? ⟨w.heap.size, 0, none⟩ = some (.slice a0 x0.parts.length c0) := HH24.out.cell (w.heap.size, [.slice a0 x0.parts.length c0]) (List.mem_cons_of_mem _ List.mem_cons_self) 0 (by simp)
  go_wp2_with fail
  refine (toIntS_l z1 a1 c1 _ (H1.out.later HH24.out.below) (by rw [Lay.wt_ints]; omega)).mono ?_
  rintro e w27 ⟨v1m, S1m, rfl, O26o, B25⟩
  clear q0 q1
  obtain ⟨a1m, c1m, rfl, _⟩ := OD.shapeL O26o
  have O26 := Cells.one O26o
  clear O26o
  have HH28 : Hid (Holds w w27 [(w22.heap.size, [.slice a0m x0.parts.length c0m]), (w.heap.size, [.slice a0 x0.parts.length c0])] [([.slice a1m z1.length c1m], [slD Lay.int z1]), ([.slice a0m x0.parts.length c0m], Lay.gram.cells x0)]) := HH24.out.push B25 O26
  clear HH24
  clear B25 O26
  have R29 : Hid (RD w27 (.slice a0m x0.parts.length c0m) (slD (Lay.list (Lay.list Lay.int)) x0.parts)) := HH28.out.rd ([.slice a0m x0.parts.length c0m], Lay.gram.cells x0) (List.mem_cons_of_mem _ List.mem_cons_self) 0 (by simp) (by simp [Lay.gram])
  have R30 : Hid (RD w27 (.slice a1m z1.length c1m) (slD Lay.int z1)) := HH28.out.rd ([.slice a1m z1.length c1m], [slD Lay.int z1]) List.mem_cons_self 0 (by simp) (by simp)
  have q0 : w27.cell? ⟨w22.heap.size, 0, none⟩ = some (.slice a0m x0.parts.length c0m) := HH28.out.cell (w22.heap.size, [.slice a0m x0.parts.length c0m]) List.mem_cons_self 0 (by simp)
  have q1 : w27.cell? ⟨w.heap.size, 0, none⟩ = some (.slice a0 x0.parts.length c0) := HH28.out.cell (w.heap.size, [.slice a0 x0.parts.length c0]) (List.mem_cons_of_mem _ List.mem_cons_self) 0 (by simp)
  go_wp2_with fail
  refine (accepts_any x0 a0m c0m z1 a1m c1m _ R29.out R30.out (by have := HW0.out; omega) HF0.out (by omega) HF1.out (HT.out.later HH28.out.below)).mono ?_
  rintro e w32 ⟨rfl, B31⟩
  clear q0 q1
  have HH33 : Hid (Holds w w32 [(w22.heap.size, [.slice a0m x0.parts.length c0m]), (w.heap.size, [.slice a0 x0.parts.length c0])] [([.slice a1m z1.length c1m], [slD Lay.int z1]), ([.slice a0m x0.parts.length c0m], Lay.gram.cells x0)]) := HH28.out.later B31
  clear HH28
  clear B31
  clear R29 R30
  generalize resAccepts x0 z1 = T at *
  have hTT : (T != T) = false := by simp
  have q0 : w32.cell? ⟨w22.heap.size, 0, none⟩ = some (.slice a0m x0.parts.length c0m) := HH33.out.cell (w22.heap.size, [.slice a0m x0.parts.length c0m]) List.mem_cons_self 0 (by simp)
  have q1 : w32.cell? ⟨w.heap.size, 0, none⟩ = some (.slice a0 x0.parts.length c0) := HH33.out.cell (w.heap.size, [.slice a0 x0.parts.length c0]) (List.mem_cons_of_mem _ List.mem_cons_self) 0 (by simp)
  go_wp2_with fail
  refine wp_region_held_drew (S := fun w' => Keeps w' [(w22.heap.size, [.slice a0m x0.parts.length c0m]), (w.heap.size, [.slice a0 x0.parts.length c0])]) (by kernel_rfl) HH33.out.boxes.drew (fun hHeld => ?_)
  refine take_atL (i := 0) (d := some 33) (v := .agg #[.slice a0m x0.parts.length c0m]) rfl rfl (by kernel_rfl) (by kernel_rfl) (by kernel_rfl) (fun _ _ _ h => h) (by rfl) ?_ hHeld ?_
  · intro w' hSw
    have p0 : w'.cell? ⟨w22.heap.size, 0, none⟩ = some (.slice a0m x0.parts.length c0m) := hSw (w22.heap.size, [.slice a0m x0.parts.length c0m]) List.mem_cons_self 0 (by simp)
    go_simp; try rfl
  try simp only [Act.put, List.setIfInBounds_toArray, List.set_cons_zero, List.set_cons_succ]
  refine take_atL (i := 1) (d := some 34) (v := .agg #[.slice a0 x0.parts.length c0]) rfl rfl (by kernel_rfl) (by kernel_rfl) (by kernel_rfl) (fun _ _ _ h => h) (by rfl) ?_ hHeld ?_
  · intro w' hSw
    have p0 : w'.cell? ⟨w.heap.size, 0, none⟩ = some (.slice a0 x0.parts.length c0) := hSw (w.heap.size, [.slice a0 x0.parts.length c0]) (List.mem_cons_of_mem _ List.mem_cons_self) 0 (by simp)
    go_simp; try rfl
  try simp only [Act.put, List.setIfInBounds_toArray, List.set_cons_zero, List.set_cons_succ]
  clear q0 q1
  refine wpAnyH_ready (rs := [2]) (by kernel_rfl) (by simp) ?_
  refine AllReadyH.cons (o := _) rfl (fun K hK => ?_) AllReadyH.nil
  rw [if_pos (by rfl)]
  go_simp
  refine (toGram_l x0 a0 c0 _ (H0.out.later (Below.drew HH33.out.below)) (by have := HW0.out; omega)).mono ?_
  rintro e w34 ⟨a0e, c0e, S0e, rfl, O36, B35d⟩
  have B35 : Below (w32).heap.size w32 w34 := Below.drewed (by simpa using B35d)
  clear B35d hHeld
  have HH37 : Hid (Holds w w34 [(w22.heap.size, [.slice a0m x0.parts.length c0m]), (w.heap.size, [.slice a0 x0.parts.length c0])] [([.slice a0e x0.parts.length c0e], Lay.gram.cells x0), ([.slice a1m z1.length c1m], [slD Lay.int z1]), ([.slice a0m x0.parts.length c0m], Lay.gram.cells x0)]) := HH33.out.push B35 O36
  clear HH33
  clear B35 O36
  go_wp2_with fail
  refine hK.out _ _ HH37.out.boxes (fun hHeld => ?_)
  clear hK K
  try simp only [Act.put, List.setIfInBounds_toArray, List.set_cons_zero, List.set_cons_succ]
  refine wpAnyH_ready (rs := [3]) (by kernel_rfl) (by simp) ?_
  refine AllReadyH.cons (o := _) rfl (fun K hK => ?_) AllReadyH.nil
  rw [if_pos (by rfl)]
  go_simp
  have R38 : Hid (RD w34 (.slice a0m x0.parts.length c0m) (slD (Lay.list (Lay.list Lay.int)) x0.parts)) := HH37.out.rd ([.slice a0m x0.parts.length c0m], Lay.gram.cells x0) (List.mem_cons_of_mem _ (List.mem_cons_of_mem _ List.mem_cons_self)) 0 (by simp) (by simp [Lay.gram])
  have R39 : Hid (RD w34 (.slice a0e x0.parts.length c0e) (slD (Lay.list (Lay.list Lay.int)) x0.parts)) := HH37.out.rd ([.slice a0e x0.parts.length c0e], Lay.gram.cells x0) List.mem_cons_self 0 (by simp) (by simp [Lay.gram])
  refine (eqGram_l x0 a0m a0e c0m c0e _ R38.out R39.out (by have := HW0.out; omega)).mono ?_
  rintro e w40 ⟨rfl, B41⟩
  clear hHeld R38 R39
  have HH42 : Hid (Holds w w40 [(w22.heap.size, [.slice a0m x0.parts.length c0m]), (w.heap.size, [.slice a0 x0.parts.length c0])] [([.slice a0e x0.parts.length c0e], Lay.gram.cells x0), ([.slice a1m z1.length c1m], [slD Lay.int z1]), ([.slice a0m x0.parts.length c0m], Lay.gram.cells x0)]) := HH37.out.later B41
  clear HH37
  clear B41
  have HH43 : Hid (Holds w w40 [(w22.heap.size, [.slice a0m x0.parts.length c0m]), (w.heap.size, [.slice a0 x0.parts.length c0])] [([.slice a1m z1.length c1m], [slD Lay.int z1]), ([.slice a0m x0.parts.length c0m], Lay.gram.cells x0)]) := Holds.drop (P := []) (x := ([.slice a0e x0.parts.length c0e], Lay.gram.cells x0)) (Q := [([.slice a1m z1.length c1m], [slD Lay.int z1]), ([.slice a0m x0.parts.length c0m], Lay.gram.cells x0)]) HH42.out
  clear HH42
  go_wp2_with fail
  refine hK.out _ _ HH43.out.boxes (fun hHeld => ?_)
  clear hK K
  try simp only [Act.put, List.setIfInBounds_toArray, List.set_cons_zero, List.set_cons_succ]
  refine take_atL (i := 4) (d := some 37) (v := .bool false) rfl rfl (by kernel_rfl) (by kernel_rfl) (by kernel_rfl) (fun _ _ _ h => h) (by rfl) ?_ hHeld ?_
  · intro w' hSw; go_simp; try rfl
  try simp only [Act.put, List.setIfInBounds_toArray, List.set_cons_zero, List.set_cons_succ]
  refine wpAnyH_done (by kernel_rfl) ?_ _
  clear hHeld
  have q0 : w40.cell? ⟨w22.heap.size, 0, none⟩ = some (.slice a0m x0.parts.length c0m) := HH43.out.cell (w22.heap.size, [.slice a0m x0.parts.length c0m]) List.mem_cons_self 0 (by simp)
  have q1 : w40.cell? ⟨w.heap.size, 0, none⟩ = some (.slice a0 x0.parts.length c0) := HH43.out.cell (w.heap.size, [.slice a0 x0.parts.length c0]) (List.mem_cons_of_mem _ List.mem_cons_self) 0 (by simp)
  go_wp2_with fail
  refine (toIntS_l z1 a1 c1 _ (H1.out.later HH43.out.below) (by rw [Lay.wt_ints]; omega)).mono ?_
  rintro e w46 ⟨v1e, S1e, rfl, O45o, B44⟩
  clear q0 q1
  obtain ⟨a1e, c1e, rfl, _⟩ := OD.shapeL O45o
  have O45 := Cells.one O45o
  clear O45o
  have HH47 : Hid (Holds w w46 [(w22.heap.size, [.slice a0m x0.parts.length c0m]), (w.heap.size, [.slice a0 x0.parts.length c0])] [([.slice a1e z1.length c1e], [slD Lay.int z1]), ([.slice a1m z1.length c1m], [slD Lay.int z1]), ([.slice a0m x0.parts.length c0m], Lay.gram.cells x0)]) := HH43.out.push B44 O45
  clear HH43
  clear B44 O45
  have R48 : Hid (RD w46 (.slice a1m z1.length c1m) (slD Lay.int z1)) := HH47.out.rd ([.slice a1m z1.length c1m], [slD Lay.int z1]) (List.mem_cons_of_mem _ List.mem_cons_self) 0 (by simp) (by simp)
  have R49 : Hid (RD w46 (.slice a1e z1.length c1e) (slD Lay.int z1)) := HH47.out.rd ([.slice a1e z1.length c1e], [slD Lay.int z1]) List.mem_cons_self 0 (by simp) (by simp)
  have q0 : w46.cell? ⟨w22.heap.size, 0, none⟩ = some (.slice a0m x0.parts.length c0m) := HH47.out.cell (w22.heap.size, [.slice a0m x0.parts.length c0m]) List.mem_cons_self 0 (by simp)
  have q1 : w46.cell? ⟨w.heap.size, 0, none⟩ = some (.slice a0 x0.parts.length c0) := HH47.out.cell (w.heap.size, [.slice a0 x0.parts.length c0]) (List.mem_cons_of_mem _ List.mem_cons_self) 0 (by simp)
  go_wp2_with fail
  refine (eqIntS_l z1 a1m a1e c1m c1e _ R48.out R49.out (by rw [Lay.wt_ints]; omega)).mono ?_
  rintro e w51 ⟨rfl, B50⟩
  clear q0 q1
  clear R48 R49
  have HH52 : Hid (Holds w w51 [(w22.heap.size, [.slice a0m x0.parts.length c0m]), (w.heap.size, [.slice a0 x0.parts.length c0])] [([.slice a1e z1.length c1e], [slD Lay.int z1]), ([.slice a1m z1.length c1m], [slD Lay.int z1]), ([.slice a0m x0.parts.length c0m], Lay.gram.cells x0)]) := HH47.out.later B50
  clear HH47
  clear B50
  have HH53 : Hid (Holds w w51 [(w22.heap.size, [.slice a0m x0.parts.length c0m]), (w.heap.size, [.slice a0 x0.parts.length c0])] [([.slice a1m z1.length c1m], [slD Lay.int z1]), ([.slice a0m x0.parts.length c0m], Lay.gram.cells x0)]) := Holds.drop (P := []) (x := ([.slice a1e z1.length c1e], [slD Lay.int z1])) (Q := [([.slice a1m z1.length c1m], [slD Lay.int z1]), ([.slice a0m x0.parts.length c0m], Lay.gram.cells x0)]) HH52.out
  clear HH52
  go_wp2
  go_ret
  exact ⟨rfl, HH53.out.below⟩
end Go.Proofs.YtojbghmlcgadeabDoor
