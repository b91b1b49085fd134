/-
  slices.Backward over a row of integers, as an iterator. No statement is proved here.
-/
import Derived.Test.YtghpekijimoicaaIterT
import Derived.Test.YtghpekijimoicaaBase
import Derived.Test.YtghpekijimoicaaChecked
namespace Go.Proofs.Ytghpekijimoicaa
open Go.RowKit Go.Shelf

attribute [local go_sem] Oper.semAt_some

theorem backward_any (a : Option Addr) (len cap : Nat) (w : World) :
    Calls Try.prog 34 #[.slice a len cap] w fun e w' => e = .returned (.func (.func 35) #[] #[.pointer (some ⟨w.heap.size, 0, none⟩)]) ∧ w' = w.alloc (.cells #[.slice a len cap] 33) := by
  go_enter Try.func34, Try.ntmps34
  go_wp2
  go_ret
  exact ⟨rfl, rfl⟩

/-- The numbers with their places, from the last one on. -/
def backs (zs : List Int) : List (Int × Nat) := zs.zipIdx.reverse
theorem backs_length (zs : List Int) : (backs zs).length = zs.length := by simp [backs]
theorem backs_get {zs : List Int} {k : Nat} (h : k < zs.length) (h' : k < (backs zs).length) : (backs zs)[k] = (zs[zs.length - 1 - k], zs.length - 1 - k) := by
  simp [backs, List.getElem_reverse]
theorem prefix_step {α : Type} {xs : List α} {k : Nat} (h : k < xs.length) : xs.take k ++ [xs[k]] <+: xs := by
  rw [← List.take_succ_eq_append_getElem h]; exact List.take_prefix _ _
theorem yield_in {P : Program} {m l : Nat} {args : Array Value} {W : World} {R : Ending → World → Prop} (l' : Nat) (h : YieldAt Fence.wide m P l args W R) : YieldAt (Fence.wide.inRound l') m P l args W R := h
theorem calls_in {P : Program} {f : FuncId} {args : Array Value} {w : World} {R : Ending → World → Prop} (n l : Nat) (h : Calls P f args w R) : CallsIn (Fence.wide.inRound l) n P f args w R := callsIn_wide.2 h

set_option maxRecDepth 100000 in
set_option maxHeartbeats 2000000 in
theorem backward_seq (Bs n₀ b off cap : Nat) (a : Option Addr) (zs : List Int) (hreach : zs.length ≤ 1048576) (w : World) (hB : w.heap[Bs]? = some (.cells #[.slice a zs.length cap] 33)) (hn : n₀ ≤ w.heap.size)
    (hb : zs = [] ∨ (a = some ⟨b, off, none⟩ ∧ b < n₀ ∧ ∀ j (hj : j < zs.length), w.cell? ⟨b, off + j, none⟩ = some (.int .i64 zs[j]))) :
    SeqT Try.prog 35 #[.pointer (some ⟨Bs, 0, none⟩)] (fun x : Int × Nat => #[.int .i64 (x.2 : Int), .int .i64 x.1]) (backs zs) (fun _ => False) (fun t => t = 33) n₀ w := by
  intro n l J Jx W hW hl hJ hJx hY h0
  refine callsIn_of_wp Try.func35 rfl trivial ?_ rfl
  simp only [Try.ntmps35, List.size_toArray, List.length_cons, List.length_nil, Nat.reduceAdd, Nat.reduceSub, Array.replicate_succ, Array.replicate_zero, List.push_toArray, List.append_toArray, List.nil_append, List.cons_append]
  have hB1 : W.heap[Bs]? = some (.cells #[.slice a zs.length cap] 33) := (hW.block Bs (Array.getElem?_eq_some_iff.1 hB).1).trans hB
  have q1 : W.cell? ⟨Bs, 0, none⟩ = some (.slice a zs.length cap) := by simp [World.cell?, hB1]
  have hc1 : ∀ j (hj : j < zs.length), ∃ b off, a = some ⟨b, off, none⟩ ∧ b < n₀ ∧ W.cell? ⟨b, off + j, none⟩ = some (.int .i64 zs[j]) := fun j hj => by
    rcases hb with e | ⟨e, hb2, hc⟩
    · rw [e] at hj; simp at hj
    · exact ⟨b, off, e, hb2, (hW.cell (p := ⟨b, off + j, none⟩) (by simp; omega)).trans (hc j hj)⟩
  have HC : Hid (∀ j (hj : j < zs.length), ∃ b off, a = some ⟨b, off, none⟩ ∧ b < n₀ ∧ W.cell? ⟨b, off + j, none⟩ = some (.int .i64 zs[j])) := hc1
  have HY : Hid (∀ (m : Nat) (pre : List (Int × Nat)) (x : Int × Nat) (W1 : World), J pre W1 → pre ++ [x] <+: backs zs → YieldAt Fence.wide m Try.prog l #[.int .i64 (x.2 : Int), .int .i64 x.1] W1 fun e W' =>
      (e = .returned (.bool true) ∧ J (pre ++ [x]) W' ∧ Kept3 n₀ (l + 1) (fun t => t = 33) W1 W') ∨ (e = .returned (.bool false) ∧ Jx (pre ++ [x]) W' ∧ KeepsFrom (l + 1) W1 W')) := hY
  clear hb hc1 hY hJ hJx hB
  gi_wp2
  gi_loopw [3] (fun i wr => ∃ k : Nat, k ≤ zs.length ∧ i = .int .i64 ((zs.length : Int) - 1 - k) ∧ J ((backs zs).take k) wr ∧ wr.heap[Bs]? = some (.cells #[.slice a zs.length cap] 33) ∧ Below n₀ W wr) (fun i _ => (intOf i + 1).toNat)
  case atStart => exact ⟨0, Nat.zero_le _, by simp, h0, hB1, Below.refl _ _⟩
  case round =>
    obtain ⟨k, hk, rfl, hJs, hBr, hnx⟩ := hrel
    by_cases hlt : k < zs.length
    · have hkb : k < (backs zs).length := by rw [backs_length]; exact hlt
      obtain ⟨b, off, rfl, hb, hcc⟩ := HC.out (zs.length - 1 - k) (by omega)
      have q := (hnx.cell (p := ⟨b, off + (zs.length - 1 - k), none⟩) hb).trans hcc
      have q2 : wr.cell? ⟨Bs, 0, none⟩ = some (.slice (some ⟨b, off, none⟩) zs.length cap) := by simp [World.cell?, hBr]
      have HT : Hid ((backs zs).take (k + 1) = (backs zs).take k ++ [(zs[zs.length - 1 - k], zs.length - 1 - k)]) := by
        show _ = _
        rw [List.take_succ_eq_append_getElem hkb, backs_get hlt hkb]
      have hy := HY.out (n - 1) ((backs zs).take k) (zs[zs.length - 1 - k], zs.length - 1 - k) wr hJs (by rw [← HT.out]; exact List.take_prefix _ _)
      rw [← HT.out] at hy
      obtain ⟨fn, tmps, assign, body, hy, hR⟩ := hy
      obtain ⟨d, hd⟩ : ∃ d : Nat, Hid (zs.length - 1 - k = d) := ⟨_, rfl⟩
      have hdi : (zs.length : Int) - 1 - k = d := by have := hd.out; omega
      have hdl : d < zs.length := by have := hd.out; omega
      simp only [hd.out] at hy q hR
      rw [hdi]
      clear hcc
      gi_wp2
      refine ⟨fun h => by simp [Fence.wide] at h, hR.mono ?_⟩
      rintro e W3 (⟨rfl, hJ3, hk3⟩ | ⟨rfl, hJx3, hk3⟩)
      · gi_wp2
        go_roundw
        case rel => exact ⟨k + 1, by omega, by have := hd.out; simp; omega, hJ3, hk3.typed _ _ _ _ rfl hBr, hnx.trans hk3.below⟩
        case measure => simp [intOf]
      · gi_wp2
        refine bodyPost_ret (results_none rfl _ _ _) rfl ?_
        refine ⟨⟨_, rfl⟩, .inr ⟨(backs zs).take k, (zs[zs.length - 1 - k], zs.length - 1 - k), ?_, ?_⟩⟩
        · rw [← HT.out]; exact List.take_prefix _ _
        · rw [← HT.out]; exact hJx3
    · have e : k = zs.length := by omega
      have HJ : Hid (J (backs zs) wr) := by
        rw [List.take_of_length_le (by rw [backs_length]; omega)] at hJs
        exact hJs
      subst e
      gi_wp2
      go_end0
      exact ⟨⟨_, rfl⟩, .inl HJ.out⟩
end Go.Proofs.Ytghpekijimoicaa
