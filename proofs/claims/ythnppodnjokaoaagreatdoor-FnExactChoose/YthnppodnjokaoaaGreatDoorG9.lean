/-
  Contracts and plain mathematics, joined: LoopMarks, ValSeqT, MaxIdx, SecMath, Concat, FlagsEq, FlagT, LeastMath, EmBase, LPartsP, LPartsE, EmptiesOf. No statement is proved here.
-/
import Derived.Test.YthnppodnjokaoaaGreatDoorG8
import Derived.Deep.LoopGhost
import Derived.Test.YthnppodnjokaoaaGreatDoorG2
import Derived.Test.YthnppodnjokaoaaGreatDoorG3
import Derived.Test.YthnppodnjokaoaaGreatDoorChecked
import Derived.Test.YthnppodnjokaoaaGreatDoorG7
import Derived.Lib.AppendZeros
import Derived.Test.YthnppodnjokaoaaGreatDoorG1
import Derived.Test.YthnppodnjokaoaaGreatDoorG5
namespace Go.Proofs.YthnppodnjokaoaaGreatDoor
open Go.RowKit Go.Shelf

section
variable {P : Program} {F : Fence} {n : Nat}
/-- A loop whose invariant bears a number that each round lowers. -/
theorem wpIn_loop_num {Q : Exit → Act → World → Prop} {a : Act} {w : World} {c : Code} (I : Nat → Act → World → Prop) (n₀ : Nat) (h₀ : I n₀ a w)
    (round : ∀ k a w, I k a w → ∀ K : Act → World → Prop, (∀ k' a' w', k' < k → I k' a' w' → K a' w') → c.wpIn F n P (Exit.then K Q) a w) : (Code.loop c).wpIn F n P Q a w := by
  refine wpIn_loop (fun a w => ∃ k, I k a w) (fun a w => leastOf (fun k => I k a w)) ⟨n₀, h₀⟩ fun a w hI => ?_
  have h1 := (leastOf_spec hI).1
  exact round _ a w h1 _ fun k' a' w' hlt h2 => ⟨⟨k', h2⟩, Nat.lt_of_le_of_lt ((leastOf_spec ⟨k', h2⟩).2 k' h2) hlt⟩

/-- The marks of ranges over functions. -/
def marksOf (ds : List Nat) : List Deferred := ds.map fun D => { target := .collected D, args := #[] }
theorem marksOf_cons (D : Nat) (ds : List Nat) : ({ target := .collected D, args := #[] } : Deferred) :: marksOf ds = marksOf (D :: ds) := rfl
/-- Blocks that are there for the rounds' deferred calls, none twice. -/
def MarksIn (B : Nat) (ds : List Nat) (w : World) : Prop := ds.Nodup ∧ ∀ D ∈ ds, B ≤ D ∧ w.heap[D]? = some (.deferred (some []))
theorem MarksIn.nil (B : Nat) (w : World) : MarksIn B [] w := ⟨List.nodup_nil, fun _ h => by simp at h⟩
theorem MarksIn.kept {B b : Nat} {ds : List Nat} {w w' : World} (h : MarksIn B ds w) (hb : b ≤ B) (hk : KeepsFrom b w w') : MarksIn B ds w' := ⟨h.1, fun D hD => ⟨(h.2 D hD).1, hk.same D _ (by have := (h.2 D hD).1; omega) (h.2 D hD).2 rfl⟩⟩
theorem MarksIn.within {B : Nat} {ds : List Nat} {w w' : World} {S : Nat → Prop} (h : MarksIn B ds w) (hw : Within w w' S) (hn : ∀ k o, w.heap[k]? = some o → o.isCells = false → ¬ S k) : MarksIn B ds w' := ⟨h.1, fun D hD => ⟨(h.2 D hD).1, hw.same (h.2 D hD).2 (hn D _ (h.2 D hD).2 rfl)⟩⟩
theorem MarksIn.push {B D : Nat} {ds : List Nat} {w w0 : World} (h : MarksIn B ds w) (h0 : ∀ x ∈ ds, x < w0.heap.size) (hD : w0.heap.size ≤ D) (hB : B ≤ D) (hd : w.heap[D]? = some (.deferred (some []))) : MarksIn B (D :: ds) w :=
  ⟨List.nodup_cons.2 ⟨fun hm => by have := h0 D hm; omega, h.1⟩, fun x hx => by
    rcases List.mem_cons.1 hx with rfl | hx
    · exact ⟨hB, hd⟩
    · exact h.2 x hx⟩
theorem MarksIn.lt {B : Nat} {ds : List Nat} {w : World} (h : MarksIn B ds w) : ∀ x ∈ ds, x < w.heap.size := fun x hx => (Array.getElem?_eq_some_iff.1 (h.2 x hx).2).1

theorem leaves_marks {fn : Func} {tmps : Array Value} {R : Ending → World → Prop} {B : Nat} : ∀ (ds : List Nat) (w : World), MarksIn B ds w → (∀ w', Within w w' (fun k => B ≤ k ∧ ∃ o, w.heap[k]? = some o ∧ o.isCells = false) → LeavesInM F n P fn tmps R [] .returning w') → LeavesInM F n P fn tmps R (marksOf ds) .returning w
  | [], w, _, h => h w (Within.refl _ _)
  | D :: ds, w, hm, h => by
    have hD := hm.2 D (by simp)
    refine ⟨by simp, .inl ⟨D, _, rfl, run_takeDeferred hD.2, ?_⟩⟩
    have hnd := List.nodup_cons.1 hm.1
    have hw : Within w (w.putObj D (.deferred none)) (fun k => k = D) := within_put _
    refine leaves_marks ds _ ⟨hnd.2, fun x hx => ⟨(hm.2 x (by simp [hx])).1, hw.same (hm.2 x (by simp [hx])).2 (fun e => hnd.1 (e ▸ hx))⟩⟩ fun w' hw' => h w' ?_
    have h1 : Within w (w.putObj D (.deferred none)) (fun k => B ≤ k ∧ ∃ o, w.heap[k]? = some o ∧ o.isCells = false) := hw.mono (fun k e => by subst e; exact ⟨hD.1, _, hD.2, rfl⟩)
    refine ⟨hw'.os.trans h1.os, hw'.tape.trans h1.tape, hw'.output.trans h1.output, Nat.le_trans h1.size hw'.size, fun k hk hn => ?_⟩
    by_cases e : k = D
    · subst e; exact absurd ⟨hD.1, _, hD.2, rfl⟩ hn
    · have e1 := h1.block k hk hn
      have hk2 : k < (w.putObj D (.deferred none)).heap.size := by simpa using hk
      refine (hw'.block k hk2 (fun hx => ?_)).trans e1
      rw [e1] at hx
      exact hn hx
end
end Go.Proofs.YthnppodnjokaoaaGreatDoor
namespace Go.Proofs.YthnppodnjokaoaaGreatDoor
open Go.RowKit Go.Shelf

attribute [local go_sem] Oper.semAt_some wide_fn wide_fn_in wide_depth wide_depth_in

theorem within_belowV {w w' : World} {tv : TypeId → Prop} {base n : Nat} (h : Within w w' (Theirs tv base w)) (hn : n ≤ base) (hw : n ≤ w.heap.size) : Below n w w' :=
  ⟨h.os, h.tape, h.output, h.size, fun k hk => h.block k (Nat.lt_of_lt_of_le hk hw) (fun ht => by have := ht.1; omega)⟩
theorem appended_withinV {W w1 : World} {B : Nat} {v v' : Value} {tmp : Obj} (hgrow : (W.alloc tmp).grownBy w1 v.ownBlock) : Within W (w1.setCell ⟨B, 0, none⟩ v') (fun k => k = B ∨ v.ownBlock = some k) := by
  have hw1 : Within W w1 (fun k => v.ownBlock = some k) := (within_none ((Below.refl _ _).alloc (Nat.le_refl _) tmp) _).trans (Within.of_grown hgrow (fun k e => e))
  have hw2 : Within w1 (w1.setCell ⟨B, 0, none⟩ v') (fun k => k = B) := by
    refine Within.setCell (Within.refl _ _) _ _ ?_
    rfl
  exact (hw1.mono (fun k h => .inr h)).trans (hw2.mono (fun k h => .inl h))
theorem ownsRow_staysV {W X : World} {n₀ b : Nat} {e : TypeId} {size : Nat} {v : Value} {k : Nat} {xs : List Value} {tv : TypeId → Prop} (h : W.ownsRow n₀ e size v k xs) (hw : Within W X (Theirs tv b W)) (he : ¬ tv e) : X.ownsRow n₀ e size v k xs := by
  refine ⟨h.1, ?_⟩
  rcases h.2 with hx | ⟨g, cap, cur, rfl, hb, hg, r⟩
  · exact .inl hx
  · refine .inr ⟨g, cap, cur, rfl, hb, hw.same hg (fun ⟨_, o, ho, hc⟩ => ?_), r⟩
    rw [hg] at ho
    cases ho
    rcases hc with hc | ⟨_, _, _, ht, e2⟩
    · cases hc
    · cases e2; exact he ht
theorem new_one_cV (W : World) (x : Value) (t : TypeId) : ∀ (j : Nat) (u : Value), ([x] : List Value)[j]? = some u → (W.alloc (.cells #[x] t)).cell? ((⟨W.heap.size, 0, none⟩ : Addr).add j) = some u := by
  intro j u hu
  have e := Lib.cell_of_heap (heap_alloc_new W (.cells #[x] t)) j
  rw [Addr.add_lit, Nat.zero_add, e]
  simpa using hu

theorem values_any (a : Option Addr) (len cap : Nat) (w : World) :
    Calls Tryz.prog 40 #[.slice a len cap] w fun e w' => e = .returned (.func (.func 56) #[] #[.pointer (some ⟨w.heap.size, 0, none⟩)]) ∧ w' = w.alloc (.cells #[.slice a len cap] 25) := by
  go_enter Tryz.func40, Tryz.ntmps40
  go_wp2
  go_ret
  exact ⟨rfl, rfl⟩

set_option maxRecDepth 100000 in
set_option maxHeartbeats 2000000 in
theorem values_seq (b off cap Bs : Nat) (zs : List Int) (hz : zs.length ≤ 1048576) (w : World) (hBl : Bs < w.heap.size) (hbl : b < w.heap.size) (hBs : w.cell? ⟨Bs, 0, none⟩ = some (.slice (some ⟨b, off, none⟩) zs.length cap)) (hc : ∀ j (hj : j < zs.length), w.cell? ⟨b, off + j, none⟩ = some (.int .i64 zs[j])) :
    SeqT Tryz.prog 56 #[.pointer (some ⟨Bs, 0, none⟩)] (fun x : Int => #[Value.int .i64 x]) zs (fun _ => False) (fun _ => False) w.heap.size w := by
  intro n l J Jx W hW hl hJ hJx hY h0
  refine callsIn_of_wp Tryz.func56 rfl trivial ?_ rfl
  simp only [Tryz.ntmps56, List.size_toArray, List.length_cons, List.length_nil, Nat.reduceAdd, Nat.reduceSub, Array.replicate_succ, Array.replicate_zero, List.push_toArray, List.append_toArray, List.nil_append, List.cons_append]
  have q0 := (hW.cell (p := ⟨Bs, 0, none⟩) hBl).trans hBs
  gi_wp2
  gi_loopw [7] (fun i wr => ∃ k : Nat, k ≤ zs.length ∧ i = .int .i64 k ∧ J (zs.take k) wr ∧ Below w.heap.size w wr) (fun i _ => zs.length - (intOf i).toNat)
  case atStart => exact ⟨0, Nat.zero_le _, rfl, h0, hW⟩
  case round =>
    obtain ⟨k, hk, rfl, hJs, hnx⟩ := hrel
    by_cases hlt : k < zs.length
    · have q := (hnx.cell (p := ⟨b, off + k, none⟩) hbl).trans (hc k hlt)
      have HT : Hid (zs.take (k + 1) = zs.take k ++ [zs[k]]) := by show _ = _; rw [List.take_succ_eq_append_getElem hlt]
      have HP : Hid (zs.take k ++ [zs[k]] <+: zs) := by show _ <+: _; rw [← HT.out]; exact List.take_prefix _ _
      obtain ⟨fn, tmps, assign, body, hy, hR⟩ := hY (n - 1) _ zs[k] wr hJs HP.out
      rw [← HT.out] at hR
      gi_wp2
      refine hR.mono ?_
      rintro e W3 (⟨rfl, hJ3, hk3⟩ | ⟨rfl, hJx3, hk3⟩)
      · gi_wp2
        go_roundw
        case rel => exact ⟨k + 1, by omega, by simp, hJ3, hnx.trans hk3.below⟩
        case measure => simp [intOf]; omega
      · gi_wp2
        refine bodyPost_ret (results_none rfl _ _ _) rfl ?_
        exact ⟨⟨_, rfl⟩, .inr ⟨zs.take k, zs[k], HP.out, by rw [← HT.out]; exact hJx3⟩⟩
    · have e : k = zs.length := by omega
      rw [e, List.take_length] at hJs
      gi_wp2
      go_end0
      exact ⟨⟨_, rfl⟩, .inl hJs⟩

set_option maxRecDepth 100000 in
set_option maxHeartbeats 4000000 in
theorem appendSeq_any (b off cap Bs : Nat) (zs : List Int) (hz : zs.length ≤ 1048576) (w : World) (hBl : Bs < w.heap.size) (hbl : b < w.heap.size) (hBs : w.cell? ⟨Bs, 0, none⟩ = some (.slice (some ⟨b, off, none⟩) zs.length cap)) (hc : ∀ j (hj : j < zs.length), w.cell? ⟨b, off + j, none⟩ = some (.int .i64 zs[j])) :
    Calls Tryz.prog 68 #[.slice none 0 0, .func (.func 56) #[] #[.pointer (some ⟨Bs, 0, none⟩)]] w fun e w' => ∃ v, e = .returned v ∧ OwnInts w' w.heap.size 3 v zs ∧ Below w.heap.size w w' := by
  obtain ⟨i0, hi0, hz0, hz1, hz2⟩ := info_parts Tryz.infoInt
  refine (callsIn_wide (n := 0)).1 (callsIn_of_wp_marks Tryz.func68 rfl trivial ?_ rfl)
  simp only [Tryz.ntmps68, List.size_toArray, List.length_cons, List.length_nil, Nat.reduceAdd, Nat.reduceSub, Array.replicate_succ, Array.replicate_zero, List.push_toArray, List.append_toArray, List.nil_append, List.cons_append]
  gi_wp2
  obtain ⟨Wz, hWz⟩ : ∃ Wz, w.alloc (.cells #[.slice none 0 0] 25) = Wz := ⟨_, rfl⟩
  rw [hWz]
  have bz : Below w.heap.size w Wz := by rw [← hWz]; exact (Below.refl _ _).alloc (Nat.le_refl _) _
  have hz1' : w.heap.size + 1 ≤ Wz.heap.size := by rw [← hWz]; simp
  have ho0 : Boxed Wz w.heap.size 25 (.slice none 0 0) := by rw [← hWz]; exact Boxed.new w 25 (.slice none 0 0)
  have hseq := values_seq b off cap Bs zs hz w hBl hbl hBs hc
  clear hWz
  refine wpIn_rangeT (gf := 56) (lb := #[.pointer (some ⟨Bs, 0, none⟩)]) rfl (enters_of Tryz.func56 (by kernel_rfl) rfl) hseq bz (by omega) (fun _ => rfl)
    (fun pre W' => (∃ v, Boxed W' w.heap.size 25 v ∧ OwnInts W' w.heap.size 3 v pre) ∧ Below w.heap.size w W' ∧ Wz.heap.size ≤ W'.heap.size)
    (fun _ _ _ => False)
    ?hI (fun _ _ _ _ hx _ => hx) ⟨⟨_, ho0, OwnInts.nil _ _ _⟩, bz, Nat.le_refl _⟩
    (fun x a' W' => a' = { tmps := #[.slice none 0 0, .func (.func 56) #[] #[.pointer (some ⟨Bs, 0, none⟩)], .pointer (some ⟨w.heap.size, 0, none⟩), undef, .slice none 0 0, .int .i64 x, .func (.func 56) #[] #[.pointer (some ⟨Bs, 0, none⟩)], .int .i64 x, undef, undef, undef, undef, undef], defers := [] }) ?hAx ?assign ?body ?done ?stop
  case hI =>
    rintro pre W' W'' ⟨⟨v, hv, ho⟩, hb, hsz⟩ hw
    refine ⟨⟨v, ?_, ownsRow_staysV ho hw (fun h => h)⟩, hb.trans (within_belowV hw (by omega) (by omega)), Nat.le_trans hsz hw.size⟩
    exact hw.same hv (fun hk => by have := hk.1; omega)
  case hAx =>
    rintro x a' W' l' r r' h1 hr
    exact h1
  case assign =>
    intro l2 m pre x W' K2 hI hp hK2
    gi_wp2
    exact hK2 _ _ (Below.refl _ _) rfl
  case body =>
    rintro l2 m pre y a' W' hl2 hl3 ⟨⟨v, hv, ho⟩, hb, hsz⟩ rfl hp
    have hpl : pre.length + 1 ≤ 2097152 := by
      have := hp.length_le
      rw [List.length_append, List.length_singleton] at *
      omega
    have hc := hv.cell
    have hb1 : w.heap.size < W'.heap.size := by omega
    have hww : w.heap.size ≤ W'.heap.size := by omega
    have hrow : W'.ownsRow w.heap.size 3 1 v pre.length (pre.map (Value.int .i64)) := ho
    gi_wp2_with (first
      | (gi_at_builtin; refine wpListIn_append_own _ rfl _ _ 25 rfl w.heap.size 3 i0 (.int .i64 0) 1 8 Tryz.underlying25 hi0 hz0 hz1 hz2 rfl (by decide) _ _ _ rfl (World.ownsRow.alloc hrow _) ⟨W'.heap.size, 0, none⟩ 1 1 [.int .i64 y] rfl rfl (new_one_cV _ _ _) (by simp [Value.oneCell']) (by simp [maxLen]; omega) (by omega) (by simp; omega) ?_; intro v' w4 hown' hgrow _; obtain ⟨g4, cap4, rfl⟩ := ownsRow_succ hown'; obtain ⟨hv4, hv5, hr5, hk5, hb5⟩ := hv.appended (by decide) hrow hww (by omega) hown' hgrow; have hc4 := hv4.cell; have hf4 := hv4.frozen))
    refine ⟨⟨?_, fun k cur t p ht hk2 => ht.elim, hk5.from _⟩, ⟨_, hv5, ?_⟩, hb.trans hb5, Nat.le_trans hsz hk5.size⟩
    · exact hb5
    · unfold OwnInts
      simpa using hr5
  case done =>
    rintro D W' hD ⟨⟨v, hv, ho⟩, hb, hsz⟩ hd
    have hc := hv.cell
    have HO : Hid (OwnInts W' w.heap.size 3 v zs) := ho
    obtain ⟨av, cv, rfl, _⟩ := ho.shape
    clear ho
    gi_wp2
    refine leaves_marks (B := Wz.heap.size) [D] W' ⟨by simp, fun x hx => ?_⟩ fun w' hw' => ⟨_, results_tmp rfl _ _ _, _, rfl, ?_⟩
    · simp at hx; subst hx; exact ⟨hD, hd⟩
    · have hst : Within W' w' (Theirs (fun _ => False) Wz.heap.size W') := hw'.mono (fun k hk => ⟨hk.1, hk.2.elim fun o ho => ⟨o, ho.1, .inl ho.2⟩⟩)
      exact ⟨ownsRow_staysV HO.out hst (fun e => e), hb.trans (within_belowV hst (by omega) (by omega))⟩
  case stop =>
    rintro D c pre x W' _ _ h _
    exact h.elim

theorem collect_any (b off cap Bs : Nat) (zs : List Int) (hz : zs.length ≤ 1048576) (w : World) (hBl : Bs < w.heap.size) (hbl : b < w.heap.size) (hBs : w.cell? ⟨Bs, 0, none⟩ = some (.slice (some ⟨b, off, none⟩) zs.length cap)) (hc : ∀ j (hj : j < zs.length), w.cell? ⟨b, off + j, none⟩ = some (.int .i64 zs[j])) :
    Calls Tryz.prog 54 #[.func (.func 56) #[] #[.pointer (some ⟨Bs, 0, none⟩)]] w fun e w' => ∃ v, e = .returned v ∧ OwnInts w' w.heap.size 3 v zs ∧ Below w.heap.size w w' := by
  have X := appendSeq_any b off cap Bs zs hz w hBl hbl hBs hc
  clear hBs hc
  go_enter Tryz.func54, Tryz.ntmps54
  go_wp2_with fail
  refine X.mono ?_
  rintro e w1 ⟨v, rfl, hO, hb⟩
  go_wp2
  go_ret
  exact ⟨v, rfl, hO, hb⟩
end Go.Proofs.YthnppodnjokaoaaGreatDoor
namespace Go.Proofs.YthnppodnjokaoaaGreatDoor
open Go.RowKit

theorem getD_lt {L : List Int} {a : Nat} (h : a < L.length) : L.getD a 0 = L[a] := by rw [List.getD_eq_getElem?_getD, List.getElem?_eq_getElem h, Option.getD_some]
theorem bestTo_first (L : List Int) (a : Nat) (ha : a ≤ L.length) : (∀ j, j < a → L.getD j 0 ≤ L.getD (bestTo L a) 0) ∧ ∀ j, j < bestTo L a → L.getD j 0 ≠ L.getD (bestTo L a) 0 := by
  induction a with
  | zero => exact ⟨fun j hj => by omega, fun j hj => by simp [bestTo] at hj⟩
  | succ a ih =>
    obtain ⟨i1, i2⟩ := ih (by omega)
    rw [bestTo]
    split
    · rename_i h
      refine ⟨fun j hj => ?_, fun j hj e => ?_⟩
      · by_cases e : j = a
        · rw [e]; exact Int.le_refl _
        · have := i1 j (by omega); omega
      · have := i1 j hj; omega
    · rename_i h
      refine ⟨fun j hj => ?_, i2⟩
      by_cases e : j = a
      · rw [e]; omega
      · exact i1 j (by omega)

set_option maxHeartbeats 1000000 in
theorem maxS_any (L : List Int) (a0 : Option Addr) (c0 : Nat) (w : World) (h : Reads w a0 L) (hp : 0 < L.length) (hl : L.length ≤ 1048576) :
    Calls Tryz.prog 26 #[.slice a0 L.length c0] w fun e w' => e = .returned (.int .i64 (L.getD (bestTo L L.length) 0)) ∧ w' = w := by
  obtain ⟨b, o, rfl, hb, hc⟩ := h.at hp
  have HC : Hid (∀ j (hj : j < L.length), w.cell? ⟨b, o + j, none⟩ = some (.int .i64 L[j])) := fun j hj => by rw [← getD_lt hj]; exact hc j hj
  have q0 := HC.out 0 hp
  simp only [Nat.add_zero] at q0
  have HR0 : Hid (L[0] = L.getD (bestTo L 1) 0) := by show _ = _; rw [bestTo_one, getD_lt hp]
  clear hc h
  generalize L[0] = y0 at *
  go_enter Tryz.func26, Tryz.ntmps26
  go_wp2
  go_loopw [3, 4] (fun u1 u2 wr => ∃ (a : Nat), 1 ≤ a ∧ a ≤ L.length ∧ u2 = .int .i64 (a : Int) ∧ u1 = .int .i64 (L.getD (bestTo L a) 0) ∧ wr = w) (fun _ u2 _ => L.length - (intOf u2).toNat)
  case atStart => exact ⟨1, Nat.le_refl _, hp, rfl, by rw [← HR0.out], rfl⟩
  case round =>
    obtain ⟨a, ha1, ha, rfl, rfl, hw⟩ := hrel
    replace hw := hw.symm
    subst hw
    by_cases hlt : a < L.length
    · have q := HC.out a hlt
      have HST : Hid (L.getD (bestTo L (a + 1)) 0 = if L.getD (bestTo L a) 0 < L[a] then L[a] else L.getD (bestTo L a) 0) := by
        show _ = _
        rw [bestTo, ← getD_lt hlt]
        split <;> rfl
      generalize L[a] = y at *
      generalize L.getD (bestTo L a) 0 = x at *
      go_wp2
      go_roundw
      case rel => exact ⟨a + 1, by omega, by omega, by go_num, by rw [HST.out], trivial⟩
      case measure => simp [intOf]; omega
    · have e : a = L.length := by omega
      subst e
      go_wp2
      go_ret
      exact ⟨rfl, rfl⟩

set_option maxHeartbeats 1000000 in
theorem indexS_any (L : List Int) (a0 : Option Addr) (c0 : Nat) (v : Int) (k : Nat) (w : World) (h : Reads w a0 L) (hk : k < L.length) (hv : L.getD k 0 = v) (hf : ∀ j, j < k → L.getD j 0 ≠ v) (hl : L.length ≤ 1048576) :
    Calls Tryz.prog 25 #[.slice a0 L.length c0, .int .i64 v] w fun e w' => e = .returned (.int .i64 (k : Int)) ∧ w' = w := by
  obtain ⟨b, o, rfl, hb, hc⟩ := h.at (Nat.lt_of_le_of_lt (Nat.zero_le _) hk)
  have HC : Hid (∀ j (hj : j < L.length), w.cell? ⟨b, o + j, none⟩ = some (.int .i64 (L.getD j 0))) := fun j hj => hc j hj
  have HV : Hid (L.getD k 0 = v) := hv
  have HF : Hid (∀ j, j < k → L.getD j 0 ≠ v) := hf
  clear hc h hv hf
  go_enter Tryz.func25, Tryz.ntmps25
  go_wp2
  go_loopw [8] (fun u1 wr => ∃ (a : Nat), a ≤ k ∧ u1 = .int .i64 (a : Int) ∧ wr = w) (fun u1 _ => L.length - (intOf u1).toNat)
  case atStart => exact ⟨0, Nat.zero_le _, rfl, rfl⟩
  case round =>
    obtain ⟨a, ha, rfl, hw⟩ := hrel
    replace hw := hw.symm
    subst hw
    have hlt : a < L.length := by omega
    have q := HC.out a hlt
    by_cases e : a = k
    · subst e
      rw [HV.out] at q
      go_wp2
      go_ret
      exact ⟨rfl, rfl⟩
    · have hne : L.getD a 0 ≠ v := HF.out a (by omega)
      generalize L.getD a 0 = y at *
      have hn2 : (v == y) = false := by simp; exact fun h => hne h.symm
      go_wp2
      go_roundw
      case rel => exact ⟨a + 1, by omega, by go_num, trivial⟩
      case measure => simp [intOf]; omega
end Go.Proofs.YthnppodnjokaoaaGreatDoor
namespace Go.Proofs.YthnppodnjokaoaaGreatDoor
open Go.RowKit

theorem secTo_up (L : List Int) (b a : Nat) : ∀ j, j < a → j ≠ b → L.getD j 0 ≤ secTo L b a := by
  induction a with
  | zero => intro j hj; omega
  | succ a ih =>
    intro j hj hjb
    rw [secTo]
    by_cases e : j = a
    · subst e
      rw [if_neg hjb]; omega
    · have := ih j (by omega) hjb
      split <;> omega
theorem secTo_in (L : List Int) (b a : Nat) : secTo L b a = -1 ∨ ∃ j, j < a ∧ j ≠ b ∧ L.getD j 0 = secTo L b a := by
  induction a with
  | zero => exact .inl rfl
  | succ a ih =>
    rw [secTo]
    split
    · rcases ih with h | ⟨j, h1, h2, h3⟩
      · exact .inl h
      · exact .inr ⟨j, by omega, h2, h3⟩
    · rename_i hb
      by_cases hm : secTo L b a ≤ L.getD a 0
      · exact .inr ⟨a, by omega, hb, by omega⟩
      · rw [show max (secTo L b a) (L.getD a 0) = secTo L b a by omega]
        rcases ih with h | ⟨j, h1, h2, h3⟩
        · exact .inl h
        · exact .inr ⟨j, by omega, h2, h3⟩
theorem perm_erase : ∀ (L : List Int) (b : Nat) (hb : b < L.length), L.Perm (L[b] :: L.eraseIdx b)
  | x :: l, 0, _ => by simp
  | x :: l, b + 1, hb => by
    have := perm_erase l b (by simpa using hb)
    simp only [List.getElem_cons_succ, List.eraseIdx_cons_succ]
    exact (List.Perm.cons x this).trans (List.Perm.swap _ _ _)
theorem mem_erase {L : List Int} {b : Nat} {y : Int} : y ∈ L.eraseIdx b ↔ ∃ j, j < L.length ∧ j ≠ b ∧ L.getD j 0 = y := by
  rw [List.mem_eraseIdx_iff_getElem]
  constructor
  · rintro ⟨j, hj, hjb, e⟩
    exact ⟨j, hj, hjb, by rw [getD_lt hj]; exact e⟩
  · rintro ⟨j, hj, hjb, e⟩
    exact ⟨j, hj, hjb, by rw [getD_lt hj] at e; exact e⟩
theorem second_sorted (L : List Int) (h : 2 ≤ L.length) (hr : ∀ y ∈ L, 0 ≤ y) : (L.mergeSort (fun x y => decide (x ≤ y))).getD (L.length - 2) 0 = secTo L (bestTo L L.length) L.length := by
  have hp := List.mergeSort_perm L (fun x y => decide (x ≤ y))
  have hs := List.pairwise_mergeSort (le := fun (x y : Int) => decide (x ≤ y)) (fun a b c h1 h2 => by simp at *; omega) (fun a b => by simp; omega) L
  generalize L.mergeSort (fun x y => decide (x ≤ y)) = S at *
  have hl : S.length = L.length := hp.length_eq
  have hb : bestTo L L.length < L.length := by have := bestTo_lt L L.length; omega
  obtain ⟨f1, _⟩ := bestTo_first L L.length (Nat.le_refl _)
  rw [getD_lt hb] at f1
  have hord : ∀ i j (hi : i < S.length) (hj : j < S.length), i < j → S[i] ≤ S[j] := fun i j hi hj hij => by
    have := List.pairwise_iff_getElem.1 hs i j hi hj hij
    simpa using this
  have hgt : ∀ y ∈ L, y ≤ L[bestTo L L.length] := fun y hy => by
    obtain ⟨j, hj, e⟩ := List.mem_iff_getElem.1 hy
    have := f1 j hj
    rw [getD_lt hj, e] at this
    exact this
  have hlast : S[S.length - 1] = L[bestTo L L.length] := by
    have h1 : S[S.length - 1] ≤ L[bestTo L L.length] := hgt _ (hp.mem_iff.1 (List.getElem_mem _))
    obtain ⟨j, hj, e⟩ := List.mem_iff_getElem.1 (hp.mem_iff.2 (List.getElem_mem hb))
    have h2 : S[j] ≤ S[S.length - 1] := by
      by_cases e2 : j = S.length - 1
      · subst e2; exact Int.le_refl _
      · exact hord j (S.length - 1) hj (by omega) (by omega)
    omega
  have hpe : (S.eraseIdx (S.length - 1)).Perm (L.eraseIdx (bestTo L L.length)) := by
    have h1 := (perm_erase S (S.length - 1) (by omega)).symm.trans (hp.trans (perm_erase L _ hb))
    rw [hlast] at h1
    exact List.Perm.cons_inv h1
  have hmem : ∀ y, y ∈ S.eraseIdx (S.length - 1) ↔ ∃ j, j < L.length ∧ j ≠ bestTo L L.length ∧ L.getD j 0 = y := fun y => hpe.mem_iff.trans mem_erase
  have hup : S.getD (L.length - 2) 0 ≤ secTo L (bestTo L L.length) L.length := by
    have h2 : S.getD (L.length - 2) 0 ∈ S.eraseIdx (S.length - 1) := mem_erase.2 ⟨L.length - 2, by omega, by omega, rfl⟩
    obtain ⟨j, hj, hjb, e⟩ := (hmem _).1 h2
    rw [← e]
    exact secTo_up L _ _ j hj hjb
  rcases secTo_in L (bestTo L L.length) L.length with e | ⟨j, hj, hjb, e⟩
  · have h2 : S.getD (L.length - 2) 0 ∈ S.eraseIdx (S.length - 1) := mem_erase.2 ⟨L.length - 2, by omega, by omega, rfl⟩
    have := hr _ (hp.mem_iff.1 ((List.eraseIdx_sublist S (S.length - 1)).subset h2))
    omega
  · obtain ⟨i, hi, hib, e2⟩ := mem_erase.1 ((hmem _).2 ⟨j, hj, hjb, e⟩)
    rw [getD_lt hi] at e2
    have : S[i] ≤ S[L.length - 2] := by
      by_cases e3 : i = L.length - 2
      · subst e3; exact Int.le_refl _
      · exact hord i (L.length - 2) hi (by omega) (by omega)
    rw [getD_lt (by omega : L.length - 2 < S.length)] at hup ⊢
    omega
end Go.Proofs.YthnppodnjokaoaaGreatDoor
namespace Go.Proofs.YthnppodnjokaoaaGreatDoor
open Go.RowKit

set_option maxHeartbeats 2000000 in
set_option maxRecDepth 100000 in
theorem growNil_any (n : Nat) (w : World) (hn : n ≤ 8388608) :
    Calls Tryz.prog 60 #[.slice none 0 0, .int .i64 (n : Int)] w fun e w' => ∃ v, e = .returned v ∧ OwnInts w' w.heap.size 3 v [] ∧ Below w.heap.size w w' := by
  by_cases h0 : n = 0
  · subst h0
    go_enter Tryz.func60, Tryz.ntmps60
    go_wp2
    go_ret
    exact ⟨_, rfl, OwnInts.nil _ _ _, Below.refl _ _⟩
  · have hpos : 0 < n := by omega
    have hI : (0 : Int) < (n : Int) := by omega
    obtain ⟨i, hi, hz0, hz1, hz2⟩ := info_parts Tryz.infoInt
    have hrun := fun ty => Go.Lib.run_append_nil_zeros (P := Tryz.prog) w 25 3 ty 3 i (.int .i64 0) .i64 .i64 Tryz.underlying25 Tryz.underlying3 hi hz0 n hpos (by omega) (by omega) (by rw [hz2]; omega)
    have hge := grownCap_ge w n 0 3
    have hle := grownCap_le_maxLen w n 0 3 (by unfold maxLen; omega)
    have HO : Hid (OwnInts (w.drew.alloc (.cells (Builtin.zeroCells (Value.int .i64 0).cells n ++ Builtin.zeroCells (Value.int .i64 0).cells (grownCap w n 0 3 - n)) 3)) w.heap.size 3 (.slice (some ⟨w.drew.heap.size, 0, none⟩) 0 (grownCap w n 0 3)) []) := World.ownsRow_made w.drew _ _ (by simp) hle (by simp [Builtin.zeroCells, Value.cells]; omega)
    have HB : Hid (Below w.heap.size w (w.drew.alloc (.cells (Builtin.zeroCells (Value.int .i64 0).cells n ++ Builtin.zeroCells (Value.int .i64 0).cells (grownCap w n 0 3 - n)) 3))) := (Below.refl _ _).drew.alloc (by simp) _
    generalize w.drew.alloc (.cells (Builtin.zeroCells (Value.int .i64 0).cells n ++ Builtin.zeroCells (Value.int .i64 0).cells (grownCap w n 0 3 - n)) 3) = w2 at *
    generalize grownCap w n 0 3 = cap at *
    unfold maxLen at hle
    go_enter Tryz.func60, Tryz.ntmps60
    go_wp2_with (at_builtin; refine Go.Lib.wpList_append_run _ rfl (.tmp 20) (.tmp 21) 25 3 rfl (.slice none 0 0) (.int .i64 (n : Int)) rfl rfl _ _ (hrun _) ?_)
    go_ret
    exact ⟨_, rfl, HO.out, HB.out⟩
set_option maxHeartbeats 4000000 in
set_option maxRecDepth 100000 in
theorem concat_any (b : Nat) (xs ys : List Int) (a5 : Option Addr) (c5 : Nat) (a6 : Option Addr) (c6 : Nat) (w : World) (q0 : w.cell? ⟨b, 0, none⟩ = some (.slice a5 xs.length c5)) (q1 : w.cell? ⟨b, 1, none⟩ = some (.slice a6 ys.length c6)) (hx : Reads w a5 xs) (hy : Reads w a6 ys) (hlx : xs.length ≤ 4194304) (hly : ys.length ≤ 4194304) :
    Calls Tryz.prog 43 #[.slice (some ⟨b, 0, none⟩) 2 2] w fun e w' => ∃ v, e = .returned v ∧ OwnInts w' w.heap.size 3 v (xs ++ ys) ∧ Below w.heap.size w w' := by
  have hbl := World.block_lt_of_cell? w _ q0
  have HQ0 : Hid (w.cell? ⟨b, 0, none⟩ = some (.slice a5 xs.length c5)) := q0
  have HQ1 : Hid (w.cell? ⟨b, 1, none⟩ = some (.slice a6 ys.length c6)) := q1
  have HX : Hid (Reads w a5 xs) := hx
  have HY : Hid (Reads w a6 ys) := hy
  clear hx hy q0 q1
  go_enter Tryz.func43, Tryz.ntmps43
  go_wp2
  go_loopw [3, 11] (fun s3 s11 wr => ∃ k m : Nat, s11 = .int .i64 (k : Int) ∧ s3 = .int .i64 (m : Int) ∧ ((k = 0 ∧ m = 0) ∨ (k = 1 ∧ m = xs.length) ∨ (k = 2 ∧ m = xs.length + ys.length)) ∧ wr = w) (fun _ s11 _ => 2 - (intOf s11).toNat)
  case atStart => exact ⟨0, 0, rfl, rfl, .inl ⟨rfl, rfl⟩, rfl⟩
  case round =>
    obtain ⟨k, m, rfl, rfl, hk, hwr⟩ := hrel
    replace hwr := hwr.symm
    subst hwr
    rcases hk with ⟨rfl, rfl⟩ | ⟨rfl, rfl⟩ | ⟨rfl, rfl⟩
    · have q0 := HQ0.out
      go_wp2
      go_roundw
      case rel => exact ⟨1, xs.length, by go_num, by go_num, .inr (.inl ⟨rfl, rfl⟩), trivial⟩
      case measure => simp [intOf]
    · have q1 := HQ1.out
      go_wp2
      go_roundw
      case rel => exact ⟨2, xs.length + ys.length, by go_num, by go_num, .inr (.inr ⟨rfl, rfl⟩), trivial⟩
      case measure => simp [intOf]
    · have X := growNil_any (xs.length + ys.length) w (by omega)
      have hsI : ¬ ((xs.length : Int) + (ys.length : Int)) < 0 := by omega
      rw [Int.natCast_add] at X
      go_wp2_with (go_at_call 60; refine X.mono ?_; rintro e w1 ⟨v1, rfl, hO1, hb1⟩)
      have HO1 : Hid (OwnInts w1 w.heap.size 3 v1 []) := hO1
      have HB1 : Hid (Below w.heap.size w w1) := hb1
      clear hO1 hb1 X
      go_loopw [6, 27] (fun s6 s27 wr => ∃ (k : Nat) (v : Value), s27 = .int .i64 (k : Int) ∧ s6 = v ∧ Hid ((k = 0 ∧ OwnInts wr w.heap.size 3 v []) ∨ (k = 1 ∧ OwnInts wr w.heap.size 3 v xs) ∨ (k = 2 ∧ OwnInts wr w.heap.size 3 v (xs ++ ys))) ∧ Hid (Below w.heap.size w wr)) (fun _ s27 _ => 2 - (intOf s27).toNat)
      case atStart => exact ⟨0, _, rfl, rfl, .inl ⟨rfl, HO1.out⟩, HB1⟩
      case round =>
        obtain ⟨k, v, rfl, hv, HK, HB⟩ := hrel
        replace hv := hv.symm
        subst hv
        obtain ⟨wA, hwA⟩ : ∃ y, y = wr := ⟨_, rfl⟩
        subst hwA
        clear HO1 HB1
        rcases HK.out with ⟨rfl, hO⟩ | ⟨rfl, hO⟩ | ⟨rfl, hO⟩
        · have q0 := (HB.out.cell (p := ⟨b, 0, none⟩) hbl).trans HQ0.out
          clear HK
          go_wp2_with (at_builtin; refine wpList_append_ints _ rfl (.tmp 31) (.tmp 32) 25 rfl w.heap.size 3 Tryz.underlying25 Tryz.infoInt _ _ rfl hO a5 xs.length c5 xs rfl rfl (HX.out.below HB.out) (by simp; omega) HB.out.size ?_)
          intro v5 w5 hO5 hg5
          have HB5 : Hid (Below w.heap.size w w5) := HB.out.grown hg5 HB.out.size (fun j hj => (hO.block j hj).1)
          have HK5 : Hid ((1 = 0 ∧ OwnInts w5 w.heap.size 3 v5 []) ∨ (1 = 1 ∧ OwnInts w5 w.heap.size 3 v5 xs) ∨ (1 = 2 ∧ OwnInts w5 w.heap.size 3 v5 (xs ++ ys))) := .inr (.inl ⟨rfl, by simpa using hO5⟩)
          clear hO hO5 hg5 q0
          go_wp2
          go_roundw
          case rel => exact ⟨1, v5, by go_num, rfl, HK5, HB5⟩
          case measure => simp [intOf]
        · have q1 := (HB.out.cell (p := ⟨b, 1, none⟩) hbl).trans HQ1.out
          clear HK
          go_wp2_with (at_builtin; refine wpList_append_ints _ rfl (.tmp 31) (.tmp 32) 25 rfl w.heap.size 3 Tryz.underlying25 Tryz.infoInt _ _ rfl hO a6 ys.length c6 ys rfl rfl (HY.out.below HB.out) (by omega) HB.out.size ?_)
          intro v5 w5 hO5 hg5
          have HB5 : Hid (Below w.heap.size w w5) := HB.out.grown hg5 HB.out.size (fun j hj => (hO.block j hj).1)
          have HK5 : Hid ((2 = 0 ∧ OwnInts w5 w.heap.size 3 v5 []) ∨ (2 = 1 ∧ OwnInts w5 w.heap.size 3 v5 xs) ∨ (2 = 2 ∧ OwnInts w5 w.heap.size 3 v5 (xs ++ ys))) := .inr (.inr ⟨rfl, hO5⟩)
          clear hO hO5 hg5 q1
          go_wp2
          go_roundw
          case rel => exact ⟨2, v5, by go_num, rfl, HK5, HB5⟩
          case measure => simp [intOf]
        · have HO : Hid (OwnInts wA w.heap.size 3 v (xs ++ ys)) := hO
          clear HK hO
          go_wp2
          go_ret
          exact ⟨_, rfl, HO.out, HB.out⟩
end Go.Proofs.YthnppodnjokaoaaGreatDoor
namespace Go.Proofs.YthnppodnjokaoaaGreatDoor
open Go.RowKit
section
variable {P : Program}
theorem run_items_of {e : TypeId} {c d : Nat} {xs ys : Array Value} {w : World} {r : Nat → Bool} : ∀ is : List Nat, (∀ i ∈ is, ∃ x y, (part e xs (i * c)).run P w = .ok x w ∧ (part e ys (i * c)).run P w = .ok y w ∧ (Op.equalIn d e x y).run P w = .ok (r i) w) → (Op.eqItems d e c xs ys is).run P w = .ok (is.all r) w
  | [], _ => by simp [Op.eqItems]
  | i :: is, h => by
    obtain ⟨x, y, h1, h2, h3⟩ := h i List.mem_cons_self
    have ih := run_items_of is (fun j hj => h j (List.mem_cons_of_mem _ hj))
    rw [Op.eqItems]
    simp only [Sem.run_bind, h1, h2, h3, Result.andThen_ok, List.all_cons]
    cases r i
    · simp
    · simp only [Bool.not_true, Bool.false_eq_true, if_false, Bool.true_and]; exact ih
theorem all_range_eq {us bs : List Bool} {n : Nat} (ha : us.length = n) (hb : bs.length = n) : ((List.range n).all fun i => us.getD i false == bs.getD i false) = decide (us = bs) := by
  rw [Bool.eq_iff_iff]
  simp only [List.all_eq_true, List.mem_range, beq_iff_eq, decide_eq_true_eq]
  constructor
  · intro h; exact list_ext_getD (by omega) (fun i hi => h i (by omega))
  · rintro rfl; exact fun _ _ => rfl
/-- Arrays of bools. -/
theorem run_eq_flags {ty e : TypeId} {n : Nat} {w : World} (d : Nat) (hu : P.underlying ty = some (.array n e)) (he : P.underlying e = some .bool) (hz : (P.info? e).map (·.size) = some 1) {us bs : List Bool} (ha : us.length = n) (hb : bs.length = n) :
    (Op.equalIn (d + 2) ty (aggB us) (aggB bs)).run P w = .ok (decide (us = bs)) w := by
  cases hq : P.info? e with
  | none => simp [hq] at hz
  | some j =>
    have hc : P.cellsOf e = 1 := by rw [Program.cellsOf, hz]; rfl
    unfold aggB
    rw [run_equalIn_array w (d + 1) _ _ hu hq, hc, run_items_of (r := fun i => us.getD i false == bs.getD i false), all_range_eq ha hb]
    intro i hi
    rw [List.mem_range] at hi
    have hx : (cellsB us)[i]? = some (.bool (us.getD i false)) := by rw [cellsB_get]; simp [List.getD, ha, hi]
    have hy : (cellsB bs)[i]? = some (.bool (bs.getD i false)) := by rw [cellsB_get]; simp [List.getD, hb, hi]
    have hg : (isAgg e).run P w = .ok false w := by simp [isAgg, run_underlying he]
    refine ⟨.bool (us.getD i false), .bool (bs.getD i false), ?_, ?_, run_equalIn_bool w d e _ _ he⟩
    · simp only [part, Sem.run_bind, hg, Result.andThen_ok, Nat.mul_one, hx]; rfl
    · simp only [part, Sem.run_bind, hg, Result.andThen_ok, Nat.mul_one, hy]; rfl
theorem chunks_eq {us bs : List Bool} {n m : Nat} (ha : us.length = m * n) (hb : bs.length = m * n) : ((List.range m).all fun i => decide ((us.drop (i * n)).take n = (bs.drop (i * n)).take n)) = decide (us = bs) := by
  rw [Bool.eq_iff_iff]
  simp only [List.all_eq_true, List.mem_range, decide_eq_true_eq]
  constructor
  · intro h
    apply list_ext_getD (by omega)
    intro i hi
    have hn : 0 < n := by
      rcases Nat.eq_zero_or_pos n with e | e
      · subst e; omega
      · exact e
    have h1 : i / n < m := by
      rw [Nat.div_lt_iff_lt_mul hn]; omega
    have h2 := h (i / n) h1
    have h3 := congrArg (fun l : List Bool => l.getD (i % n) false) h2
    have h4 := Nat.mod_lt i hn
    have h5 : i / n * n + i % n = i := by rw [Nat.mul_comm]; exact Nat.div_add_mod i n
    simpa [List.getD, List.getElem?_take, h4, h5] using h3
  · rintro rfl; exact fun _ _ => rfl
/-- Arrays of arrays of bools. -/
theorem run_eq_table {ty e e2 : TypeId} {n m : Nat} {w : World} (d : Nat) (hu : P.underlying ty = some (.array m e)) (he : P.underlying e = some (.array n e2)) (he2 : P.underlying e2 = some .bool) (hz : (P.info? e).map (·.size) = some n) (hz2 : (P.info? e2).map (·.size) = some 1) {us bs : List Bool} (ha : us.length = m * n) (hb : bs.length = m * n) :
    (Op.equalIn (d + 3) ty (aggB us) (aggB bs)).run P w = .ok (decide (us = bs)) w := by
  cases hq : P.info? e with
  | none => simp [hq] at hz
  | some j =>
    have hc : P.cellsOf e = n := by rw [Program.cellsOf, hz]; rfl
    have hs : (sizeOf e).run P w = .ok n w := by rw [run_sizeOf w hq, hc]
    have hg : (isAgg e).run P w = .ok true w := by simp [isAgg, run_underlying he]
    have hp : ∀ (cs : List Bool) (i : Nat), (part e (cellsB cs) (i * n)).run P w = .ok (aggB ((cs.drop (i * n)).take n)) w := by
      intro cs i
      have hx : (cellsB cs).extract (i * n) (i * n + n) = cellsB ((cs.drop (i * n)).take n) := by
        apply Array.ext_getElem?
        intro k
        rw [cellsB_get, Array.getElem?_extract]
        simp only [List.getElem?_take, List.getElem?_drop, cellsB_get]
        rw [cellsB_size]
        by_cases g : k < n
        · by_cases g2 : i * n + k < cs.length
          · rw [if_pos (by omega), if_pos g]
          · rw [if_neg (by omega), if_pos g, List.getElem?_eq_none (by omega)]; rfl
        · rw [if_neg (by omega), if_neg g]; rfl
      simp only [part, Sem.run_bind, hg, Result.andThen_ok, if_true, hs, hx]
      rfl
    unfold aggB
    rw [run_equalIn_array w (d + 2) _ _ hu hq, hc, run_items_of (r := fun i => decide ((us.drop (i * n)).take n = (bs.drop (i * n)).take n)), chunks_eq ha hb]
    intro i hi
    rw [List.mem_range] at hi
    have hin : i * n + n ≤ m * n := by
      have := Nat.mul_le_mul_right n (show i + 1 ≤ m by omega)
      rw [Nat.succ_mul] at this; exact this
    refine ⟨_, _, hp us i, hp bs i, run_eq_flags d he he2 hz2 ?_ ?_⟩
    · rw [List.length_take, List.length_drop]; omega
    · rw [List.length_take, List.length_drop]; omega
theorem exec_eqlB {ρ : Operand → Value} {o : Oper} {w : World} {ty rt : TypeId} {x y : Operand} {us bs : List Bool} (ho : o.op = .binOp .eql ty x y rt) (hx : ρ x = aggB us) (hy : ρ y = aggB bs) (hg : P.eqGuardType P.depth ty = false) (he : (Op.equalIn 10000 ty (aggB us) (aggB bs)).run P w = .ok (decide (us = bs)) w) :
    (execOp ρ o).run P w = .ok (.value (.bool (decide (us = bs)))) w := by
  unfold execOp
  unfold aggB at *
  simp only [ho, hx, hy, Sem.run_bind, run_eqGuard_agg w _ _ _ _ _ _ hg, Result.andThen_ok, run_eql_struct, he, Sem.run_pure]
/-- Parts are put together. -/
theorem zip_putL (cs : List Bool) : ∀ (bs : List Bool) (o k : Nat), ((cs.map Value.bool).zipIdx k).foldl (fun (ys : Array Value) (p : Value × Nat) => ys.setIfInBounds (o + p.2) p.1) (cellsB bs) = cellsB (putB bs (o + k) cs) := by
  induction cs with
  | nil => intro bs o k; rfl
  | cons v r ih =>
    intro bs o k
    have h := ih (bs.set (o + k) v) o (k + 1)
    have e : cellsB (bs.set (o + k) v) = (cellsB bs).setIfInBounds (o + k) (.bool v) := by simp [cellsB, List.map_set]
    rw [putB, show o + k + 1 = o + (k + 1) by omega, ← h, List.map_cons, List.zipIdx_cons, List.foldl_cons, e]
theorem zip_put (cs bs : List Bool) (o k : Nat) : ((cellsB cs).zipIdx k).foldl (fun (ys : Array Value) (p : Value × Nat) => ys.setIfInBounds (o + p.2) p.1) (cellsB bs) = cellsB (putB bs (o + k) cs) := by
  rw [← zip_putL cs bs o k, ← Array.foldl_toList]
  congr 1
  simp [cellsB]
theorem fill_put {place : Nat → Option (Nat × Nat)} {bs cs : List Bool} {i off : Nat} {rest : List (Nat × Value)} (h : place i = some (off, cs.length)) (hn : off + cs.length ≤ bs.length) : Instr.fill place (cellsB bs) ((i, aggB cs) :: rest) = Instr.fill place (cellsB (putB bs off cs)) rest := by
  have z := zip_put cs bs off 0
  rw [Instr.fill, h]
  simp only [aggB, Value.cells, cellsB_size]
  rw [if_neg (by simp; omega)]
  congr 1
end
end Go.Proofs.YthnppodnjokaoaaGreatDoor
namespace Go.Proofs.YthnppodnjokaoaaGreatDoor
open Go.RowKit

section
variable {P : Program}
theorem wpList_boxB {ops : Array Oper} {rest : List Oper} {o : Oper} {a : Act} {w : World} {Q : Exit → Act → World → Prop} (hgd : Region.wanted o (yielded ops a.tmps) = true) (ty : TypeId) (x : Operand) (ho : o.op = .box ty x) (bs : List Bool) (hx : a.eval x = aggB bs)
    (h : ∀ w', Bits w' w.heap.size ty bs → Below w.heap.size w w' → w'.heap.size = w.heap.size + 1 → wpList P ops Q rest (a.put o.dst (.pointer (some ⟨w.heap.size, 0, none⟩))) w') : wpList P ops Q (o :: rest) a w := by
  obtain ⟨w', h1, h2, h3, h4⟩ := exec_boxB (P := P) (w := w) ho hx
  exact wpList_val hgd h1 (h w' h2 h3 h4)
theorem wpList_allocB {ops : Array Oper} {rest : List Oper} {o : Oper} {a : Act} {w : World} {Q : Exit → Act → World → Prop} (hgd : Region.wanted o (yielded ops a.tmps) = true) (ty : TypeId) (ho : o.op = .alloc ty) (n : Nat) (hT : BitT P ty n)
    (h : ∀ w', Bits w' w.heap.size ty (List.replicate n false) → Below w.heap.size w w' → w'.heap.size = w.heap.size + 1 → wpList P ops Q rest (a.put o.dst (.pointer (some ⟨w.heap.size, 0, none⟩))) w') : wpList P ops Q (o :: rest) a w := by
  obtain ⟨w', h1, h2, h3, h4⟩ := exec_allocB (P := P) (w := w) (ρ := a.eval) ho hT
  exact wpList_val hgd h1 (h w' h2 h3 h4)
theorem wpList_loadB {ops : Array Oper} {rest : List Oper} {o : Oper} {a : Act} {w : World} {Q : Exit → Act → World → Prop} (hgd : Region.wanted o (yielded ops a.tmps) = true) (ty : TypeId) (x : Operand) (ho : o.op = .load ty x) (b off n : Nat) (t : TypeId) (bs : List Bool) (hx : a.eval x = .pointer (some ⟨b, off, none⟩)) (hT : BitT P ty n) (hB : Bits w b t bs) (hn : off + n ≤ bs.length)
    (h : wpList P ops Q rest (a.put o.dst (aggB ((bs.drop off).take n))) w) : wpList P ops Q (o :: rest) a w :=
  wpList_val hgd (exec_loadB ho hx hT hB hn) h
theorem wpList_loadW {ops : Array Oper} {rest : List Oper} {o : Oper} {a : Act} {w : World} {Q : Exit → Act → World → Prop} (hgd : Region.wanted o (yielded ops a.tmps) = true) (ty : TypeId) (x : Operand) (ho : o.op = .load ty x) (b : Nat) (t : TypeId) (bs : List Bool) (hx : a.eval x = .pointer (some ⟨b, 0, none⟩)) (hT : BitT P ty bs.length) (hB : Bits w b t bs)
    (h : wpList P ops Q rest (a.put o.dst (aggB bs)) w) : wpList P ops Q (o :: rest) a w :=
  wpList_val hgd (exec_loadW ho hx hT hB) h
theorem wpList_storeB {ops : Array Oper} {rest : List Oper} {o : Oper} {a : Act} {w : World} {Q : Exit → Act → World → Prop} (hgd : Region.wanted o (yielded ops a.tmps) = true) (ty : TypeId) (x y : Operand) (ho : o.op = .store ty x y) (b off : Nat) (t : TypeId) (bs cs : List Bool) (hx : a.eval x = .pointer (some ⟨b, off, none⟩)) (hy : a.eval y = aggB cs) (hT : BitT P ty cs.length) (hB : Bits w b t bs) (hn : off + cs.length ≤ bs.length)
    (h : ∀ w', Bits w' b t (putB bs off cs) → w.grownBy w' (some b) → wpList P ops Q rest (a.put o.dst undef) w') : wpList P ops Q (o :: rest) a w := by
  obtain ⟨w', h1, h2, h3⟩ := exec_storeB (P := P) ho hx hy hT hB hn
  exact wpList_unit hgd h1 (h w' h2 h3)
theorem wpList_eqlB {ops : Array Oper} {rest : List Oper} {o : Oper} {a : Act} {w : World} {Q : Exit → Act → World → Prop} (hgd : Region.wanted o (yielded ops a.tmps) = true) (ty rt : TypeId) (x y : Operand) (ho : o.op = .binOp .eql ty x y rt) (cs bs : List Bool) (hx : a.eval x = aggB cs) (hy : a.eval y = aggB bs) (hg : P.eqGuardType P.depth ty = false) (he : (Op.equalIn 10000 ty (aggB cs) (aggB bs)).run P w = .ok (decide (cs = bs)) w)
    (h : wpList P ops Q rest (a.put o.dst (.bool (decide (cs = bs)))) w) : wpList P ops Q (o :: rest) a w :=
  wpList_val hgd (exec_eqlB ho hx hy hg he) h
theorem wpList_indexB {ops : Array Oper} {rest : List Oper} {o : Oper} {a : Act} {w : World} {Q : Exit → Act → World → Prop} (hgd : Region.wanted o (yielded ops a.tmps) = true) (ty e : TypeId) (x y : Operand) (ho : o.op = .index ty x y) (bs : List Bool) (i : Nat) (hx : a.eval x = aggB bs) (hy : a.eval y = .int .i64 i) (hu : P.underlying ty = some (.array bs.length e)) (he : P.underlying e = some .bool) (hz : (P.info? e).map (·.size) = some 1) (hi : i < bs.length)
    (h : wpList P ops Q rest (a.put o.dst (.bool (bs.getD i false))) w) : wpList P ops Q (o :: rest) a w :=
  wpList_val hgd (exec_indexB ho hx hy hu he hz hi) h
end

theorem row_of {P : Program} {ty : TypeId} (h : (P.underlying ty).map TypeDesc.isRow = some true) : ∃ d, P.underlying ty = some d ∧ d.isRow = true := by
  cases hq : P.underlying ty with
  | none => simp [hq] at h
  | some d => exact ⟨d, rfl, by simpa [hq] using h⟩
set_option maxRecDepth 100000 in
theorem bt_flags : BitT Tryz.prog 119 27 := ⟨by kernel_rfl, row_of (by kernel_rfl)⟩
set_option maxRecDepth 100000 in
theorem bt_table : BitT Tryz.prog 135 540 := ⟨by kernel_rfl, row_of (by kernel_rfl)⟩
theorem bool_size : (Tryz.prog.info? 4).map (·.size) = some 1 := by kernel_rfl
theorem u_flags : Tryz.prog.underlying 119 = some (.array 27 4) := by kernel_rfl
theorem u_bool : Tryz.prog.underlying 4 = some .bool := by kernel_rfl

/-- The numbers below k whose flag is up. -/
def numsB (f : Nat → Bool) : Nat → List Int
  | 0 => []
  | k + 1 => if f k then numsB f k ++ [(k : Int)] else numsB f k
theorem numsB_len (f : Nat → Bool) (k : Nat) : (numsB f k).length ≤ k := by
  induction k with
  | zero => simp [numsB]
  | succ k ih =>
    rw [numsB]
    split
    · rw [List.length_append, List.length_singleton]; omega
    · omega
theorem mem_numsB {f : Nat → Bool} {k : Nat} {x : Int} : x ∈ numsB f k ↔ ∃ n : Nat, n < k ∧ x = n ∧ f n = true := by
  induction k with
  | zero => simp [numsB]
  | succ k ih =>
    rw [numsB]
    split
    · rename_i h
      rw [List.mem_append, ih, List.mem_singleton]
      constructor
      · rintro (⟨n, h1, h2, h3⟩ | rfl)
        · exact ⟨n, by omega, h2, h3⟩
        · exact ⟨k, by omega, rfl, h⟩
      · rintro ⟨n, h1, h2, h3⟩
        by_cases e : n = k
        · subst e; exact .inr h2
        · exact .inl ⟨n, by omega, h2, h3⟩
    · rename_i h
      rw [ih]
      constructor
      · rintro ⟨n, h1, h2, h3⟩; exact ⟨n, by omega, h2, h3⟩
      · rintro ⟨n, h1, h2, h3⟩
        refine ⟨n, ?_, h2, h3⟩
        by_cases e : n = k
        · subst e; exact absurd h3 h
        · omega
theorem numsB_sorted (f : Nat → Bool) (k : Nat) : (numsB f k).Pairwise (· < ·) := by
  induction k with
  | zero => exact List.Pairwise.nil
  | succ k ih =>
    rw [numsB]
    split
    · rw [List.pairwise_append]
      refine ⟨ih, List.pairwise_singleton _ _, fun x hx y hy => ?_⟩
      obtain ⟨n, h1, rfl, _⟩ := mem_numsB.1 hx
      rw [List.mem_singleton] at hy
      omega
    · exact ih

/-- All symbols of the row are of parts whose flag is up. -/
def allB (bs : List Bool) (row : List Int) : Bool := row.all fun x => decide (100 ≤ x ∧ x - 100 < 20) && bs.getD (x - 100).toNat false
theorem allB_step {p : Int → Bool} {xs : List Int} {k : Nat} (h : (xs.take k).all p = true) (hk : k < xs.length) (g : p xs[k] = true) : (xs.take (k + 1)).all p = true := by
  rw [List.take_succ_eq_append_getElem hk, List.all_append, h]; simp [g]
theorem allB_no {p : Int → Bool} {xs : List Int} {k : Nat} (hk : k < xs.length) (g : p xs[k] = false) : xs.all p = false := by
  rw [Bool.eq_false_iff]; intro h
  rw [List.all_eq_true] at h
  have := h _ (List.getElem_mem hk)
  rw [g] at this; cases this
theorem allB_end {p : Int → Bool} {xs : List Int} {k : Nat} (h : (xs.take k).all p = true) (hk : ¬ k < xs.length) : xs.all p = true := by
  rwa [List.take_of_length_le (by omega)] at h

set_option maxRecDepth 100000 in
theorem allOf_any (zs : List Int) (a : Option Addr) (c : Nat) (bs : List Bool) (w : World) (h : Reads w a zs) (hl : zs.length ≤ 1048576) (hz : ∀ z ∈ zs, -9223372036854775808 ≤ z ∧ z ≤ 9223372036854775807) (hb : bs.length = 27) :
    Calls Tryz.prog 113 #[.slice a zs.length c, aggB bs] w fun e w' => e = .returned (.bool (allB bs zs)) ∧ Below w.heap.size w w' := by
  have HZ : Hid (∀ z ∈ zs, -9223372036854775808 ≤ z ∧ z ≤ 9223372036854775807) := hz
  clear hz
  go_enter Tryz.func113, Tryz.ntmps113
  go_wp2_with (refine wpList_boxB rfl 119 _ rfl bs rfl ?_; intro w1 hB1 hb1 hs1)
  go_loop [9] (fun s => ∃ k : Nat, k ≤ zs.length ∧ s = .int .i64 k ∧ Hid ((zs.take k).all (fun x => decide (100 ≤ x ∧ x - 100 < 20) && bs.getD (x - 100).toNat false) = true)) (fun s => zs.length - (intOf s).toNat)
  case atStart => exact ⟨0, Nat.zero_le _, rfl, by show _ = _; simp⟩
  case round =>
    obtain ⟨k, hk, rfl, HK⟩ := hrel
    have h1 := h.below hb1
    by_cases hlt : k < zs.length
    · obtain ⟨b, off, rfl, hbb, hc⟩ := h1.at hlt
      have q1 := hc k hlt
      rw [List.getD_eq_getElem?_getD, List.getElem?_eq_getElem hlt, Option.getD_some] at q1
      have hr := HZ.out zs[k] (List.getElem_mem hlt)
      have HS : Hid (100 ≤ zs[k] ∧ zs[k] - 100 < 20 → bs.getD (zs[k] - 100).toNat false = true → (zs.take (k + 1)).all (fun x => decide (100 ≤ x ∧ x - 100 < 20) && bs.getD (x - 100).toNat false) = true) := fun g1 g2 => allB_step HK.out hlt (by simp only [decide_eq_true g1, Bool.true_and]; exact g2)
      have HN : Hid ((100 ≤ zs[k] ∧ zs[k] - 100 < 20 → bs.getD (zs[k] - 100).toNat false = false) → allB bs zs = false) := fun g1 => by
        refine allB_no hlt ?_
        by_cases g2 : 100 ≤ zs[k] ∧ zs[k] - 100 < 20
        · simp only [g1 g2, Bool.and_false]
        · simp only [decide_eq_false g2, Bool.false_and]
      clear hc h h1 HK
      generalize zs[k] = z at *
      by_cases z1 : 100 ≤ z
      · by_cases z2 : z - 100 < 20
        · obtain ⟨n, hn⟩ : ∃ n : Nat, z = 100 + (n : Int) := ⟨(z - 100).toNat, by omega⟩
          subst hn
          have hn2 : n < 27 := by omega
          have q2 := hB1.cell (n := n) (by omega)
          have e1 : (100 + (n : Int) - 100).toNat = n := by omega
          have e2 : (100 + (n : Int) - 100) = n := by omega
          rw [e1] at HS HN
          by_cases z3 : bs.getD n false = true
          · rw [z3] at q2
            have HSS : Hid _ := HS.out ⟨z1, z2⟩ z3
            clear HS HN z3
            go_wp2
            go_round
            case rel => exact ⟨k + 1, by omega, by go_num, HSS.out⟩
            case measure => simp [intOf]; omega
          · have z4 : bs.getD n false = false := by simpa using z3
            rw [z4] at q2
            have HNN : Hid (allB bs zs = false) := HN.out (fun _ => z4)
            clear HS HN z3 z4
            go_wp2
            go_ret
            exact ⟨ret_bool (by rw [HNN.out]), hb1⟩
        · have HNN : Hid (allB bs zs = false) := HN.out (fun g => absurd g.2 z2)
          clear HS HN
          go_wp2
          go_ret
          exact ⟨ret_bool (by rw [HNN.out]), hb1⟩
      · have HNN : Hid (allB bs zs = false) := HN.out (fun g => absurd g.1 z1)
        clear HS HN
        go_wp2
        go_ret
        exact ⟨ret_bool (by rw [HNN.out]), hb1⟩
    · have HE : Hid (allB bs zs = true) := allB_end HK.out hlt
      clear h h1 HK
      go_wp2
      go_ret
      exact ⟨ret_bool (by rw [HE.out]), hb1⟩
end Go.Proofs.YthnppodnjokaoaaGreatDoor
namespace Go.Proofs.YthnppodnjokaoaaGreatDoor
open Go.RowKit

section
variable (st : Nat → List Int → List Bool → List Bool)
def leI (k : Nat) (Q : List (List Int)) (T : List Bool) : Nat → List Bool
  | 0 => T
  | i + 1 => st k (Q.getD i []) (leI k Q T i)
def leK (P : List (List (List Int))) (T : List Bool) : Nat → List Bool
  | 0 => T
  | k + 1 => leI st k (P.getD k []) (leK P T k) (P.getD k []).length
/-- What holds at the start and is kept by each row's step holds of T. -/
def Grows (P : List (List (List Int))) (T0 T : List Bool) : Prop := ∀ I : List Bool → Prop, I T0 → (∀ k (hk : k < P.length) i (hi : i < P[k].length) T, I T → I (st k P[k][i] T)) → I T
end
variable {st : Nat → List Int → List Bool → List Bool}
theorem leI_next {k i : Nat} {Q : List (List Int)} {T : List Bool} (h : i < Q.length) : leI st k Q T (i + 1) = st k Q[i] (leI st k Q T i) := by
  have e : Q.getD i [] = Q[i] := by simp [List.getD, h]
  rw [leI, e]
theorem leK_next {P : List (List (List Int))} {T : List Bool} {k : Nat} (h : k < P.length) : leK st P T (k + 1) = leI st k P[k] (leK st P T k) P[k].length := by
  have e : P.getD k [] = P[k] := by simp [List.getD, h]
  rw [leK, e]
theorem Grows.refl (P : List (List (List Int))) (T : List Bool) : Grows st P T T := fun _ h _ => h
theorem Grows.leI {P : List (List (List Int))} {T0 T : List Bool} (h : Grows st P T0 T) {k : Nat} (hk : k < P.length) (i : Nat) (hi : i ≤ P[k].length) : Grows st P T0 (leI st k P[k] T i) := by
  intro I h0 hS
  induction i with
  | zero => exact h I h0 hS
  | succ i ih => rw [leI_next (by omega)]; exact hS k hk i (by omega) _ (ih (by omega))
theorem Grows.leK {P : List (List (List Int))} {T0 T : List Bool} (h : Grows st P T0 T) (k : Nat) (hk : k ≤ P.length) : Grows st P T0 (leK st P T k) := by
  induction k with
  | zero => exact h
  | succ k ih => rw [leK_next (by omega)]; exact (ih (by omega)).leI (by omega) _ (Nat.le_refl _)
/-- Steps that leave as it was or raise a flag. -/
def Raises (st : Nat → List Int → List Bool → List Bool) (P : List (List (List Int))) (n : Nat) : Prop := ∀ k (hk : k < P.length) i (hi : i < P[k].length) (T : List Bool), T.length = n → (st k P[k][i] T).length = n ∧ (st k P[k][i] T = T ∨ cntB T < cntB (st k P[k][i] T))
theorem Raises.leI {P : List (List (List Int))} {n : Nat} (h : Raises st P n) {k : Nat} (hk : k < P.length) {T : List Bool} (hT : T.length = n) (i : Nat) (hi : i ≤ P[k].length) : (leI st k P[k] T i).length = n ∧ (leI st k P[k] T i = T ∨ cntB T < cntB (leI st k P[k] T i)) := by
  induction i with
  | zero => exact ⟨hT, .inl rfl⟩
  | succ i ih =>
    have h1 := ih (by omega)
    have h2 := h k hk i (by omega) _ h1.1
    rw [leI_next (by omega)]
    refine ⟨h2.1, ?_⟩
    rcases h1.2 with e1 | e1
    · rcases h2.2 with e2 | e2
      · left; rw [e2]; exact e1
      · right; rw [e1] at e2 ⊢; exact e2
    · rcases h2.2 with e2 | e2
      · right; rw [e2]; exact e1
      · right; omega
theorem Raises.leK {P : List (List (List Int))} {n : Nat} (h : Raises st P n) {T : List Bool} (hT : T.length = n) (k : Nat) (hk : k ≤ P.length) : (leK st P T k).length = n ∧ (leK st P T k = T ∨ cntB T < cntB (leK st P T k)) := by
  induction k with
  | zero => exact ⟨hT, .inl rfl⟩
  | succ k ih =>
    have h1 := ih (by omega)
    have h2 := h.leI (k := k) (by omega) h1.1 _ (Nat.le_refl _)
    rw [leK_next (by omega)]
    refine ⟨h2.1, ?_⟩
    rcases h1.2 with e1 | e1
    · rcases h2.2 with e2 | e2
      · left; rw [e2]; exact e1
      · right; rw [e1] at e2 ⊢; exact e2
    · rcases h2.2 with e2 | e2
      · right; rw [e2]; exact e1
      · right; omega
/-- Where a round brings nothing new, no row's step does. -/
theorem Raises.fix {P : List (List (List Int))} {n : Nat} (h : Raises st P n) {T : List Bool} (hT : T.length = n) (e : Go.Proofs.YthnppodnjokaoaaGreatDoor.leK st P T P.length = T) {k : Nat} (hk : k < P.length) {i : Nat} (hi : i < P[k].length) : st k P[k][i] T = T := by
  have stepK : ∀ j, j < P.length → Go.Proofs.YthnppodnjokaoaaGreatDoor.leK st P T (j + 1) = Go.Proofs.YthnppodnjokaoaaGreatDoor.leK st P T j ∨ cntB (Go.Proofs.YthnppodnjokaoaaGreatDoor.leK st P T j) < cntB (Go.Proofs.YthnppodnjokaoaaGreatDoor.leK st P T (j + 1)) := by
    intro j hj
    rw [leK_next hj]
    exact (h.leI hj (h.leK hT j (by omega)).1 _ (Nat.le_refl _)).2
  have hK := steps_fix (m := cntB) (f := fun j => Go.Proofs.YthnppodnjokaoaaGreatDoor.leK st P T (min j P.length)) (fun j => by
    by_cases hj : j < P.length
    · have e1 : min (j + 1) P.length = j + 1 := by omega
      have e2 : min j P.length = j := by omega
      show Go.Proofs.YthnppodnjokaoaaGreatDoor.leK st P T (min (j + 1) P.length) = _ ∨ _
      rw [e1, e2]; exact stepK j hj
    · left
      have e1 : min (j + 1) P.length = P.length := by omega
      have e2 : min j P.length = P.length := by omega
      show Go.Proofs.YthnppodnjokaoaaGreatDoor.leK st P T (min (j + 1) P.length) = _
      rw [e1, e2]) (n := P.length) (by
      show Go.Proofs.YthnppodnjokaoaaGreatDoor.leK st P T (min P.length P.length) = Go.Proofs.YthnppodnjokaoaaGreatDoor.leK st P T (min 0 P.length)
      rw [Nat.min_self, Nat.zero_min]; exact e)
  have kk : ∀ j, j ≤ P.length → Go.Proofs.YthnppodnjokaoaaGreatDoor.leK st P T j = T := by
    intro j hj
    have := hK j hj
    have e1 : min j P.length = j := by omega
    have e2 : min 0 P.length = 0 := by omega
    simp only [e1, e2] at this
    exact this
  have e1 : Go.Proofs.YthnppodnjokaoaaGreatDoor.leI st k P[k] T P[k].length = T := by
    have := leK_next (st := st) (T := T) hk
    rw [kk (k + 1) (by omega), kk k (by omega)] at this
    exact this.symm
  have hI := steps_fix (m := cntB) (f := fun j => Go.Proofs.YthnppodnjokaoaaGreatDoor.leI st k P[k] T (min j P[k].length)) (fun j => by
    by_cases hj : j < P[k].length
    · have e1 : min (j + 1) P[k].length = j + 1 := by omega
      have e2 : min j P[k].length = j := by omega
      show Go.Proofs.YthnppodnjokaoaaGreatDoor.leI st k P[k] T (min (j + 1) P[k].length) = _ ∨ _
      rw [e1, e2, leI_next hj]; exact (h k hk j hj _ (h.leI hk hT j (by omega)).1).2
    · left
      have e1 : min (j + 1) P[k].length = P[k].length := by omega
      have e2 : min j P[k].length = P[k].length := by omega
      show Go.Proofs.YthnppodnjokaoaaGreatDoor.leI st k P[k] T (min (j + 1) P[k].length) = _
      rw [e1, e2]) (n := P[k].length) (by
      show Go.Proofs.YthnppodnjokaoaaGreatDoor.leI st k P[k] T (min P[k].length P[k].length) = Go.Proofs.YthnppodnjokaoaaGreatDoor.leI st k P[k] T (min 0 P[k].length)
      rw [Nat.min_self, Nat.zero_min]; exact e1)
  have ii : ∀ j, j ≤ P[k].length → Go.Proofs.YthnppodnjokaoaaGreatDoor.leI st k P[k] T j = T := by
    intro j hj
    have := hI j hj
    have e1 : min j P[k].length = j := by omega
    have e2 : min 0 P[k].length = 0 := by omega
    simp only [e1, e2] at this
    exact this
  have := ii (i + 1) (by omega)
  rw [leI_next hi, ii i (by omega)] at this
  exact this
/-- The flags of a set of numbers; of sets of such. -/
def flagsOf (E : List Int) : List Bool := (List.range 27).map fun (n : Nat) => hasL E (n : Int)
theorem flagsOf_length (E : List Int) : (flagsOf E).length = 27 := by simp [flagsOf]
theorem flagsOf_get (E : List Int) {n : Nat} (h : n < 27) : (flagsOf E).getD n false = hasL E (n : Int) := by simp [flagsOf, List.getD, h]
/-- One row's step of emptiesOf. -/
def emS (allB : List Bool → List Int → Bool) (k : Nat) (row : List Int) (T : List Bool) : List Bool := bstep T (k, fun b => allB b row)
end Go.Proofs.YthnppodnjokaoaaGreatDoor
namespace Go.Proofs.YthnppodnjokaoaaGreatDoor
open Go.RowKit

theorem eq_flags27 {w : World} {cs bs : List Bool} (h1 : cs.length = 27) (h2 : bs.length = 27) : (Op.equalIn 10000 119 (aggB cs) (aggB bs)).run Tryz.prog w = .ok (decide (cs = bs)) w := run_eq_flags 9998 u_flags u_bool bool_size h1 h2
theorem guard_flags : Tryz.prog.eqGuardType Tryz.prog.depth 119 = false := by kernel_rfl

/-- One row's step. -/
theorem emS_raises (p : List Bool → List Int → Bool) (P : List (List (List Int))) : Raises (emS p) P 27 := fun k _ i _ T hT => ⟨by rw [emS, bstep_length]; exact hT, bstep_or _ _⟩
theorem emS_yes {p : List Bool → List Int → Bool} {k : Nat} {row : List Int} {T : List Bool} (h : T.getD k false = true) : emS p k row T = T.set k true := by simp only [emS, bstep, h, Bool.true_or]
theorem emS_no {p : List Bool → List Int → Bool} {k : Nat} {row : List Int} {T : List Bool} (h : T.getD k false = false) : emS p k row T = T.set k (p T row) := by simp only [emS, bstep, h, Bool.false_or]

theorem at27 {T : List Bool} (hl : T.length = 27) : BitT Tryz.prog 119 T.length := by rw [hl]; exact bt_flags
theorem ahead_facts {n1 : Nat} {w2 wr w3 w4 : World} {t : TypeId} {T : List Bool} (hbel : Below n1 w2 wr) (hn : n1 < wr.heap.size) (hBT : Bits wr n1 t T) (hb3 : Below wr.heap.size wr w3) (hs3 : w3.heap.size = wr.heap.size + 1) (hTl : T.length = 27) (hB4 : Bits w4 wr.heap.size 119 (putB (List.replicate 27 false) 0 T)) (hg4 : w3.grownBy w4 (some wr.heap.size)) :
    Below n1 w2 w4 ∧ Bits w4 n1 t T ∧ Bits w4 wr.heap.size 119 T := by
  have e : putB (List.replicate 27 false) 0 T = T := putB_whole (by simp [hTl])
  rw [e] at hB4
  refine ⟨?_, ?_, hB4⟩
  · exact (hbel.trans (hb3.mono (by omega))).grown hg4 (by omega) (fun k hk => by cases hk; omega)
  · exact (hBT.later hb3).grown hg4 (by intro h; cases h; omega)
theorem ret_cell {fn : Func} {p : Tmp} {tmps : Array Value} {w : World} {g : Nat} {t : TypeId} {bs : List Bool} (ty : TypeId) (h : fn.results = #[.cell p ty]) (hp : tmps.getD p undef = .pointer (some ⟨g, 0, none⟩)) (hB : Bits w g t bs) (hT : BitT Tryz.prog ty bs.length) : (results fn tmps).run Tryz.prog w = .ok (aggB bs) w := by
  obtain ⟨d, hu, hd⟩ := hT.desc
  exact results_cell_row h tmps w g t (cellsB bs) (0, 0) d hp hB hu (by cases d <;> first | rfl | cases hd) (by rw [cellsB_size]; exact hT.size)

end Go.Proofs.YthnppodnjokaoaaGreatDoor
namespace Go.Proofs.YthnppodnjokaoaaGreatDoor
open Go.RowKit

set_option maxHeartbeats 4000000 in
set_option maxRecDepth 100000 in
theorem leastParts_P (p : List Bool → List Int → Bool) (P : List (List (List Int))) (a0 : Option Addr) (c0 : Nat) (w : World) (h0 : RD w (.slice a0 P.length c0) (slD (Lay.list (Lay.list Lay.int)) P)) (hok : gramOkB P = true)
    (hcl : ∀ (W : World) (T : List Bool) (k : Nat) (hk : k < P.length) (i : Nat) (hi : i < P[k].length) (a : Option Addr) (c : Nat), Below w.heap.size w W → T.length = 27 → RD w (.slice a P[k][i].length c) (slD Lay.int P[k][i]) →
      Calls Tryz.prog 106 #[.slice a P[k][i].length c, aggB T] W fun e w' => e = .returned (.bool (p T P[k][i])) ∧ Below W.heap.size W w') :
    Calls Tryz.prog 105 #[.agg #[.slice a0 P.length c0], .func (.func 106) #[] #[]] w fun e w' => ∃ T, e = .returned (aggB T) ∧ T.length = 27 ∧ Grows (emS p) P (List.replicate 27 false) T ∧ leK (emS p) P T P.length = T ∧ Below w.heap.size w w' := by
  have F := Fits.of hok
  have HF : Hid (Fits P) := F
  have hp := F.parts
  have HRz : Hid (Raises (emS p) P 27) := emS_raises p P
  have HCL : Hid (∀ (W : World) (T : List Bool) (k : Nat) (hk : k < P.length) (i : Nat) (hi : i < P[k].length) (a : Option Addr) (c : Nat), Below w.heap.size w W → T.length = 27 → RD w (.slice a P[k][i].length c) (slD Lay.int P[k][i]) →
      Calls Tryz.prog 106 #[.slice a P[k][i].length c, aggB T] W fun e w' => e = .returned (.bool (p T P[k][i])) ∧ Below W.heap.size W w') := hcl
  clear F hok hcl
  have B0 := (Below.refl w.heap.size w).alloc (Nat.le_refl _) (.cells #[.slice a0 P.length c0] 29)
  have HQ0 : Hid ((w.alloc (.cells #[.slice a0 P.length c0] 29)).cell? ⟨w.heap.size, 0, none⟩ = some (.slice a0 P.length c0)) := by show _ = _; simp
  have HR0 : Hid (RD w (.slice a0 P.length c0) (slD (Lay.list (Lay.list Lay.int)) P)) := h0
  have hsb : (w.alloc (.cells #[.slice a0 P.length c0] 29)).heap.size = w.heap.size + 1 := by simp
  clear h0
  go_enter Tryz.func105, Tryz.ntmps105
  go_wp2_with (first | (refine wpList_allocB (w := w.alloc _) rfl 119 rfl 27 bt_flags ?_; rw [hsb]; intro w1 hB1 hb1 hs1) | (refine wpList_allocB (w := w1) rfl 119 rfl 27 bt_flags ?_; intro w2 hB2 hb2 hs2))
  generalize w.alloc (.cells #[.slice a0 P.length c0] 29) = wb at *
  simp only [Act.put, List.setIfInBounds_toArray, List.set_cons_zero, List.set_cons_succ]
  -- what is known below the flags
  have hs1' : w1.heap.size = w.heap.size + 2 := by omega
  have HQ : Hid (∀ W, Below w1.heap.size w2 W → W.cell? ⟨w.heap.size, 0, none⟩ = some (.slice a0 P.length c0) ∧ Below w.heap.size w W ∧ Bits W (w.heap.size + 1) 119 (List.replicate 27 false)) := by
    intro W hW
    have b1 : Below (w.heap.size + 1) wb W := hb1.trans ((hb2.mono (by omega)).trans (hW.mono (by omega)))
    refine ⟨(b1.cell (p := ⟨w.heap.size, 0, none⟩) (by simp)).trans HQ0.out, B0.trans (b1.mono (by omega)), ?_⟩
    exact (hB1.below hb2 (by omega)).below hW (by omega)
  clear HQ0 B0 hB1 hb1 hs1
  clear hb2 hs2
  generalize w1.heap.size = n1 at *
  have hn1w : w.heap.size + 1 < n1 := by omega
  clear hs1' hsb
  go_loopg [] 27 (fun g wr => ∃ T : List Bool, Aside (T.length = 27 ∧ cntB T + g = 27 ∧ Grows (emS p) P (List.replicate 27 false) T ∧ Bits wr n1 119 T ∧ Below n1 w2 wr))
  case atStart => exact ⟨List.replicate 27 false, by simp, by decide, Grows.refl _ _, hB2, Below.refl _ _⟩
  case round =>
    obtain ⟨T, A⟩ := hrel
    have hTl := A.out.1
    have HTg : Hid (cntB T + gk = 27) := A.out.2.1
    have HTG : Hid (Grows (emS p) P (List.replicate 27 false) T) := A.out.2.2.1
    have hBT := A.out.2.2.2.1
    have hbel := A.out.2.2.2.2
    clear A hB2
    have hnr := hBT.lt
    go_wp2_with (first | (refine wpList_loadW rfl 119 _ rfl n1 119 T rfl (at27 hTl) hBT ?_) | (refine wpList_allocB rfl 119 rfl 27 bt_flags ?_; intro w3 hB3 hb3 hs3) | (refine wpList_storeB rfl 119 _ _ rfl wr.heap.size 0 119 _ T rfl rfl (at27 hTl) hB3 (by simp [hTl]) ?_; intro w4 hB4 hg4; obtain ⟨hbel4, hBT4, hBA4⟩ := ahead_facts hbel hnr hBT hb3 hs3 hTl hB4 hg4; obtain ⟨q4, _, _⟩ := HQ.out w4 hbel4))
    have HA : Hid (wr.heap.size < w4.heap.size) := hBA4.lt
    have hnA : n1 < wr.heap.size := hnr
    generalize wr.heap.size = nA at *
    clear hB3 hb3 hs3 hB4 hg4 hBT hbel hnr
    go_loopw [15] (fun s13 wk => ∃ k : Nat, k ≤ P.length ∧ s13 = .int .i64 k ∧ Bits wk n1 119 (leK (emS p) P T k) ∧ Bits wk nA 119 T ∧ Below n1 w2 wk) (fun s13 _ => P.length - (intOf s13).toNat)
    case atStart => exact ⟨0, Nat.zero_le _, rfl, hBT4, hBA4, hbel4⟩
    case round =>
      obtain ⟨k, hk, rfl, hBk, hBA, hbk⟩ := hrel
      clear hBT4 hBA4 hbel4 q4 HA
      by_cases hlk : k < P.length
      · have HK : Hid (leK (emS p) P T (k + 1) = leI (emS p) k P[k] (leK (emS p) P T k) P[k].length) := leK_next hlk
        have hm := List.getElem_mem hlk
        have hQ := HF.out.alts _ hm
        have HC1 : Hid (∀ (W : World) (T : List Bool) (i : Nat) (hi : i < P[k].length) (a : Option Addr) (c : Nat), Below w.heap.size w W → T.length = 27 → RD w (.slice a P[k][i].length c) (slD Lay.int P[k][i]) →
          Calls Tryz.prog 106 #[.slice a P[k][i].length c, aggB T] W fun e w' => e = .returned (.bool (p T P[k][i])) ∧ Below W.heap.size W w') := fun W T i hi a c => HCL.out W T k hlk i hi a c
        have HLe : Hid (∀ i, i ≤ P[k].length → (leI (emS p) k P[k] (leK (emS p) P T k) i).length = 27) := fun i hi => (HRz.out.leI hlk (HRz.out.leK hTl k hk).1 i hi).1
        obtain ⟨b1, o1, ea0, hb1, a1, c1, q0', r1⟩ := HR0.out.listAt hlk
        have HR1 : Hid (RD w (.slice a1 P[k].length c1) (slD (Lay.list Lay.int) P[k])) := r1
        have q0 := ((HQ.out wr hbk).2.1.cell (p := ⟨b1, o1 + k, none⟩) hb1).trans q0'
        subst ea0
        have hk27 : k < 27 := by omega
        clear r1 q0' hm hb1
        generalize leK (emS p) P T k = Tk at *
        generalize P[k] = Q at *
        go_wp2
        go_loopw [22] (fun s20 wk => ∃ i : Nat, i ≤ Q.length ∧ s20 = .int .i64 i ∧ Bits wk n1 119 (leI (emS p) k Q Tk i) ∧ Bits wk nA 119 T ∧ Below n1 w2 wk) (fun s20 _ => Q.length - (intOf s20).toNat)
        case atStart => exact ⟨0, Nat.zero_le _, rfl, hBk, hBA, hbk⟩
        case round =>
          obtain ⟨i, hi, rfl, hBi, hBAi, hbi⟩ := hrel
          clear hBk hBA hbk q0
          by_cases hli : i < Q.length
          · have HE : Hid (leI (emS p) k Q Tk (i + 1) = emS p k Q[i] (leI (emS p) k Q Tk i)) := leI_next hli
            have hTi := HLe.out i hi
            obtain ⟨b2, o2, ea1, hb2, a2, c2, q1', r2⟩ := HR1.out.listAt hli
            have hbw := (HQ.out wr hbi).2.1
            have q1 := (hbw.cell (p := ⟨b2, o2 + i, none⟩) hb2).trans q1'
            subst ea1
            have q2 := hBi.cell (n := k) (by omega)
            have f2 := hBi.frozen k
            have hn1r := hBi.lt
            have HX : Hid (Calls Tryz.prog 106 #[.slice a2 Q[i].length c2, aggB (leI (emS p) k Q Tk i)] wr fun e w' => e = .returned (.bool (p (leI (emS p) k Q Tk i) Q[i])) ∧ Below wr.heap.size wr w') := HC1.out wr _ i hli a2 c2 hbw hTi r2
            clear r2 q1' hb2 hbw
            generalize leI (emS p) k Q Tk i = Ti at *
            generalize Q[i] = R at *
            have key : ∀ (W : World) (v : Bool), Below wr.heap.size wr W → emS p k R Ti = Ti.set k v → Bits (W.setCell ⟨n1, k, none⟩ (.bool v)) n1 119 (leI (emS p) k Q Tk (i + 1)) ∧ Bits (W.setCell ⟨n1, k, none⟩ (.bool v)) nA 119 T ∧ Below n1 w2 (W.setCell ⟨n1, k, none⟩ (.bool v)) := by
              intro W v hW he
              rw [HE.out, he]
              exact ⟨(hBi.later hW).set k v, (hBAi.later hW).grown (setCell_grown W n1 k _) (by intro h; cases h; omega), (hbi.trans (hW.mono (by omega))).setCell (Nat.le_refl _) _⟩
            have HKY : Hid (∀ (W : World) (v : Bool), Below wr.heap.size wr W → emS p k R Ti = Ti.set k v → Bits (W.setCell ⟨n1, k, none⟩ (.bool v)) n1 119 (leI (emS p) k Q Tk (i + 1)) ∧ Bits (W.setCell ⟨n1, k, none⟩ (.bool v)) nA 119 T ∧ Below n1 w2 (W.setCell ⟨n1, k, none⟩ (.bool v))) := key
            clear key
            by_cases hup : Ti.getD k false = true
            · rw [hup] at q2
              have K1 := HKY.out wr true (Below.refl _ _) (emS_yes hup)
              have HK1 : Hid _ := K1
              clear K1 hup HKY HE HX
              go_wp2
              go_roundw
              case rel => exact ⟨i + 1, by omega, by go_num, HK1.out.1, HK1.out.2.1, HK1.out.2.2⟩
              case measure => simp [intOf]; omega
            · have hdn : Ti.getD k false = false := by simpa using hup
              rw [hdn] at q2
              have HK2 : Hid (∀ W, Below wr.heap.size wr W → _) := fun W hW => HKY.out W (p Ti R) hW (emS_no hdn)
              clear hup hdn HKY HE
              go_wp2_with (first | (refine wpList_loadW rfl 119 _ rfl n1 119 Ti rfl (at27 hTi) hBi ?_) | (go_at_call 106; refine HX.out.mono ?_; rintro e w5 ⟨rfl, hb5⟩; have q5 := (hBi.later hb5).cell (n := k) (by omega); have f5 := (hBi.later hb5).frozen k))
              go_roundw
              case rel => exact ⟨i + 1, by omega, by go_num, (HK2.out w5 hb5).1, (HK2.out w5 hb5).2.1, (HK2.out w5 hb5).2.2⟩
              case measure => simp [intOf]; omega
          · have e : i = Q.length := by omega
            subst e
            have HKe := HK
            clear HK
            go_wp2
            go_roundw
            case rel => exact ⟨k + 1, by omega, by go_num, by rw [HKe.out]; exact hBi, hBAi, hbi⟩
            case measure => simp [intOf]; omega
      · have e : k = P.length := by omega
        subst e
        have hLl := (HRz.out.leK hTl P.length (Nat.le_refl _))
        have HL2 : Hid (leK (emS p) P T P.length = T ∨ cntB T < cntB (leK (emS p) P T P.length)) := hLl.2
        have hLl1 := hLl.1
        have HLG : Hid (Grows (emS p) P (List.replicate 27 false) (leK (emS p) P T P.length)) := HTG.out.leK _ (Nat.le_refl _)
        have HLc : Hid (cntB (leK (emS p) P T P.length) ≤ 27) := by show _ ≤ _; have := cntB_le (leK (emS p) P T P.length); omega
        clear hLl
        by_cases hfix : leK (emS p) P T P.length = T
        · have HX : Hid (leK (emS p) P T P.length = T) := hfix
          rw [hfix] at hBk
          clear hfix HL2 hLl1
          have hR := (HQ.out wr hbk).2.2
          have hBel := (HQ.out wr hbk).2.1
          go_wp2_with (first | (refine wpList_loadW rfl 119 _ rfl n1 119 T rfl (at27 hTl) hBk ?_) | (refine wpList_loadW rfl 119 _ rfl nA 119 T rfl (at27 hTl) hBA ?_) | (refine wpList_eqlB rfl 119 _ _ _ rfl T T rfl rfl guard_flags (eq_flags27 hTl hTl) ?_; rw [decide_eq_true (rfl : T = T)]) | (refine wpList_storeB rfl 119 _ _ rfl (w.heap.size + 1) 0 119 _ T rfl rfl (at27 hTl) hR (by simp [hTl]) ?_; intro w5 hB5 hg5))
          have e5 : putB (List.replicate 27 false) 0 T = T := putB_whole (by simp [hTl])
          rw [e5] at hB5
          have hb5 : Below w.heap.size w w5 := hBel.grown hg5 hBel.size (fun j hj => by cases hj; omega)
          refine bodyPost_ret (v := aggB T) (ret_cell 119 rfl rfl hB5 (at27 hTl)) rfl ⟨T, rfl, hTl, HTG.out, HX.out, hb5⟩
        · have hcnt : cntB T < cntB (leK (emS p) P T P.length) := HL2.out.resolve_left hfix
          have hdec : decide (leK (emS p) P T P.length = T) = false := decide_eq_false hfix
          clear hfix HL2
          generalize leK (emS p) P T P.length = T2 at *
          go_wp2_with (first | (refine wpList_loadW rfl 119 _ rfl n1 119 T2 rfl (at27 hLl1) hBk ?_) | (refine wpList_loadW rfl 119 _ rfl nA 119 T rfl (at27 hTl) hBA ?_) | (refine wpList_eqlB rfl 119 _ _ _ rfl T2 T rfl rfl guard_flags (eq_flags27 hLl1 hTl) ?_; rw [hdec]))
          go_roundg (27 - cntB T2)
          case measure => have := HTg.out; have := HLc.out; omega
          case rel => exact ⟨T2, hLl1, by have := HLc.out; omega, HLG.out, hBk, hbk⟩
end Go.Proofs.YthnppodnjokaoaaGreatDoor
namespace Go.Proofs.YthnppodnjokaoaaGreatDoor
open Go.RowKit

set_option maxHeartbeats 4000000 in
set_option maxRecDepth 100000 in
theorem leastParts_E (p : List Bool → List Int → Bool) (P : List (List (List Int))) (a0 : Option Addr) (c0 : Nat) (w : World) (h0 : RD w (.slice a0 P.length c0) (slD (Lay.list (Lay.list Lay.int)) P)) (hok : gramOkB P = true)
    (hcl : ∀ (W : World) (T : List Bool) (k : Nat) (hk : k < P.length) (i : Nat) (hi : i < P[k].length) (a : Option Addr) (c : Nat), Below w.heap.size w W → T.length = 27 → RD w (.slice a P[k][i].length c) (slD Lay.int P[k][i]) →
      Calls Tryz.prog 113 #[.slice a P[k][i].length c, aggB T] W fun e w' => e = .returned (.bool (p T P[k][i])) ∧ Below W.heap.size W w') :
    Calls Tryz.prog 105 #[.agg #[.slice a0 P.length c0], .func (.func 113) #[] #[]] w fun e w' => ∃ T, e = .returned (aggB T) ∧ T.length = 27 ∧ Grows (emS p) P (List.replicate 27 false) T ∧ leK (emS p) P T P.length = T ∧ Below w.heap.size w w' := by
  have F := Fits.of hok
  have HF : Hid (Fits P) := F
  have hp := F.parts
  have HRz : Hid (Raises (emS p) P 27) := emS_raises p P
  have HCL : Hid (∀ (W : World) (T : List Bool) (k : Nat) (hk : k < P.length) (i : Nat) (hi : i < P[k].length) (a : Option Addr) (c : Nat), Below w.heap.size w W → T.length = 27 → RD w (.slice a P[k][i].length c) (slD Lay.int P[k][i]) →
      Calls Tryz.prog 113 #[.slice a P[k][i].length c, aggB T] W fun e w' => e = .returned (.bool (p T P[k][i])) ∧ Below W.heap.size W w') := hcl
  clear F hok hcl
  have B0 := (Below.refl w.heap.size w).alloc (Nat.le_refl _) (.cells #[.slice a0 P.length c0] 29)
  have HQ0 : Hid ((w.alloc (.cells #[.slice a0 P.length c0] 29)).cell? ⟨w.heap.size, 0, none⟩ = some (.slice a0 P.length c0)) := by show _ = _; simp
  have HR0 : Hid (RD w (.slice a0 P.length c0) (slD (Lay.list (Lay.list Lay.int)) P)) := h0
  have hsb : (w.alloc (.cells #[.slice a0 P.length c0] 29)).heap.size = w.heap.size + 1 := by simp
  clear h0
  go_enter Tryz.func105, Tryz.ntmps105
  go_wp2_with (first | (refine wpList_allocB (w := w.alloc _) rfl 119 rfl 27 bt_flags ?_; rw [hsb]; intro w1 hB1 hb1 hs1) | (refine wpList_allocB (w := w1) rfl 119 rfl 27 bt_flags ?_; intro w2 hB2 hb2 hs2))
  generalize w.alloc (.cells #[.slice a0 P.length c0] 29) = wb at *
  simp only [Act.put, List.setIfInBounds_toArray, List.set_cons_zero, List.set_cons_succ]
  -- what is known below the flags
  have hs1' : w1.heap.size = w.heap.size + 2 := by omega
  have HQ : Hid (∀ W, Below w1.heap.size w2 W → W.cell? ⟨w.heap.size, 0, none⟩ = some (.slice a0 P.length c0) ∧ Below w.heap.size w W ∧ Bits W (w.heap.size + 1) 119 (List.replicate 27 false)) := by
    intro W hW
    have b1 : Below (w.heap.size + 1) wb W := hb1.trans ((hb2.mono (by omega)).trans (hW.mono (by omega)))
    refine ⟨(b1.cell (p := ⟨w.heap.size, 0, none⟩) (by simp)).trans HQ0.out, B0.trans (b1.mono (by omega)), ?_⟩
    exact (hB1.below hb2 (by omega)).below hW (by omega)
  clear HQ0 B0 hB1 hb1 hs1
  clear hb2 hs2
  generalize w1.heap.size = n1 at *
  have hn1w : w.heap.size + 1 < n1 := by omega
  clear hs1' hsb
  go_loopg [] 27 (fun g wr => ∃ T : List Bool, Aside (T.length = 27 ∧ cntB T + g = 27 ∧ Grows (emS p) P (List.replicate 27 false) T ∧ Bits wr n1 119 T ∧ Below n1 w2 wr))
  case atStart => exact ⟨List.replicate 27 false, by simp, by decide, Grows.refl _ _, hB2, Below.refl _ _⟩
  case round =>
    obtain ⟨T, A⟩ := hrel
    have hTl := A.out.1
    have HTg : Hid (cntB T + gk = 27) := A.out.2.1
    have HTG : Hid (Grows (emS p) P (List.replicate 27 false) T) := A.out.2.2.1
    have hBT := A.out.2.2.2.1
    have hbel := A.out.2.2.2.2
    clear A hB2
    have hnr := hBT.lt
    go_wp2_with (first | (refine wpList_loadW rfl 119 _ rfl n1 119 T rfl (at27 hTl) hBT ?_) | (refine wpList_allocB rfl 119 rfl 27 bt_flags ?_; intro w3 hB3 hb3 hs3) | (refine wpList_storeB rfl 119 _ _ rfl wr.heap.size 0 119 _ T rfl rfl (at27 hTl) hB3 (by simp [hTl]) ?_; intro w4 hB4 hg4; obtain ⟨hbel4, hBT4, hBA4⟩ := ahead_facts hbel hnr hBT hb3 hs3 hTl hB4 hg4; obtain ⟨q4, _, _⟩ := HQ.out w4 hbel4))
    have HA : Hid (wr.heap.size < w4.heap.size) := hBA4.lt
    have hnA : n1 < wr.heap.size := hnr
    generalize wr.heap.size = nA at *
    clear hB3 hb3 hs3 hB4 hg4 hBT hbel hnr
    go_loopw [15] (fun s13 wk => ∃ k : Nat, k ≤ P.length ∧ s13 = .int .i64 k ∧ Bits wk n1 119 (leK (emS p) P T k) ∧ Bits wk nA 119 T ∧ Below n1 w2 wk) (fun s13 _ => P.length - (intOf s13).toNat)
    case atStart => exact ⟨0, Nat.zero_le _, rfl, hBT4, hBA4, hbel4⟩
    case round =>
      obtain ⟨k, hk, rfl, hBk, hBA, hbk⟩ := hrel
      clear hBT4 hBA4 hbel4 q4 HA
      by_cases hlk : k < P.length
      · have HK : Hid (leK (emS p) P T (k + 1) = leI (emS p) k P[k] (leK (emS p) P T k) P[k].length) := leK_next hlk
        have hm := List.getElem_mem hlk
        have hQ := HF.out.alts _ hm
        have HC1 : Hid (∀ (W : World) (T : List Bool) (i : Nat) (hi : i < P[k].length) (a : Option Addr) (c : Nat), Below w.heap.size w W → T.length = 27 → RD w (.slice a P[k][i].length c) (slD Lay.int P[k][i]) →
          Calls Tryz.prog 113 #[.slice a P[k][i].length c, aggB T] W fun e w' => e = .returned (.bool (p T P[k][i])) ∧ Below W.heap.size W w') := fun W T i hi a c => HCL.out W T k hlk i hi a c
        have HLe : Hid (∀ i, i ≤ P[k].length → (leI (emS p) k P[k] (leK (emS p) P T k) i).length = 27) := fun i hi => (HRz.out.leI hlk (HRz.out.leK hTl k hk).1 i hi).1
        obtain ⟨b1, o1, ea0, hb1, a1, c1, q0', r1⟩ := HR0.out.listAt hlk
        have HR1 : Hid (RD w (.slice a1 P[k].length c1) (slD (Lay.list Lay.int) P[k])) := r1
        have q0 := ((HQ.out wr hbk).2.1.cell (p := ⟨b1, o1 + k, none⟩) hb1).trans q0'
        subst ea0
        have hk27 : k < 27 := by omega
        clear r1 q0' hm hb1
        generalize leK (emS p) P T k = Tk at *
        generalize P[k] = Q at *
        go_wp2
        go_loopw [22] (fun s20 wk => ∃ i : Nat, i ≤ Q.length ∧ s20 = .int .i64 i ∧ Bits wk n1 119 (leI (emS p) k Q Tk i) ∧ Bits wk nA 119 T ∧ Below n1 w2 wk) (fun s20 _ => Q.length - (intOf s20).toNat)
        case atStart => exact ⟨0, Nat.zero_le _, rfl, hBk, hBA, hbk⟩
        case round =>
          obtain ⟨i, hi, rfl, hBi, hBAi, hbi⟩ := hrel
          clear hBk hBA hbk q0
          by_cases hli : i < Q.length
          · have HE : Hid (leI (emS p) k Q Tk (i + 1) = emS p k Q[i] (leI (emS p) k Q Tk i)) := leI_next hli
            have hTi := HLe.out i hi
            obtain ⟨b2, o2, ea1, hb2, a2, c2, q1', r2⟩ := HR1.out.listAt hli
            have hbw := (HQ.out wr hbi).2.1
            have q1 := (hbw.cell (p := ⟨b2, o2 + i, none⟩) hb2).trans q1'
            subst ea1
            have q2 := hBi.cell (n := k) (by omega)
            have f2 := hBi.frozen k
            have hn1r := hBi.lt
            have HX : Hid (Calls Tryz.prog 113 #[.slice a2 Q[i].length c2, aggB (leI (emS p) k Q Tk i)] wr fun e w' => e = .returned (.bool (p (leI (emS p) k Q Tk i) Q[i])) ∧ Below wr.heap.size wr w') := HC1.out wr _ i hli a2 c2 hbw hTi r2
            clear r2 q1' hb2 hbw
            generalize leI (emS p) k Q Tk i = Ti at *
            generalize Q[i] = R at *
            have key : ∀ (W : World) (v : Bool), Below wr.heap.size wr W → emS p k R Ti = Ti.set k v → Bits (W.setCell ⟨n1, k, none⟩ (.bool v)) n1 119 (leI (emS p) k Q Tk (i + 1)) ∧ Bits (W.setCell ⟨n1, k, none⟩ (.bool v)) nA 119 T ∧ Below n1 w2 (W.setCell ⟨n1, k, none⟩ (.bool v)) := by
              intro W v hW he
              rw [HE.out, he]
              exact ⟨(hBi.later hW).set k v, (hBAi.later hW).grown (setCell_grown W n1 k _) (by intro h; cases h; omega), (hbi.trans (hW.mono (by omega))).setCell (Nat.le_refl _) _⟩
            have HKY : Hid (∀ (W : World) (v : Bool), Below wr.heap.size wr W → emS p k R Ti = Ti.set k v → Bits (W.setCell ⟨n1, k, none⟩ (.bool v)) n1 119 (leI (emS p) k Q Tk (i + 1)) ∧ Bits (W.setCell ⟨n1, k, none⟩ (.bool v)) nA 119 T ∧ Below n1 w2 (W.setCell ⟨n1, k, none⟩ (.bool v))) := key
            clear key
            by_cases hup : Ti.getD k false = true
            · rw [hup] at q2
              have K1 := HKY.out wr true (Below.refl _ _) (emS_yes hup)
              have HK1 : Hid _ := K1
              clear K1 hup HKY HE HX
              go_wp2
              go_roundw
              case rel => exact ⟨i + 1, by omega, by go_num, HK1.out.1, HK1.out.2.1, HK1.out.2.2⟩
              case measure => simp [intOf]; omega
            · have hdn : Ti.getD k false = false := by simpa using hup
              rw [hdn] at q2
              have HK2 : Hid (∀ W, Below wr.heap.size wr W → _) := fun W hW => HKY.out W (p Ti R) hW (emS_no hdn)
              clear hup hdn HKY HE
              go_wp2_with (first | (refine wpList_loadW rfl 119 _ rfl n1 119 Ti rfl (at27 hTi) hBi ?_) | (go_at_call 113; refine HX.out.mono ?_; rintro e w5 ⟨rfl, hb5⟩; have q5 := (hBi.later hb5).cell (n := k) (by omega); have f5 := (hBi.later hb5).frozen k))
              go_roundw
              case rel => exact ⟨i + 1, by omega, by go_num, (HK2.out w5 hb5).1, (HK2.out w5 hb5).2.1, (HK2.out w5 hb5).2.2⟩
              case measure => simp [intOf]; omega
          · have e : i = Q.length := by omega
            subst e
            have HKe := HK
            clear HK
            go_wp2
            go_roundw
            case rel => exact ⟨k + 1, by omega, by go_num, by rw [HKe.out]; exact hBi, hBAi, hbi⟩
            case measure => simp [intOf]; omega
      · have e : k = P.length := by omega
        subst e
        have hLl := (HRz.out.leK hTl P.length (Nat.le_refl _))
        have HL2 : Hid (leK (emS p) P T P.length = T ∨ cntB T < cntB (leK (emS p) P T P.length)) := hLl.2
        have hLl1 := hLl.1
        have HLG : Hid (Grows (emS p) P (List.replicate 27 false) (leK (emS p) P T P.length)) := HTG.out.leK _ (Nat.le_refl _)
        have HLc : Hid (cntB (leK (emS p) P T P.length) ≤ 27) := by show _ ≤ _; have := cntB_le (leK (emS p) P T P.length); omega
        clear hLl
        by_cases hfix : leK (emS p) P T P.length = T
        · have HX : Hid (leK (emS p) P T P.length = T) := hfix
          rw [hfix] at hBk
          clear hfix HL2 hLl1
          have hR := (HQ.out wr hbk).2.2
          have hBel := (HQ.out wr hbk).2.1
          go_wp2_with (first | (refine wpList_loadW rfl 119 _ rfl n1 119 T rfl (at27 hTl) hBk ?_) | (refine wpList_loadW rfl 119 _ rfl nA 119 T rfl (at27 hTl) hBA ?_) | (refine wpList_eqlB rfl 119 _ _ _ rfl T T rfl rfl guard_flags (eq_flags27 hTl hTl) ?_; rw [decide_eq_true (rfl : T = T)]) | (refine wpList_storeB rfl 119 _ _ rfl (w.heap.size + 1) 0 119 _ T rfl rfl (at27 hTl) hR (by simp [hTl]) ?_; intro w5 hB5 hg5))
          have e5 : putB (List.replicate 27 false) 0 T = T := putB_whole (by simp [hTl])
          rw [e5] at hB5
          have hb5 : Below w.heap.size w w5 := hBel.grown hg5 hBel.size (fun j hj => by cases hj; omega)
          refine bodyPost_ret (v := aggB T) (ret_cell 119 rfl rfl hB5 (at27 hTl)) rfl ⟨T, rfl, hTl, HTG.out, HX.out, hb5⟩
        · have hcnt : cntB T < cntB (leK (emS p) P T P.length) := HL2.out.resolve_left hfix
          have hdec : decide (leK (emS p) P T P.length = T) = false := decide_eq_false hfix
          clear hfix HL2
          generalize leK (emS p) P T P.length = T2 at *
          go_wp2_with (first | (refine wpList_loadW rfl 119 _ rfl n1 119 T2 rfl (at27 hLl1) hBk ?_) | (refine wpList_loadW rfl 119 _ rfl nA 119 T rfl (at27 hTl) hBA ?_) | (refine wpList_eqlB rfl 119 _ _ _ rfl T2 T rfl rfl guard_flags (eq_flags27 hLl1 hTl) ?_; rw [hdec]))
          go_roundg (27 - cntB T2)
          case measure => have := HTg.out; have := HLc.out; omega
          case rel => exact ⟨T2, hLl1, by have := HLc.out; omega, HLG.out, hBk, hbk⟩
end Go.Proofs.YthnppodnjokaoaaGreatDoor
namespace Go.Proofs.YthnppodnjokaoaaGreatDoor
open Go.RowKit

/-- One row's step. -/
def eS (k : Nat) (row : List Int) (T : List Bool) : List Bool := bstep T (k, fun b => allB b row)
theorem eS_raises (P : List (List (List Int))) : Raises eS P 27 := fun k _ i _ T hT => ⟨by rw [eS, bstep_length]; exact hT, bstep_or _ _⟩

set_option maxHeartbeats 4000000 in
set_option maxRecDepth 100000 in
theorem emptiesOf_grow (P : List (List (List Int))) (a0 : Option Addr) (c0 : Nat) (w : World) (h0 : RD w (.slice a0 P.length c0) (slD (Lay.list (Lay.list Lay.int)) P)) (hok : gramOkB P = true) :
    Calls Tryz.prog 109 #[.agg #[.slice a0 P.length c0]] w fun e w' => ∃ T, e = .returned (aggB T) ∧ T.length = 27 ∧ Grows eS P (List.replicate 27 false) T ∧ leK eS P T P.length = T ∧ Below w.heap.size w w' := by
  have HX : Hid (∀ W : World, Below w.heap.size w W → Calls Tryz.prog 105 #[.agg #[.slice a0 P.length c0], .func (.func 113) #[] #[]] W fun e w' => ∃ T, e = .returned (aggB T) ∧ T.length = 27 ∧ Grows eS P (List.replicate 27 false) T ∧ leK eS P T P.length = T ∧ Below W.heap.size W w') := by
    intro W hW
    have F := Fits.of hok
    refine leastParts_E allB P a0 c0 W (h0.later hW) hok (fun W2 T k hk i hi a c hb hT hr => ?_)
    have hm := List.getElem_mem hk
    have hm2 := List.getElem_mem hi
    have h8 := F.rows _ hm _ hm2
    exact allOf_any _ a c T W2 (hr.later hb).reads (by omega) (fun z hz => by have := F.syms _ hm _ hm2 z hz; omega) hT
  have B0 := (Below.refl w.heap.size w).alloc (Nat.le_refl _) (.cells #[.slice a0 P.length c0] 29)
  have hsb : (w.alloc (.cells #[.slice a0 P.length c0] 29)).heap.size = w.heap.size + 1 := by simp
  have HQ0 : Hid ((w.alloc (.cells #[.slice a0 P.length c0] 29)).cell? ⟨w.heap.size, 0, none⟩ = some (.slice a0 P.length c0)) := by show _ = _; simp
  clear h0 hok
  go_enter Tryz.func109, Tryz.ntmps109
  go_wp2_with (first | (refine wpList_allocB (w := w.alloc _) rfl 119 rfl 27 bt_flags ?_; rw [hsb]; intro w1 hB1 hb1 hs1; have q1 := (hb1.cell (p := ⟨w.heap.size, 0, none⟩) (by simp)).trans HQ0.out) | (go_at_call 105; refine (HX.out _ (B0.trans (hb1.mono (by omega)))).mono ?_; rintro e w2 ⟨T, rfl, hTl, hG, hF, hb2⟩; have hB2 := hB1.later hb2) | (refine wpList_storeB (w := w2) rfl 119 _ _ rfl (w.heap.size + 1) 0 119 _ T rfl rfl (at27 hTl) hB2 (by simp [hTl]) ?_; intro w3 hB3 hg3))
  have e5 : putB (List.replicate 27 false) 0 T = T := putB_whole (by simp [hTl])
  rw [e5] at hB3
  have b1 : Below w.heap.size w w1 := B0.trans (hb1.mono (by omega))
  have b2 : Below w.heap.size w w2 := b1.trans (hb2.mono b1.size)
  have b3 : Below w.heap.size w w3 := b2.grown hg3 b2.size (fun j hj => by cases hj; omega)
  exact bodyPost_ret (v := aggB T) (ret_cell 119 rfl rfl hB3 (at27 hTl)) rfl ⟨T, rfl, hTl, hG, hF, b3⟩
end Go.Proofs.YthnppodnjokaoaaGreatDoor
