/-
  Contracts and plain mathematics, joined: LoopMarks, ValSeqT. No statement is proved here.
-/
import Derived.Test.YthnppodnjokaoaaGreatDoorG24
import Derived.Deep.LoopGhost
import Derived.Test.YthnppodnjokaoaaGreatDoorG3
import Derived.Test.YthnppodnjokaoaaGreatDoorG4
import Derived.Test.YthnppodnjokaoaaGreatDoorChecked
namespace Go.Proofs.YthnppodnjokaoaaGreatDoor
open Go.RowKit Go.Shelf

section
variable {P : Program} {F : Fence} {n : Nat}
/-- A loop whose invariant bears a number that each round lowers. -/
theorem wpIn_loop_num {Q : Exit → Act → World → Prop} {a : Act} {w : World} {c : Code} (I : Nat → Act → World → Prop) (n₀ : Nat) (h₀ : I n₀ a w)
    (round : ∀ k a w, I k a w → ∀ K : Act → World → Prop, (∀ k' a' w', k' < k → I k' a' w' → K a' w') → c.wpIn F n P (Exit.then K Q) a w) : (Code.loop c).wpIn F n P Q a w := by
  refine wpIn_loop (fun a w => ∃ k, I k a w) (fun a w => leastOf (fun k => I k a w)) ⟨n₀, h₀⟩ fun a w hI => ?_
  have h1 := (leastOf_spec hI).1
  exact round _ a w h1 _ fun k' a' w' hlt h2 => ⟨⟨k', h2⟩, Nat.lt_of_le_of_lt ((leastOf_spec ⟨k', h2⟩).2 k' h2) hlt⟩

/-- The marks of ranges over functions. -/
def marksOf (ds : List Nat) : List Deferred := ds.map fun D => { target := .collected D, args := #[] }
theorem marksOf_cons (D : Nat) (ds : List Nat) : ({ target := .collected D, args := #[] } : Deferred) :: marksOf ds = marksOf (D :: ds) := rfl
/-- Blocks that are there for the rounds' deferred calls, none twice. -/
def MarksIn (B : Nat) (ds : List Nat) (w : World) : Prop := ds.Nodup ∧ ∀ D ∈ ds, B ≤ D ∧ w.heap[D]? = some (.deferred (some []))
theorem MarksIn.nil (B : Nat) (w : World) : MarksIn B [] w := ⟨List.nodup_nil, fun _ h => by simp at h⟩
theorem MarksIn.kept {B b : Nat} {ds : List Nat} {w w' : World} (h : MarksIn B ds w) (hb : b ≤ B) (hk : KeepsFrom b w w') : MarksIn B ds w' := ⟨h.1, fun D hD => ⟨(h.2 D hD).1, hk.same D _ (by have := (h.2 D hD).1; omega) (h.2 D hD).2 rfl⟩⟩
theorem MarksIn.within {B : Nat} {ds : List Nat} {w w' : World} {S : Nat → Prop} (h : MarksIn B ds w) (hw : Within w w' S) (hn : ∀ k o, w.heap[k]? = some o → o.isCells = false → ¬ S k) : MarksIn B ds w' := ⟨h.1, fun D hD => ⟨(h.2 D hD).1, hw.same (h.2 D hD).2 (hn D _ (h.2 D hD).2 rfl)⟩⟩
theorem MarksIn.push {B D : Nat} {ds : List Nat} {w w0 : World} (h : MarksIn B ds w) (h0 : ∀ x ∈ ds, x < w0.heap.size) (hD : w0.heap.size ≤ D) (hB : B ≤ D) (hd : w.heap[D]? = some (.deferred (some []))) : MarksIn B (D :: ds) w :=
  ⟨List.nodup_cons.2 ⟨fun hm => by have := h0 D hm; omega, h.1⟩, fun x hx => by
    rcases List.mem_cons.1 hx with rfl | hx
    · exact ⟨hB, hd⟩
    · exact h.2 x hx⟩
theorem MarksIn.lt {B : Nat} {ds : List Nat} {w : World} (h : MarksIn B ds w) : ∀ x ∈ ds, x < w.heap.size := fun x hx => (Array.getElem?_eq_some_iff.1 (h.2 x hx).2).1

theorem leaves_marks {fn : Func} {tmps : Array Value} {R : Ending → World → Prop} {B : Nat} : ∀ (ds : List Nat) (w : World), MarksIn B ds w → (∀ w', Within w w' (fun k => B ≤ k ∧ ∃ o, w.heap[k]? = some o ∧ o.isCells = false) → LeavesInM F n P fn tmps R [] .returning w') → LeavesInM F n P fn tmps R (marksOf ds) .returning w
  | [], w, _, h => h w (Within.refl _ _)
  | D :: ds, w, hm, h => by
    have hD := hm.2 D (by simp)
    refine ⟨by simp, .inl ⟨D, _, rfl, run_takeDeferred hD.2, ?_⟩⟩
    have hnd := List.nodup_cons.1 hm.1
    have hw : Within w (w.putObj D (.deferred none)) (fun k => k = D) := within_put _
    refine leaves_marks ds _ ⟨hnd.2, fun x hx => ⟨(hm.2 x (by simp [hx])).1, hw.same (hm.2 x (by simp [hx])).2 (fun e => hnd.1 (e ▸ hx))⟩⟩ fun w' hw' => h w' ?_
    have h1 : Within w (w.putObj D (.deferred none)) (fun k => B ≤ k ∧ ∃ o, w.heap[k]? = some o ∧ o.isCells = false) := hw.mono (fun k e => by subst e; exact ⟨hD.1, _, hD.2, rfl⟩)
    refine ⟨hw'.os.trans h1.os, hw'.tape.trans h1.tape, hw'.output.trans h1.output, Nat.le_trans h1.size hw'.size, fun k hk hn => ?_⟩
    by_cases e : k = D
    · subst e; exact absurd ⟨hD.1, _, hD.2, rfl⟩ hn
    · have e1 := h1.block k hk hn
      have hk2 : k < (w.putObj D (.deferred none)).heap.size := by simpa using hk
      refine (hw'.block k hk2 (fun hx => ?_)).trans e1
      rw [e1] at hx
      exact hn hx
end
end Go.Proofs.YthnppodnjokaoaaGreatDoor
namespace Go.Proofs.YthnppodnjokaoaaGreatDoor
open Go.RowKit Go.Shelf

attribute [local go_sem] Oper.semAt_some wide_fn wide_fn_in wide_depth wide_depth_in

theorem within_belowV {w w' : World} {tv : TypeId → Prop} {base n : Nat} (h : Within w w' (Theirs tv base w)) (hn : n ≤ base) (hw : n ≤ w.heap.size) : Below n w w' :=
  ⟨h.os, h.tape, h.output, h.size, fun k hk => h.block k (Nat.lt_of_lt_of_le hk hw) (fun ht => by have := ht.1; omega)⟩
theorem appended_withinV {W w1 : World} {B : Nat} {v v' : Value} {tmp : Obj} (hgrow : (W.alloc tmp).grownBy w1 v.ownBlock) : Within W (w1.setCell ⟨B, 0, none⟩ v') (fun k => k = B ∨ v.ownBlock = some k) := by
  have hw1 : Within W w1 (fun k => v.ownBlock = some k) := (within_none ((Below.refl _ _).alloc (Nat.le_refl _) tmp) _).trans (Within.of_grown hgrow (fun k e => e))
  have hw2 : Within w1 (w1.setCell ⟨B, 0, none⟩ v') (fun k => k = B) := by
    refine Within.setCell (Within.refl _ _) _ _ ?_
    rfl
  exact (hw1.mono (fun k h => .inr h)).trans (hw2.mono (fun k h => .inl h))
theorem ownsRow_staysV {W X : World} {n₀ b : Nat} {e : TypeId} {size : Nat} {v : Value} {k : Nat} {xs : List Value} {tv : TypeId → Prop} (h : W.ownsRow n₀ e size v k xs) (hw : Within W X (Theirs tv b W)) (he : ¬ tv e) : X.ownsRow n₀ e size v k xs := by
  refine ⟨h.1, ?_⟩
  rcases h.2 with hx | ⟨g, cap, cur, rfl, hb, hg, r⟩
  · exact .inl hx
  · refine .inr ⟨g, cap, cur, rfl, hb, hw.same hg (fun ⟨_, o, ho, hc⟩ => ?_), r⟩
    rw [hg] at ho
    cases ho
    rcases hc with hc | ⟨_, _, _, ht, e2⟩
    · cases hc
    · cases e2; exact he ht
theorem new_one_cV (W : World) (x : Value) (t : TypeId) : ∀ (j : Nat) (u : Value), ([x] : List Value)[j]? = some u → (W.alloc (.cells #[x] t)).cell? ((⟨W.heap.size, 0, none⟩ : Addr).add j) = some u := by
  intro j u hu
  have e := Lib.cell_of_heap (heap_alloc_new W (.cells #[x] t)) j
  rw [Addr.add_lit, Nat.zero_add, e]
  simpa using hu

theorem values_any (a : Option Addr) (len cap : Nat) (w : World) :
    Calls Tryz.prog 40 #[.slice a len cap] w fun e w' => e = .returned (.func (.func 56) #[] #[.pointer (some ⟨w.heap.size, 0, none⟩)]) ∧ w' = w.alloc (.cells #[.slice a len cap] 25) := by
  go_enter Tryz.func40, Tryz.ntmps40
  go_wp2
  go_ret
  exact ⟨rfl, rfl⟩

set_option maxRecDepth 100000 in
set_option maxHeartbeats 2000000 in
theorem values_seq (b off cap Bs : Nat) (zs : List Int) (hz : zs.length ≤ 1048576) (w : World) (hBl : Bs < w.heap.size) (hbl : b < w.heap.size) (hBs : w.cell? ⟨Bs, 0, none⟩ = some (.slice (some ⟨b, off, none⟩) zs.length cap)) (hc : ∀ j (hj : j < zs.length), w.cell? ⟨b, off + j, none⟩ = some (.int .i64 zs[j])) :
    SeqT Tryz.prog 56 #[.pointer (some ⟨Bs, 0, none⟩)] (fun x : Int => #[Value.int .i64 x]) zs (fun _ => False) (fun _ => False) w.heap.size w := by
  intro n l J Jx W hW hl hJ hJx hY h0
  refine callsIn_of_wp Tryz.func56 rfl trivial ?_ rfl
  simp only [Tryz.ntmps56, List.size_toArray, List.length_cons, List.length_nil, Nat.reduceAdd, Nat.reduceSub, Array.replicate_succ, Array.replicate_zero, List.push_toArray, List.append_toArray, List.nil_append, List.cons_append]
  have q0 := (hW.cell (p := ⟨Bs, 0, none⟩) hBl).trans hBs
  gi_wp2
  gi_loopw [7] (fun i wr => ∃ k : Nat, k ≤ zs.length ∧ i = .int .i64 k ∧ J (zs.take k) wr ∧ Below w.heap.size w wr) (fun i _ => zs.length - (intOf i).toNat)
  case atStart => exact ⟨0, Nat.zero_le _, rfl, h0, hW⟩
  case round =>
    obtain ⟨k, hk, rfl, hJs, hnx⟩ := hrel
    by_cases hlt : k < zs.length
    · have q := (hnx.cell (p := ⟨b, off + k, none⟩) hbl).trans (hc k hlt)
      have HT : Hid (zs.take (k + 1) = zs.take k ++ [zs[k]]) := by show _ = _; rw [List.take_succ_eq_append_getElem hlt]
      have HP : Hid (zs.take k ++ [zs[k]] <+: zs) := by show _ <+: _; rw [← HT.out]; exact List.take_prefix _ _
      obtain ⟨fn, tmps, assign, body, hy, hR⟩ := hY (n - 1) _ zs[k] wr hJs HP.out
      rw [← HT.out] at hR
      gi_wp2
      refine hR.mono ?_
      rintro e W3 (⟨rfl, hJ3, hk3⟩ | ⟨rfl, hJx3, hk3⟩)
      · gi_wp2
        go_roundw
        case rel => exact ⟨k + 1, by omega, by simp, hJ3, hnx.trans hk3.below⟩
        case measure => simp [intOf]; omega
      · gi_wp2
        refine bodyPost_ret (results_none rfl _ _ _) rfl ?_
        exact ⟨⟨_, rfl⟩, .inr ⟨zs.take k, zs[k], HP.out, by rw [← HT.out]; exact hJx3⟩⟩
    · have e : k = zs.length := by omega
      rw [e, List.take_length] at hJs
      gi_wp2
      go_end0
      exact ⟨⟨_, rfl⟩, .inl hJs⟩

set_option maxRecDepth 100000 in
set_option maxHeartbeats 4000000 in
theorem appendSeq_any (b off cap Bs : Nat) (zs : List Int) (hz : zs.length ≤ 1048576) (w : World) (hBl : Bs < w.heap.size) (hbl : b < w.heap.size) (hBs : w.cell? ⟨Bs, 0, none⟩ = some (.slice (some ⟨b, off, none⟩) zs.length cap)) (hc : ∀ j (hj : j < zs.length), w.cell? ⟨b, off + j, none⟩ = some (.int .i64 zs[j])) :
    Calls Tryz.prog 68 #[.slice none 0 0, .func (.func 56) #[] #[.pointer (some ⟨Bs, 0, none⟩)]] w fun e w' => ∃ v, e = .returned v ∧ OwnInts w' w.heap.size 3 v zs ∧ Below w.heap.size w w' := by
  obtain ⟨i0, hi0, hz0, hz1, hz2⟩ := info_parts Tryz.infoInt
  refine (callsIn_wide (n := 0)).1 (callsIn_of_wp_marks Tryz.func68 rfl trivial ?_ rfl)
  simp only [Tryz.ntmps68, List.size_toArray, List.length_cons, List.length_nil, Nat.reduceAdd, Nat.reduceSub, Array.replicate_succ, Array.replicate_zero, List.push_toArray, List.append_toArray, List.nil_append, List.cons_append]
  gi_wp2
  obtain ⟨Wz, hWz⟩ : ∃ Wz, w.alloc (.cells #[.slice none 0 0] 25) = Wz := ⟨_, rfl⟩
  rw [hWz]
  have bz : Below w.heap.size w Wz := by rw [← hWz]; exact (Below.refl _ _).alloc (Nat.le_refl _) _
  have hz1' : w.heap.size + 1 ≤ Wz.heap.size := by rw [← hWz]; simp
  have ho0 : Boxed Wz w.heap.size 25 (.slice none 0 0) := by rw [← hWz]; exact Boxed.new w 25 (.slice none 0 0)
  have hseq := values_seq b off cap Bs zs hz w hBl hbl hBs hc
  clear hWz
  refine wpIn_rangeT (gf := 56) (lb := #[.pointer (some ⟨Bs, 0, none⟩)]) rfl (enters_of Tryz.func56 (by kernel_rfl) rfl) hseq bz (by omega) (fun _ => rfl)
    (fun pre W' => (∃ v, Boxed W' w.heap.size 25 v ∧ OwnInts W' w.heap.size 3 v pre) ∧ Below w.heap.size w W' ∧ Wz.heap.size ≤ W'.heap.size)
    (fun _ _ _ => False)
    ?hI (fun _ _ _ _ hx _ => hx) ⟨⟨_, ho0, OwnInts.nil _ _ _⟩, bz, Nat.le_refl _⟩
    (fun x a' W' => a' = { tmps := #[.slice none 0 0, .func (.func 56) #[] #[.pointer (some ⟨Bs, 0, none⟩)], .pointer (some ⟨w.heap.size, 0, none⟩), undef, .slice none 0 0, .int .i64 x, .func (.func 56) #[] #[.pointer (some ⟨Bs, 0, none⟩)], .int .i64 x, undef, undef, undef, undef, undef], defers := [] }) ?hAx ?assign ?body ?done ?stop
  case hI =>
    rintro pre W' W'' ⟨⟨v, hv, ho⟩, hb, hsz⟩ hw
    refine ⟨⟨v, ?_, ownsRow_staysV ho hw (fun h => h)⟩, hb.trans (within_belowV hw (by omega) (by omega)), Nat.le_trans hsz hw.size⟩
    exact hw.same hv (fun hk => by have := hk.1; omega)
  case hAx =>
    rintro x a' W' l' r r' h1 hr
    exact h1
  case assign =>
    intro l2 m pre x W' K2 hI hp hK2
    gi_wp2
    exact hK2 _ _ (Below.refl _ _) rfl
  case body =>
    rintro l2 m pre y a' W' hl2 hl3 ⟨⟨v, hv, ho⟩, hb, hsz⟩ rfl hp
    have hpl : pre.length + 1 ≤ 2097152 := by
      have := hp.length_le
      rw [List.length_append, List.length_singleton] at *
      omega
    have hc := hv.cell
    have hb1 : w.heap.size < W'.heap.size := by omega
    have hww : w.heap.size ≤ W'.heap.size := by omega
    have hrow : W'.ownsRow w.heap.size 3 1 v pre.length (pre.map (Value.int .i64)) := ho
    gi_wp2_with (first
      | (gi_at_builtin; refine wpListIn_append_own _ rfl _ _ 25 rfl w.heap.size 3 i0 (.int .i64 0) 1 8 Tryz.underlying25 hi0 hz0 hz1 hz2 rfl (by decide) _ _ _ rfl (World.ownsRow.alloc hrow _) ⟨W'.heap.size, 0, none⟩ 1 1 [.int .i64 y] rfl rfl (new_one_cV _ _ _) (by simp [Value.oneCell']) (by simp [maxLen]; omega) (by omega) (by simp; omega) ?_; intro v' w4 hown' hgrow _; obtain ⟨g4, cap4, rfl⟩ := ownsRow_succ hown'; obtain ⟨hv4, hv5, hr5, hk5, hb5⟩ := hv.appended (by decide) hrow hww (by omega) hown' hgrow; have hc4 := hv4.cell; have hf4 := hv4.frozen))
    refine ⟨⟨?_, fun k cur t p ht hk2 => ht.elim, hk5.from _⟩, ⟨_, hv5, ?_⟩, hb.trans hb5, Nat.le_trans hsz hk5.size⟩
    · exact hb5
    · unfold OwnInts
      simpa using hr5
  case done =>
    rintro D W' hD ⟨⟨v, hv, ho⟩, hb, hsz⟩ hd
    have hc := hv.cell
    have HO : Hid (OwnInts W' w.heap.size 3 v zs) := ho
    obtain ⟨av, cv, rfl, _⟩ := ho.shape
    clear ho
    gi_wp2
    refine leaves_marks (B := Wz.heap.size) [D] W' ⟨by simp, fun x hx => ?_⟩ fun w' hw' => ⟨_, results_tmp rfl _ _ _, _, rfl, ?_⟩
    · simp at hx; subst hx; exact ⟨hD, hd⟩
    · have hst : Within W' w' (Theirs (fun _ => False) Wz.heap.size W') := hw'.mono (fun k hk => ⟨hk.1, hk.2.elim fun o ho => ⟨o, ho.1, .inl ho.2⟩⟩)
      exact ⟨ownsRow_staysV HO.out hst (fun e => e), hb.trans (within_belowV hst (by omega) (by omega))⟩
  case stop =>
    rintro D c pre x W' _ _ h _
    exact h.elim

theorem collect_any (b off cap Bs : Nat) (zs : List Int) (hz : zs.length ≤ 1048576) (w : World) (hBl : Bs < w.heap.size) (hbl : b < w.heap.size) (hBs : w.cell? ⟨Bs, 0, none⟩ = some (.slice (some ⟨b, off, none⟩) zs.length cap)) (hc : ∀ j (hj : j < zs.length), w.cell? ⟨b, off + j, none⟩ = some (.int .i64 zs[j])) :
    Calls Tryz.prog 54 #[.func (.func 56) #[] #[.pointer (some ⟨Bs, 0, none⟩)]] w fun e w' => ∃ v, e = .returned v ∧ OwnInts w' w.heap.size 3 v zs ∧ Below w.heap.size w w' := by
  have X := appendSeq_any b off cap Bs zs hz w hBl hbl hBs hc
  clear hBs hc
  go_enter Tryz.func54, Tryz.ntmps54
  go_wp2_with fail
  refine X.mono ?_
  rintro e w1 ⟨v, rfl, hO, hb⟩
  go_wp2
  go_ret
  exact ⟨v, rfl, hO, hb⟩
end Go.Proofs.YthnppodnjokaoaaGreatDoor
