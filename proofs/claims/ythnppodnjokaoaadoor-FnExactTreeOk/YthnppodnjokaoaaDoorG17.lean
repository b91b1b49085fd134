/-
  Contracts and plain mathematics, joined: SpecNode, SpecL5Starts, SpecStarts, SpecCheck. No statement is proved here.
-/
import Derived.Test.YthnppodnjokaoaaDoorG13
import Derived.Test.YthnppodnjokaoaaDoorG3
import Derived.Test.YthnppodnjokaoaaDoorG8
import Derived.Test.YthnppodnjokaoaaDoorG16
import Derived.Test.YthnppodnjokaoaaDoorG5
namespace Go.Proofs.YthnppodnjokaoaaDoor
open Go.RowKit

theorem within_below3 {w w' : World} {M : Nat → Prop} {n : Nat} (h : Within w w' M) (hM : ∀ k, M k → n ≤ k) (hw : n ≤ w.heap.size) : Below n w w' :=
  ⟨h.os, h.tape, h.output, h.size, fun k hk => h.block k (Nat.lt_of_lt_of_le hk hw) (fun ht => by have := hM k ht; omega)⟩
theorem altB_in {P : List (List (List Int))} {k a : Int} : altB P k a = (inB k 0 ((P.length : Int) - 1) && inB a 0 (((P.getD k.toNat []).length : Int) - 1)) := by
  rw [Bool.eq_iff_iff]
  simp only [altB, Bool.and_eq_true, decide_eq_true_eq, inB_true]
  omega

set_option maxHeartbeats 400000 in
set_option maxRecDepth 100000 in
theorem l9Node_any (P : List (List (List Int))) (a0 : Option Addr) (c0 : Nat) (ns : List Nd) (a1 : Option Addr) (c1 : Nat) (i : Nat) (w : World) (h0 : RD w (.slice a0 P.length c0) (slD (Lay.list (Lay.list Lay.int)) P)) (h1 : RD w (.slice a1 ns.length c1) (slD Lay.node ns)) (hs : Shaped ns) (_ : ns.length ≤ 1048576) (hsum : Lay.node.sumL ns ≤ 1048576) (hi : i < ns.length) (F : Fits P) :
    Calls Tryd.prog 31 #[.agg #[.slice a0 P.length c0], .agg #[.slice a1 ns.length c1], .int .i64 (i : Int)] w fun e w' => e = .returned (.bool (okNd P ns ns[i])) ∧ Below w.heap.size w w' := by
  obtain ⟨b1, o1, rfl, hb1, ⟨p0, p1, p2, p3⟩, ax, cx, p4, r1⟩ := h1.atNode hi
  have HRX : Hid (Reads w ax ns[i].kids) := r1.reads
  have hkl := kids_len hsum hi
  have hp20 := F.parts
  have HKI : Hid (∀ z ∈ ns[i].kids, ∃ k : Nat, z = k ∧ k < ns.length) := kids_in hs hi
  have hiI : (i : Int) < (ns.length : Int) := by omega
  have B0 : Below w.heap.size w ((w.alloc (.cells #[.slice a0 P.length c0] 28)).alloc (.cells #[.slice (some ⟨b1, o1, none⟩) ns.length c1] 43)) := ((Below.refl _ _).alloc (Nat.le_refl _) _).alloc (by simp) _
  have p0' := (B0.cell (p := ⟨b1, _, none⟩) hb1).trans p0
  have p1' := (B0.cell (p := ⟨b1, _, none⟩) hb1).trans p1
  have p2' := (B0.cell (p := ⟨b1, _, none⟩) hb1).trans p2
  have p3' := (B0.cell (p := ⟨b1, _, none⟩) hb1).trans p3
  have p4' := (B0.cell (p := ⟨b1, _, none⟩) hb1).trans p4
  obtain ⟨x, hx⟩ : ∃ x, x = ns[i] := ⟨_, rfl⟩
  rw [← hx] at p0' p1' p2' p3' p4' HRX HKI hkl ⊢
  clear p0 p1 p2 p3 p4 r1 hx
  by_cases hk0 : x.kind = 0
  · have hr : okNd P ns x = true := by simp [okNd, hk0]
    rw [hr]
    rw [hk0] at p0'
    clear h0 h1 HRX HKI hk0 hr
    go_enter Tryd.func31, Tryd.ntmps31
    go_wp2
    go_ret
    exact ⟨rfl, B0.alloc (by simp; omega) _⟩
  · have hk0b : (x.kind == 0) = false := by simpa using hk0
    by_cases hk1 : x.kind = 1
    · have hk1p := p0'
      rw [hk1] at p0' hk0b
      clear hk1p hk0
      by_cases hsB : inB x.sym 0 ((P.length : Int) - 1) = true
      · obtain ⟨z1, z2⟩ := inB_true.1 hsB
        obtain ⟨kn, hkn0⟩ := Int.eq_ofNat_of_zero_le z1
        have hkn : kn < P.length := by omega
        obtain ⟨b3, o3, rfl, hb3, a4, c4, t3, r4⟩ := h0.listAt hkn
        have t3' := (B0.cell (p := ⟨b3, _, none⟩) hb3).trans t3
        have hknI : (kn : Int) < (P.length : Int) := by omega
        have hq8 := F.alts _ (List.getElem_mem hkn)
        have hPk : P.getD x.sym.toNat [] = P[kn] := by rw [hkn0]; simp [List.getD, hkn]
        by_cases haB : inB x.alt 0 ((P[kn].length : Int) - 1) = true
        · obtain ⟨y1, y2⟩ := inB_true.1 haB
          obtain ⟨an, han0⟩ := Int.eq_ofNat_of_zero_le y1
          have han : an < P[kn].length := by omega
          obtain ⟨b4, o4, rfl, hb4, a5, c5, t4, r5⟩ := r4.listAt han
          have HR5 : Hid (Reads w a5 P[kn][an]) := r5.reads
          have hl8 := F.rows _ (List.getElem_mem hkn) _ (List.getElem_mem han)
          have hr : okNd P ns x = decide (x.kids.map (fun k => symNd (ndAt ns k.toNat)) = P[kn][an]) := by
            have e1 : rowAt P x.sym x.alt = P[kn][an] := by simp [rowAt, hkn0, han0, List.getD, hkn, han]
            simp only [okNd, oneOfB, hk1, altB_in, hPk, hsB, haB, e1]; simp
          obtain ⟨R, hR0⟩ : ∃ R, decide (x.kids.map (fun k => symNd (ndAt ns k.toNat)) = P[kn][an]) = R := ⟨_, rfl⟩
          have HR : Hid (decide (x.kids.map (fun k => symNd (ndAt ns k.toNat)) = P[kn][an]) = R) := hR0
          clear hR0
          rw [hr, HR.out]
          have hanI : (an : Int) < (P[kn].length : Int) := by omega
          have HND : Hid (∀ (k : Nat) (hk : k < ns.length), w.cell? ⟨b1, o1 + k * 5, none⟩ = some (.int .i64 ns[k].kind) ∧ w.cell? ⟨b1, o1 + k * 5 + 1, none⟩ = some (.int .i64 ns[k].sym) ∧ w.cell? ⟨b1, o1 + k * 5 + 2, none⟩ = some (.int .i64 ns[k].alt) ∧ w.cell? ⟨b1, o1 + k * 5 + 3, none⟩ = some (.int .i64 ns[k].pl) ∧ ∃ ay cy, w.cell? ⟨b1, o1 + k * 5 + 4, none⟩ = some (.slice ay ns[k].kids.length cy)) := fun k hk => by
            obtain ⟨b, off, e, _, ⟨g0, g1, g2, g3⟩, ay, cy, g4, _⟩ := h1.atNode hk
            cases e
            exact ⟨g0, g1, g2, g3, ay, cy, g4⟩
          rw [hkn0] at p1' hsB
          rw [han0] at p2' haB
          obtain ⟨wB, hwB⟩ : ∃ y, y = ((w.alloc (.cells #[.slice (some ⟨b3, o3, none⟩) P.length c0] 28)).alloc (.cells #[.slice (some ⟨b1, o1, none⟩) ns.length c1] 43)).alloc (.cells #[.int .i64 1, .int .i64 (kn : Int), .int .i64 (an : Int), .int .i64 x.pl, .slice ax x.kids.length cx] 55) := ⟨_, rfl⟩
          have BWB : Below w.heap.size w wB := by rw [hwB]; exact B0.alloc (by simp; omega) _
          have HWB : Hid (Below w.heap.size w wB) := BWB
          have hsB3 : wB.heap.size = w.heap.size + 1 + 1 + 1 := by rw [hwB]; simp
          have QB : Hid (wB.cell? ⟨w.heap.size, 0, none⟩ = some (.slice (some ⟨b3, o3, none⟩) P.length c0) ∧ wB.cell? ⟨w.heap.size + 1, 0, none⟩ = some (.slice (some ⟨b1, o1, none⟩) ns.length c1) ∧ wB.cell? ⟨w.heap.size + 1 + 1, 1, none⟩ = some (.int .i64 (kn : Int)) ∧ wB.cell? ⟨w.heap.size + 1 + 1, 2, none⟩ = some (.int .i64 (an : Int)) ∧ wB.cell? ⟨w.heap.size + 1 + 1, 4, none⟩ = some (.slice ax x.kids.length cx)) := by
            rw [hwB]
            refine ⟨?_, ?_, ?_, ?_, ?_⟩
            all_goals simp [go_sem]
          have HSB3 : Hid (wB.heap.size = w.heap.size + 1 + 1 + 1) := hsB3
          have HO0 : Hid (∀ nq, OwnInts (((((w.alloc (.cells #[.slice (some ⟨b3, o3, none⟩) P.length c0] 28)).alloc (.cells #[.slice (some ⟨b1, o1, none⟩) ns.length c1] 43)).alloc (.cells #[.int .i64 1, .int .i64 (kn : Int), .int .i64 (an : Int), .int .i64 x.pl, .slice ax x.kids.length cx] 55)).drewN nq).alloc (.cells #[] 3)) (w.heap.size + 1 + 1 + 1) 3 (.slice (some ⟨w.heap.size + 1 + 1 + 1, 0, none⟩) 0 0) []) := fun nq => by
            rw [← hwB, ← hsB3]
            exact OwnInts.empty (w := wB.drewN nq) (base := wB.heap.size) (e := 3) (by simp)
          have HB0 : Hid (∀ nq, Below (w.heap.size + 1 + 1 + 1) wB (((((w.alloc (.cells #[.slice (some ⟨b3, o3, none⟩) P.length c0] 28)).alloc (.cells #[.slice (some ⟨b1, o1, none⟩) ns.length c1] 43)).alloc (.cells #[.int .i64 1, .int .i64 (kn : Int), .int .i64 (an : Int), .int .i64 x.pl, .slice ax x.kids.length cx] 55)).drewN nq).alloc (.cells #[] 3))) := fun nq => by
            rw [← hwB, ← hsB3]
            exact (below_drew nq).alloc (by simp) _
          have t3a : ∀ o, (((w.alloc (.cells #[.slice (some ⟨b3, o3, none⟩) P.length c0] 28)).alloc (.cells #[.slice (some ⟨b1, o1, none⟩) ns.length c1] 43)).alloc o).cell? ⟨b3, o3 + kn, none⟩ = some (.slice (some ⟨b4, o4, none⟩) P[kn].length c4) := fun o => ((B0.alloc (by simp; omega) o).cell (p := ⟨b3, o3 + kn, none⟩) hb3).trans t3
          have HT3 : Hid (w.cell? ⟨b3, o3 + kn, none⟩ = some (.slice (some ⟨b4, o4, none⟩) P[kn].length c4)) := t3
          have HT4 : Hid (w.cell? ⟨b4, o4 + an, none⟩ = some (.slice a5 P[kn][an].length c5)) := t4
          clear h0 h1 hk1 hr hPk r4 z1 z2 hkn0 han0 y1 y2 r5 t3' t3 t4 hwB BWB hsB3
          generalize P[kn][an] = row at *
          generalize P[kn] = Q at *
          have hwr : IntKind.i64.wrap ((P.length : Int) - 1) = (P.length : Int) - 1 := by rw [IntKind.wrap_i64]; omega
          have hwq : IntKind.i64.wrap ((Q.length : Int) - 1) = (Q.length : Int) - 1 := by rw [IntKind.wrap_i64]; omega
          go_enter Tryd.func31, Tryd.ntmps31
          go_wp2_with fail
          go_quiet ((go_at_call 41; exact Calls.quiet_of_same (l1In_any _ _ _ _)))
          go_wp2
          go_loopw [8, 9] (fun u8 u9 wr => ∃ j : Nat, ∃ vo, j ≤ x.kids.length ∧ u9 = .int .i64 (j : Int) ∧ u8 = vo ∧ Hid (OwnInts wr (w.heap.size + 1 + 1 + 1) 3 vo ((x.kids.take j).map (fun k => symNd (ndAt ns k.toNat)))) ∧ Hid (Below (w.heap.size + 1 + 1 + 1) wB wr)) (fun _ u9 _ => x.kids.length - (intOf u9).toNat)
          case atStart => exact ⟨0, _, Nat.zero_le _, rfl, rfl, HO0.out _, HB0.out _⟩
          case round =>
            obtain ⟨j, vo, hj, rfl, hvo, HO, HB⟩ := hrel
            replace hvo := hvo.symm
            subst hvo
            clear HO0 HB0 t3a p0' p1' p2' p3' p4' hsB haB
            obtain ⟨wA, hwA⟩ : ∃ y, y = wr := ⟨_, rfl⟩
            subst hwA
            have hszA : w.heap.size + 1 + 1 + 1 ≤ wA.heap.size := by have h1 := HB.out.size; rw [HSB3.out] at h1; exact h1
            have HBA : Hid (Below w.heap.size w wA) := HWB.out.trans (HB.out.mono (by omega))
            obtain ⟨e0, e1, e2, e3, e4⟩ := QB.out
            by_cases hlt : j < x.kids.length
            · have q0 := (HB.out.cell (p := ⟨w.heap.size + 1, 0, none⟩) (by show w.heap.size + 1 < _; omega)).trans e1
              have q1 := (HB.out.cell (p := ⟨w.heap.size + 1 + 1, 4, none⟩) (by show w.heap.size + 1 + 1 < _; omega)).trans e4
              obtain ⟨b2, o2, rfl, hb2, hcc⟩ := HRX.out.at hlt
              have q2' := (HBA.out.cell (p := ⟨b2, o2 + j, none⟩) hb2).trans (hcc j hlt)
              have hgd : x.kids.getD j 0 = x.kids[j] := by simp [List.getD, hlt]
              obtain ⟨kd2, hkd2, hkl2⟩ := HKI.out x.kids[j] (List.getElem_mem hlt)
              rw [hgd, hkd2] at q2'
              have q2 : wA.cell? ⟨b2, o2 + j, none⟩ = some (.int .i64 (kd2 : Int)) := q2'
              obtain ⟨g0, g1, g2, g3, ay, cy, g4⟩ := HND.out kd2 hkl2
              have q3 := (HBA.out.cell (p := ⟨b1, o1 + kd2 * 5, none⟩) hb1).trans g0
              have q4 := (HBA.out.cell (p := ⟨b1, o1 + kd2 * 5 + 1, none⟩) hb1).trans g1
              have q5 := (HBA.out.cell (p := ⟨b1, o1 + kd2 * 5 + 2, none⟩) hb1).trans g2
              have q6 := (HBA.out.cell (p := ⟨b1, o1 + kd2 * 5 + 3, none⟩) hb1).trans g3
              have q7 := (HBA.out.cell (p := ⟨b1, o1 + kd2 * 5 + 4, none⟩) hb1).trans g4
              have HTK : Hid ((x.kids.take (j + 1)).map (fun k => symNd (ndAt ns k.toNat)) = (x.kids.take j).map (fun k => symNd (ndAt ns k.toNat)) ++ [symNd ns[kd2]]) := by
                show _ = _
                rw [List.take_succ_eq_append_getElem hlt, List.map_append, hkd2]
                simp [ndAt_get hkl2]
              have X : Hid (∀ W, Below wA.heap.size wA W → Calls Tryd.prog 56 #[.agg #[.int .i64 ns[kd2].kind, .int .i64 ns[kd2].sym, .int .i64 ns[kd2].alt, .int .i64 ns[kd2].pl, .slice ay ns[kd2].kids.length cy]] W fun e w' => e = .returned (.int .i64 (symNd ns[kd2])) ∧ Below W.heap.size W w') := fun W _ => l9Symbol_any ns[kd2] ay cy W
              have HLT : Hid (((x.kids.take j).map (fun k => symNd (ndAt ns k.toNat))).length ≤ 1048576) := by show _ ≤ _; rw [List.length_map, List.length_take]; omega
              have hjI : (j : Int) < (x.kids.length : Int) := by omega
              have hkdI : (kd2 : Int) < (ns.length : Int) := by omega
              have hb1A : b1 < wA.heap.size := by omega
              have hb2A : b2 < wA.heap.size := by omega
              clear hcc q2' hgd hkd2 g0 g1 g2 g3 g4 HND HKI HRX e0 e1 e2 e3 e4
              generalize ns[kd2] = y at *
              generalize symNd y = sy at *
              generalize (x.kids.take j).map (fun k => symNd (ndAt ns k.toNat)) = O at *
              go_wp2_with fail
              refine wp_region_held_drew (S := (fun w' => w'.cell? ⟨w.heap.size + 1, 0, none⟩ = some (.slice (some ⟨b1, o1, none⟩) ns.length c1) ∧ w'.cell? ⟨w.heap.size + 1 + 1, 4, none⟩ = some (.slice (some ⟨b2, o2, none⟩) x.kids.length cx) ∧ w'.cell? ⟨b2, o2 + j, none⟩ = some (.int .i64 ((kd2 : Int))) ∧ w'.cell? ⟨b1, o1 + kd2 * 5, none⟩ = some (.int .i64 (y.kind)) ∧ w'.cell? ⟨b1, o1 + kd2 * 5 + 1, none⟩ = some (.int .i64 (y.sym)) ∧ w'.cell? ⟨b1, o1 + kd2 * 5 + 2, none⟩ = some (.int .i64 (y.alt)) ∧ w'.cell? ⟨b1, o1 + kd2 * 5 + 3, none⟩ = some (.int .i64 (y.pl)) ∧ w'.cell? ⟨b1, o1 + kd2 * 5 + 4, none⟩ = some (.slice ay y.kids.length cy))) (by kernel_rfl) ⟨q0, q1, q2, q3, q4, q5, q6, q7⟩ (fun hHeld => ?_)
              refine take_atL (i := 0) (d := some 53) (v := vo) rfl rfl (by kernel_rfl) (by kernel_rfl) (by kernel_rfl) (fun _ _ _ h => h) (by rfl) ?_ hHeld ?_
              · intro w' hSw; obtain ⟨s0, s1, s2, s3, s4, s5, s6, s7⟩ := hSw; go_simp; first | done | rfl | (intro hbad; exfalso; omega) | omega
              try simp only [Act.put, List.setIfInBounds_toArray, List.set_cons_zero, List.set_cons_succ]
              refine take_atL (i := 1) (d := some 54) (v := .pointer (some ⟨w.heap.size + 1, 0, none⟩)) rfl rfl (by kernel_rfl) (by kernel_rfl) (by kernel_rfl) (fun _ _ _ h => h) (by rfl) ?_ hHeld ?_
              · intro w' hSw; obtain ⟨s0, s1, s2, s3, s4, s5, s6, s7⟩ := hSw; go_simp; first | done | rfl | (intro hbad; exfalso; omega) | omega
              try simp only [Act.put, List.setIfInBounds_toArray, List.set_cons_zero, List.set_cons_succ]
              refine take_atL (i := 2) (d := some 55) (v := .slice (some ⟨b1, o1, none⟩) ns.length c1) rfl rfl (by kernel_rfl) (by kernel_rfl) (by kernel_rfl) (fun _ _ _ h => h) (by rfl) ?_ hHeld ?_
              · intro w' hSw; obtain ⟨s0, s1, s2, s3, s4, s5, s6, s7⟩ := hSw; go_simp; first | done | rfl | (intro hbad; exfalso; omega) | omega
              try simp only [Act.put, List.setIfInBounds_toArray, List.set_cons_zero, List.set_cons_succ]
              refine take_atL (i := 3) (d := some 56) (v := .pointer (some ⟨w.heap.size + 1 + 1, 4, none⟩)) rfl rfl (by kernel_rfl) (by kernel_rfl) (by kernel_rfl) (fun _ _ _ h => h) (by rfl) ?_ hHeld ?_
              · intro w' hSw; obtain ⟨s0, s1, s2, s3, s4, s5, s6, s7⟩ := hSw; go_simp; first | done | rfl | (intro hbad; exfalso; omega) | omega
              try simp only [Act.put, List.setIfInBounds_toArray, List.set_cons_zero, List.set_cons_succ]
              refine take_atL (i := 4) (d := some 57) (v := .slice (some ⟨b2, o2, none⟩) x.kids.length cx) rfl rfl (by kernel_rfl) (by kernel_rfl) (by kernel_rfl) (fun _ _ _ h => h) (by rfl) ?_ hHeld ?_
              · intro w' hSw; obtain ⟨s0, s1, s2, s3, s4, s5, s6, s7⟩ := hSw; go_simp; first | done | rfl | (intro hbad; exfalso; omega) | omega
              try simp only [Act.put, List.setIfInBounds_toArray, List.set_cons_zero, List.set_cons_succ]
              refine take_atL (i := 5) (d := some 58) (v := .int .i64 ((j : Int))) rfl rfl (by kernel_rfl) (by kernel_rfl) (by kernel_rfl) (fun _ _ _ h => h) (by rfl) ?_ hHeld ?_
              · intro w' hSw; obtain ⟨s0, s1, s2, s3, s4, s5, s6, s7⟩ := hSw; go_simp; first | done | rfl | (intro hbad; exfalso; omega) | omega
              try simp only [Act.put, List.setIfInBounds_toArray, List.set_cons_zero, List.set_cons_succ]
              refine take_atL (i := 6) (d := some 59) (v := .pointer (some ⟨b2, o2 + j, none⟩)) rfl rfl (by kernel_rfl) (by kernel_rfl) (by kernel_rfl) (fun _ _ _ h => h) (by rfl) ?_ hHeld ?_
              · intro w' hSw; obtain ⟨s0, s1, s2, s3, s4, s5, s6, s7⟩ := hSw; go_simp; first | done | rfl | (intro hbad; exfalso; omega) | omega
              try simp only [Act.put, List.setIfInBounds_toArray, List.set_cons_zero, List.set_cons_succ]
              refine take_atL (i := 7) (d := some 60) (v := .int .i64 ((kd2 : Int))) rfl rfl (by kernel_rfl) (by kernel_rfl) (by kernel_rfl) (fun _ _ _ h => h) (by rfl) ?_ hHeld ?_
              · intro w' hSw; obtain ⟨s0, s1, s2, s3, s4, s5, s6, s7⟩ := hSw; go_simp; first | done | rfl | (intro hbad; exfalso; omega) | omega
              try simp only [Act.put, List.setIfInBounds_toArray, List.set_cons_zero, List.set_cons_succ]
              refine take_atL (i := 8) (d := some 61) (v := .pointer (some ⟨b1, o1 + kd2 * 5, none⟩)) rfl rfl (by kernel_rfl) (by kernel_rfl) (by kernel_rfl) (fun _ _ _ h => h) (by rfl) ?_ hHeld ?_
              · intro w' hSw; obtain ⟨s0, s1, s2, s3, s4, s5, s6, s7⟩ := hSw; go_simp; first | done | rfl | (intro hbad; exfalso; omega) | omega
              try simp only [Act.put, List.setIfInBounds_toArray, List.set_cons_zero, List.set_cons_succ]
              refine take_atL (i := 9) (d := some 62) (v := .agg #[.int .i64 y.kind, .int .i64 y.sym, .int .i64 y.alt, .int .i64 y.pl, .slice ay y.kids.length cy]) rfl rfl (by kernel_rfl) (by kernel_rfl) (by kernel_rfl) (fun _ _ _ h => h) (by rfl) ?_ hHeld ?_
              · intro w' hSw; obtain ⟨s0, s1, s2, s3, s4, s5, s6, s7⟩ := hSw; go_simp; first | done | rfl | (intro hbad; exfalso; omega) | omega
              try simp only [Act.put, List.setIfInBounds_toArray, List.set_cons_zero, List.set_cons_succ]
              refine wpAnyH_ready (rs := [10]) (by kernel_rfl) (by simp) ?_
              refine AllReadyH.cons (o := _) rfl (fun K hK => ?_) AllReadyH.nil
              rw [if_pos (by rfl)]
              go_simp
              refine (X.out _ (Below.drew (Below.refl _ _))).mono ?_
              rintro e w5 ⟨rfl, hb5'⟩
              have hb5 : Below wA.heap.size wA w5 := Below.drewed (by simpa using hb5')
              have hs5 := hb5.size
              replace q0 := (hb5.cell (p := ⟨w.heap.size + 1, 0, none⟩) (by show w.heap.size + 1 < _; omega)).trans q0
              replace q1 := (hb5.cell (p := ⟨w.heap.size + 1 + 1, 4, none⟩) (by show w.heap.size + 1 + 1 < _; omega)).trans q1
              replace q2 := (hb5.cell (p := ⟨b2, o2 + j, none⟩) (by show b2 < _; omega)).trans q2
              replace q3 := (hb5.cell (p := ⟨b1, o1 + kd2 * 5, none⟩) (by show b1 < _; omega)).trans q3
              replace q4 := (hb5.cell (p := ⟨b1, o1 + kd2 * 5 + 1, none⟩) (by show b1 < _; omega)).trans q4
              replace q5 := (hb5.cell (p := ⟨b1, o1 + kd2 * 5 + 2, none⟩) (by show b1 < _; omega)).trans q5
              replace q6 := (hb5.cell (p := ⟨b1, o1 + kd2 * 5 + 3, none⟩) (by show b1 < _; omega)).trans q6
              replace q7 := (hb5.cell (p := ⟨b1, o1 + kd2 * 5 + 4, none⟩) (by show b1 < _; omega)).trans q7
              go_wp2_with fail
              refine hK.out _ _ ⟨q0, q1, q2, q3, q4, q5, q6, q7⟩ (fun hHeld => ?_)
              clear hK K
              try simp only [Act.put, List.setIfInBounds_toArray, List.set_cons_zero, List.set_cons_succ]
              refine wpAnyH_ready (rs := [11]) (by kernel_rfl) (by simp) ?_
              refine AllReadyH.cons (o := _) rfl (fun K hK => ?_) AllReadyH.nil
              rw [if_pos (by rfl)]
              go_simp
              have hbA : Below w5.heap.size w5 (w5.alloc (.cells #[.int .i64 sy] 3)) := (Below.refl _ _).alloc (Nat.le_refl _) _
              replace q0 := (hbA.cell (p := ⟨w.heap.size + 1, 0, none⟩) (by show w.heap.size + 1 < _; omega)).trans q0
              replace q1 := (hbA.cell (p := ⟨w.heap.size + 1 + 1, 4, none⟩) (by show w.heap.size + 1 + 1 < _; omega)).trans q1
              replace q2 := (hbA.cell (p := ⟨b2, o2 + j, none⟩) (by show b2 < _; omega)).trans q2
              replace q3 := (hbA.cell (p := ⟨b1, o1 + kd2 * 5, none⟩) (by show b1 < _; omega)).trans q3
              replace q4 := (hbA.cell (p := ⟨b1, o1 + kd2 * 5 + 1, none⟩) (by show b1 < _; omega)).trans q4
              replace q5 := (hbA.cell (p := ⟨b1, o1 + kd2 * 5 + 2, none⟩) (by show b1 < _; omega)).trans q5
              replace q6 := (hbA.cell (p := ⟨b1, o1 + kd2 * 5 + 3, none⟩) (by show b1 < _; omega)).trans q6
              replace q7 := (hbA.cell (p := ⟨b1, o1 + kd2 * 5 + 4, none⟩) (by show b1 < _; omega)).trans q7
              refine hK.out _ _ ⟨q0, q1, q2, q3, q4, q5, q6, q7⟩ (fun hHeld => ?_)
              clear hK K
              try simp only [Act.put, List.setIfInBounds_toArray, List.set_cons_zero, List.set_cons_succ]
              refine wpAnyH_ready (rs := [12]) (by kernel_rfl) (by simp) ?_
              refine AllReadyH.cons (o := _) rfl (fun K hK => ?_) AllReadyH.nil
              rw [if_pos (by rfl)]
              have HOa : Hid (OwnInts (w5.alloc (.cells #[.int .i64 sy] 3)) (w.heap.size + 1 + 1 + 1) 3 vo O) := (HO.out.below hb5).alloc _
              refine oper_append_ints (.tmp 53) (.tmp 64) 25 rfl (w.heap.size + 1 + 1 + 1) 3 Tryd.underlying25 Tryd.infoInt vo O rfl HOa.out _ _ _ [sy] rfl rfl (Reads.new _ _ _) (by have := HLT.out; simp; omega) (by simp; omega) ?_
              intro v6 w6 hO6 hg6
              have hw6 : Within (w5.alloc (.cells #[.int .i64 sy] 3)) w6 (fun k => vo.ownBlock = some k) := Within.of_grown hg6 (fun k e => e)
              have HOB : Hid (∀ k, vo.ownBlock = some k → w.heap.size + 1 + 1 + 1 ≤ k) := fun k e => (HO.out.block k e).1
              have HO6 : Hid (OwnInts w6 (w.heap.size + 1 + 1 + 1) 3 v6 ((x.kids.take (j + 1)).map (fun k => symNd (ndAt ns k.toNat)))) := by rw [HTK.out]; exact hO6
              have HB6 : Hid (Below (w.heap.size + 1 + 1 + 1) wB w6) := ((HB.out.trans (hb5.mono hszA)).trans (hbA.mono (by omega))).trans (within_below3 hw6 (fun k e => HOB.out k e) (by simp; omega))
              replace q0 := (World.cell?_of_block (a := ⟨w.heap.size + 1, 0, none⟩) (hw6.block (w.heap.size + 1) (by simp; omega) (fun e => by have := HOB.out _ e; omega))).trans q0
              replace q1 := (World.cell?_of_block (a := ⟨w.heap.size + 1 + 1, 4, none⟩) (hw6.block (w.heap.size + 1 + 1) (by simp; omega) (fun e => by have := HOB.out _ e; omega))).trans q1
              replace q2 := (World.cell?_of_block (a := ⟨b2, o2 + j, none⟩) (hw6.block (b2) (by simp; omega) (fun e => by have := HOB.out _ e; omega))).trans q2
              replace q3 := (World.cell?_of_block (a := ⟨b1, o1 + kd2 * 5, none⟩) (hw6.block (b1) (by simp; omega) (fun e => by have := HOB.out _ e; omega))).trans q3
              replace q4 := (World.cell?_of_block (a := ⟨b1, o1 + kd2 * 5 + 1, none⟩) (hw6.block (b1) (by simp; omega) (fun e => by have := HOB.out _ e; omega))).trans q4
              replace q5 := (World.cell?_of_block (a := ⟨b1, o1 + kd2 * 5 + 2, none⟩) (hw6.block (b1) (by simp; omega) (fun e => by have := HOB.out _ e; omega))).trans q5
              replace q6 := (World.cell?_of_block (a := ⟨b1, o1 + kd2 * 5 + 3, none⟩) (hw6.block (b1) (by simp; omega) (fun e => by have := HOB.out _ e; omega))).trans q6
              replace q7 := (World.cell?_of_block (a := ⟨b1, o1 + kd2 * 5 + 4, none⟩) (hw6.block (b1) (by simp; omega) (fun e => by have := HOB.out _ e; omega))).trans q7
              clear hO6 hg6 hw6 hbA HOa HO HB HTK X hb5 hb5'
              refine hK.out _ _ ⟨q0, q1, q2, q3, q4, q5, q6, q7⟩ (fun hHeld => ?_)
              clear hK K
              try simp only [Act.put, List.setIfInBounds_toArray]
              refine take_atL (i := 13) (d := some 8) (v := v6) rfl rfl (by kernel_rfl) (by kernel_rfl) (by kernel_rfl) (fun _ _ _ h => h) (by rfl) ?_ hHeld ?_
              · intro w' hSw; obtain ⟨s0, s1, s2, s3, s4, s5, s6, s7⟩ := hSw; go_simp; first | done | rfl | (intro hbad; exfalso; omega) | omega
              try simp only [Act.put]
              refine wpAnyH_done (by kernel_rfl) ?_ _
              clear hHeld
              go_wp2
              go_roundw
              case rel => exact ⟨j + 1, v6, by omega, by go_num, rfl, HO6, HB6⟩
              case measure => simp [intOf]; omega
            · have hj2 : j = x.kids.length := by omega
              have r0 := (HB.out.cell (p := ⟨w.heap.size, 0, none⟩) (by show w.heap.size < _; omega)).trans e0
              have r1 := (HB.out.cell (p := ⟨w.heap.size + 1 + 1, 1, none⟩) (by show w.heap.size + 1 + 1 < _; omega)).trans e2
              have r2 := (HB.out.cell (p := ⟨w.heap.size + 1 + 1, 2, none⟩) (by show w.heap.size + 1 + 1 < _; omega)).trans e3
              have r3 := (HBA.out.cell (p := ⟨b3, o3 + kn, none⟩) hb3).trans HT3.out
              have r4 := (HBA.out.cell (p := ⟨b4, o4 + an, none⟩) hb4).trans HT4.out
              have q1 := (HB.out.cell (p := ⟨w.heap.size + 1 + 1, 4, none⟩) (by show w.heap.size + 1 + 1 < _; omega)).trans e4
              obtain ⟨L, HL⟩ : ∃ L, Hid (x.kids.map (fun k => symNd (ndAt ns k.toNat)) = L) := ⟨_, rfl⟩
              have hOL : OwnInts wA (w.heap.size + 1 + 1 + 1) 3 vo L := by
                have := HO.out
                rw [hj2, List.take_length, HL.out] at this
                exact this
              have HLL : Hid (L.length ≤ 1048576) := by show _ ≤ _; rw [← HL.out, List.length_map]; omega
              obtain ⟨av, cv, rfl, hrv, _⟩ := hOL.shape
              have X : Hid (∀ W, Below wA.heap.size wA W → Calls Tryd.prog 57 #[.slice av L.length cv, .slice a5 row.length c5] W fun e w' => e = .returned (.bool R) ∧ Below W.heap.size W w') := fun W hW => by
                rw [← HR.out, HL.out]
                exact l1Same_any L row av a5 cv c5 W (hrv.below hW) (HR5.out.below (HBA.out.trans (hW.mono HBA.out.size))) HLL.out
              have hb3A : b3 < wA.heap.size := by omega
              have hb4A : b4 < wA.heap.size := by omega
              have hjn : ¬ (j : Int) < (x.kids.length : Int) := by omega
              clear HO hOL hrv HND HKI HRX e0 e1 e2 e3 e4 HL HLL HR
              go_wp2_with fail
              refine wp_region_held_drew (S := (fun w' => w'.cell? ⟨w.heap.size, 0, none⟩ = some (.slice (some ⟨b3, o3, none⟩) P.length c0) ∧ w'.cell? ⟨w.heap.size + 1 + 1, 1, none⟩ = some (.int .i64 ((kn : Int))) ∧ w'.cell? ⟨w.heap.size + 1 + 1, 2, none⟩ = some (.int .i64 ((an : Int))) ∧ w'.cell? ⟨b3, o3 + kn, none⟩ = some (.slice (some ⟨b4, o4, none⟩) Q.length c4) ∧ w'.cell? ⟨b4, o4 + an, none⟩ = some (.slice a5 row.length c5))) (by kernel_rfl) ⟨r0, r1, r2, r3, r4⟩ (fun hHeld => ?_)
              refine take_atL (i := 0) (d := some 66) (v := .slice av L.length cv) rfl rfl (by kernel_rfl) (by kernel_rfl) (by kernel_rfl) (fun _ _ _ h => h) (by rfl) ?_ hHeld ?_
              · intro w' hSw; obtain ⟨s0, s1, s2, s3, s4⟩ := hSw; go_simp; first | done | rfl | (intro hbad; exfalso; omega) | omega
              try simp only [Act.put, List.setIfInBounds_toArray, List.set_cons_zero, List.set_cons_succ]
              refine take_atL (i := 1) (d := some 67) (v := .pointer (some ⟨w.heap.size, 0, none⟩)) rfl rfl (by kernel_rfl) (by kernel_rfl) (by kernel_rfl) (fun _ _ _ h => h) (by rfl) ?_ hHeld ?_
              · intro w' hSw; obtain ⟨s0, s1, s2, s3, s4⟩ := hSw; go_simp; first | done | rfl | (intro hbad; exfalso; omega) | omega
              try simp only [Act.put, List.setIfInBounds_toArray, List.set_cons_zero, List.set_cons_succ]
              refine take_atL (i := 2) (d := some 68) (v := .slice (some ⟨b3, o3, none⟩) P.length c0) rfl rfl (by kernel_rfl) (by kernel_rfl) (by kernel_rfl) (fun _ _ _ h => h) (by rfl) ?_ hHeld ?_
              · intro w' hSw; obtain ⟨s0, s1, s2, s3, s4⟩ := hSw; go_simp; first | done | rfl | (intro hbad; exfalso; omega) | omega
              try simp only [Act.put, List.setIfInBounds_toArray, List.set_cons_zero, List.set_cons_succ]
              refine take_atL (i := 3) (d := some 69) (v := .pointer (some ⟨w.heap.size + 1 + 1, 1, none⟩)) rfl rfl (by kernel_rfl) (by kernel_rfl) (by kernel_rfl) (fun _ _ _ h => h) (by rfl) ?_ hHeld ?_
              · intro w' hSw; obtain ⟨s0, s1, s2, s3, s4⟩ := hSw; go_simp; first | done | rfl | (intro hbad; exfalso; omega) | omega
              try simp only [Act.put, List.setIfInBounds_toArray, List.set_cons_zero, List.set_cons_succ]
              refine take_atL (i := 4) (d := some 70) (v := .int .i64 ((kn : Int))) rfl rfl (by kernel_rfl) (by kernel_rfl) (by kernel_rfl) (fun _ _ _ h => h) (by rfl) ?_ hHeld ?_
              · intro w' hSw; obtain ⟨s0, s1, s2, s3, s4⟩ := hSw; go_simp; first | done | rfl | (intro hbad; exfalso; omega) | omega
              try simp only [Act.put, List.setIfInBounds_toArray, List.set_cons_zero, List.set_cons_succ]
              refine take_atL (i := 5) (d := some 71) (v := .pointer (some ⟨b3, o3 + kn, none⟩)) rfl rfl (by kernel_rfl) (by kernel_rfl) (by kernel_rfl) (fun _ _ _ h => h) (by rfl) ?_ hHeld ?_
              · intro w' hSw; obtain ⟨s0, s1, s2, s3, s4⟩ := hSw; go_simp; first | done | rfl | (intro hbad; exfalso; omega) | omega
              try simp only [Act.put, List.setIfInBounds_toArray, List.set_cons_zero, List.set_cons_succ]
              refine take_atL (i := 6) (d := some 72) (v := .slice (some ⟨b4, o4, none⟩) Q.length c4) rfl rfl (by kernel_rfl) (by kernel_rfl) (by kernel_rfl) (fun _ _ _ h => h) (by rfl) ?_ hHeld ?_
              · intro w' hSw; obtain ⟨s0, s1, s2, s3, s4⟩ := hSw; go_simp; first | done | rfl | (intro hbad; exfalso; omega) | omega
              try simp only [Act.put, List.setIfInBounds_toArray, List.set_cons_zero, List.set_cons_succ]
              refine take_atL (i := 7) (d := some 73) (v := .pointer (some ⟨w.heap.size + 1 + 1, 2, none⟩)) rfl rfl (by kernel_rfl) (by kernel_rfl) (by kernel_rfl) (fun _ _ _ h => h) (by rfl) ?_ hHeld ?_
              · intro w' hSw; obtain ⟨s0, s1, s2, s3, s4⟩ := hSw; go_simp; first | done | rfl | (intro hbad; exfalso; omega) | omega
              try simp only [Act.put, List.setIfInBounds_toArray, List.set_cons_zero, List.set_cons_succ]
              refine take_atL (i := 8) (d := some 74) (v := .int .i64 ((an : Int))) rfl rfl (by kernel_rfl) (by kernel_rfl) (by kernel_rfl) (fun _ _ _ h => h) (by rfl) ?_ hHeld ?_
              · intro w' hSw; obtain ⟨s0, s1, s2, s3, s4⟩ := hSw; go_simp; first | done | rfl | (intro hbad; exfalso; omega) | omega
              try simp only [Act.put, List.setIfInBounds_toArray, List.set_cons_zero, List.set_cons_succ]
              refine take_atL (i := 9) (d := some 75) (v := .pointer (some ⟨b4, o4 + an, none⟩)) rfl rfl (by kernel_rfl) (by kernel_rfl) (by kernel_rfl) (fun _ _ _ h => h) (by rfl) ?_ hHeld ?_
              · intro w' hSw; obtain ⟨s0, s1, s2, s3, s4⟩ := hSw; go_simp; first | done | rfl | (intro hbad; exfalso; omega) | omega
              try simp only [Act.put, List.setIfInBounds_toArray, List.set_cons_zero, List.set_cons_succ]
              refine take_atL (i := 10) (d := some 76) (v := .slice a5 row.length c5) rfl rfl (by kernel_rfl) (by kernel_rfl) (by kernel_rfl) (fun _ _ _ h => h) (by rfl) ?_ hHeld ?_
              · intro w' hSw; obtain ⟨s0, s1, s2, s3, s4⟩ := hSw; go_simp; first | done | rfl | (intro hbad; exfalso; omega) | omega
              try simp only [Act.put, List.setIfInBounds_toArray, List.set_cons_zero, List.set_cons_succ]
              refine wpAnyH_ready (rs := [11]) (by kernel_rfl) (by simp) ?_
              refine AllReadyH.cons (o := _) rfl (fun K hK => ?_) AllReadyH.nil
              rw [if_pos (by rfl)]
              go_simp
              refine (X.out _ (Below.drew (Below.refl _ _))).mono ?_
              rintro e w6 ⟨rfl, hb6'⟩
              have hb6 : Below wA.heap.size wA w6 := Below.drewed (by simpa using hb6')
              replace r0 := (hb6.cell (p := ⟨w.heap.size, 0, none⟩) (by show w.heap.size < _; omega)).trans r0
              replace r1 := (hb6.cell (p := ⟨w.heap.size + 1 + 1, 1, none⟩) (by show w.heap.size + 1 + 1 < _; omega)).trans r1
              replace r2 := (hb6.cell (p := ⟨w.heap.size + 1 + 1, 2, none⟩) (by show w.heap.size + 1 + 1 < _; omega)).trans r2
              replace r3 := (hb6.cell (p := ⟨b3, o3 + kn, none⟩) (by show b3 < _; omega)).trans r3
              replace r4 := (hb6.cell (p := ⟨b4, o4 + an, none⟩) (by show b4 < _; omega)).trans r4
              go_wp2_with fail
              refine hK.out _ _ ⟨r0, r1, r2, r3, r4⟩ (fun hHeld => ?_)
              clear hK K
              try simp only [Act.put, List.setIfInBounds_toArray, List.set_cons_zero, List.set_cons_succ]
              refine take_atL (i := 12) (d := some 6) (v := .bool R) rfl rfl (by kernel_rfl) (by kernel_rfl) (by kernel_rfl) (fun _ _ _ h => h) (by rfl) ?_ hHeld ?_
              · intro w' hSw; obtain ⟨s0, s1, s2, s3, s4⟩ := hSw; go_simp; first | done | rfl | (intro hbad; exfalso; omega) | omega
              try simp only [Act.put, List.setIfInBounds_toArray, List.set_cons_zero, List.set_cons_succ]
              refine wpAnyH_done (by kernel_rfl) ?_ _
              clear hHeld
              go_wp2
              go_ret
              exact ⟨rfl, HBA.out.trans (hb6.mono HBA.out.size)⟩
        · have haB' : inB x.alt 0 ((P[kn].length : Int) - 1) = false := by simpa using haB
          have hr : okNd P ns x = false := by simp only [okNd, oneOfB, hk1, altB_in, hPk, haB', Bool.and_false]; simp
          rw [hr]
          have HE : Hid (∀ nq o, Below w.heap.size w ((((w.alloc (.cells #[.slice (some ⟨b3, o3, none⟩) P.length c0] 28)).alloc (.cells #[.slice (some ⟨b1, o1, none⟩) ns.length c1] 43)).alloc o).drewN nq)) := fun nq o => (B0.alloc (by simp; omega) o).trans ((below_drew nq).mono (by simp; omega))
          rw [hkn0] at p1' hsB
          have t3a : ∀ o, (((w.alloc (.cells #[.slice (some ⟨b3, o3, none⟩) P.length c0] 28)).alloc (.cells #[.slice (some ⟨b1, o1, none⟩) ns.length c1] 43)).alloc o).cell? ⟨b3, o3 + kn, none⟩ = some (.slice a4 P[kn].length c4) := fun o => ((B0.alloc (by simp; omega) o).cell (p := ⟨b3, o3 + kn, none⟩) hb3).trans t3
          clear h0 h1 HRX HKI hk1 hr hPk haB r4 z1 z2 hkn0
          generalize P[kn] = Q at *
          have hwr : IntKind.i64.wrap ((P.length : Int) - 1) = (P.length : Int) - 1 := by rw [IntKind.wrap_i64]; omega
          have hwq : IntKind.i64.wrap ((Q.length : Int) - 1) = (Q.length : Int) - 1 := by rw [IntKind.wrap_i64]; omega
          go_enter Tryd.func31, Tryd.ntmps31
          go_wp2_with fail
          go_quiet ((go_at_call 41; exact Calls.quiet_of_same (l1In_any _ _ _ _)))
          go_wp2
          go_ret
          exact ⟨rfl, HE.out _ _⟩
      · have hsB' : inB x.sym 0 ((P.length : Int) - 1) = false := by simpa using hsB
        have hr : okNd P ns x = false := by simp only [okNd, oneOfB, hk1, altB_in, hsB', Bool.false_and, Bool.and_false]; simp
        rw [hr]
        have HE : Hid (∀ nq o, Below w.heap.size w ((((w.alloc (.cells #[.slice a0 P.length c0] 28)).alloc (.cells #[.slice (some ⟨b1, o1, none⟩) ns.length c1] 43)).alloc o).drewN nq)) := fun nq o => (B0.alloc (by simp; omega) o).trans ((below_drew nq).mono (by simp; omega))
        clear h0 h1 HRX HKI hk1 hr hsB
        go_enter Tryd.func31, Tryd.ntmps31
        go_wp2_with fail
        go_quiet ((go_at_call 41; exact Calls.quiet_of_same (l1In_any _ _ _ _)))
        go_wp2
        go_ret
        exact ⟨rfl, HE.out _ _⟩
    · have hr : okNd P ns x = false := by simp [okNd, oneOfB, hk0, hk1]
      have hk1b : (x.kind != 1) = true := by simpa using hk1
      rw [hr]
      have HE : Hid (∀ nq o, Below w.heap.size w ((((w.alloc (.cells #[.slice a0 P.length c0] 28)).alloc (.cells #[.slice (some ⟨b1, o1, none⟩) ns.length c1] 43)).alloc o).drewN nq)) := fun nq o => (B0.alloc (by simp; omega) o).trans ((below_drew nq).mono (by simp; omega))
      clear h0 h1 HRX HKI hk0 hk1 hr
      go_enter Tryd.func31, Tryd.ntmps31
      go_wp2_with fail
      go_quiet ((go_at_call 41; exact Calls.quiet_of_same (l1In_any _ _ _ _)))
      go_wp2
      go_ret
      exact ⟨rfl, HE.out _ _⟩
end Go.Proofs.YthnppodnjokaoaaDoor
namespace Go.Proofs.YthnppodnjokaoaaDoor
open Go.RowKit

theorem OD.partsI {w : World} {base : Nat} {v : Value} {xs : List Int} {S : Nat → Prop} (h : OD w base v (slD Lay.int xs) S) : PartsI w v xs := by
  have r := h.rd
  obtain ⟨a, c, rfl, _⟩ := OD.shapeL h
  have rr := r.reads
  unfold slD at h
  generalize hd : Dat.sl xs.length (xs.flatMap Lay.int.cells) = d at h
  generalize hv : Value.slice a xs.length c = v at h
  cases h with
  | val u => cases hd
  | nil n h0 =>
    injection hv with e1 e2 e3
    subst e1
    subst e3
    have e4 : xs = [] := List.eq_nil_of_length_eq_zero e2
    subst e4
    exact .inl ⟨rfl, rfl⟩
  | row e sz g n c' cs vs F S ho hl hr hdj hg hS =>
    injection hv with e1 e2 e3
    subst e1
    subst e3
    obtain hx | ⟨g', cap, cur, he, hb, hgb, hnc, hcm, _⟩ := ho.2
    · cases hx.1
    · cases he
      refine .inr ⟨g, c, by rw [e2], by rw [e2]; exact hnc, hcm, (Array.getElem?_eq_some_iff.1 hgb).1, fun i hi => ?_⟩
      obtain ⟨b, off, e5, _, hc⟩ := rr.at hi
      cases e5
      simpa using hc i hi

set_option maxHeartbeats 8000000 in
set_option maxRecDepth 100000 in
theorem l5Starts_any (P : List (List (List Int))) (a0 : Option Addr) (c0 : Nat) (w : World) (h0 : RD w (.slice a0 P.length c0) (slD (Lay.list (Lay.list Lay.int)) P)) (hok : gramOkB P = true) :
    Calls Tryd.prog 52 #[.agg #[.slice a0 P.length c0]] w fun e w' => ∃ v S, e = .returned v ∧ OD w' w.heap.size v (slD (Lay.list Lay.int) (startsL P)) S ∧ Below w.heap.size w w' := by
  have F := Fits.of hok
  have HF : Hid (Fits P) := F
  have HSY : Hid (∀ alts ∈ P, ∀ row ∈ alts, ∀ z ∈ row, 100 ≤ z → z - 100 < P.length) := by
    intro alts h1 row h2 z h3 h4
    simp only [gramOkB, Bool.and_eq_true, List.all_eq_true, partOk, rowOk, decide_eq_true_eq] at hok
    have := symOk_true.1 (((hok.2 alts h1).2 row h2).2 z h3)
    omega
  have hp := F.parts
  have hEl := emptiesL_le F
  have B0 := (Below.refl w.heap.size w).alloc (Nat.le_refl _) (.cells #[.slice a0 P.length c0] 28)
  have HE0 : Hid (Calls Tryd.prog 75 #[.agg #[.slice a0 P.length c0]] (w.alloc (.cells #[.slice a0 P.length c0] 28)) fun e w' => ∃ v, e = .returned v ∧ OwnInts w' (w.heap.size + 1) 3 v (emptiesL P) ∧ Below (w.heap.size + 1) (w.alloc (.cells #[.slice a0 P.length c0] 28)) w') := by
    have := l5Empties_any P a0 c0 (w.alloc (.cells #[.slice a0 P.length c0] 28)) (h0.later B0) hok
    show Calls _ _ _ _ _
    simpa using this
  have HR0 : Hid (RD w (.slice a0 P.length c0) (slD (Lay.list (Lay.list Lay.int)) P)) := h0
  have HFL : Hid (startsL P = stT (emptiesL P) P (P.length + 1)) := rfl
  clear F hok h0
  generalize emptiesL P = E at *
  go_enter Tryd.func52, Tryd.ntmps52
  go_wp2_with fail
  refine HE0.out.mono ?_
  rintro e w2 ⟨vE, rfl, hOE, hb2⟩
  have hb2' : Below w.heap.size w w2 := B0.trans (hb2.mono (by omega))
  have g2 : w2.cell? ⟨w.heap.size, 0, none⟩ = some (.slice a0 P.length c0) := (hb2.cell (p := ⟨w.heap.size, 0, none⟩) (by simp)).trans (by simp)
  have hwl : w.heap.size < w2.heap.size := World.block_lt_of_cell? w2 _ g2
  obtain ⟨aE, cE, rfl, hrE, _⟩ := hOE.shape
  have HRE : Hid (Reads w2 aE E) := hrE
  have HR : Hid (RD w2 (.slice a0 P.length c0) (slD (Lay.list (Lay.list Lay.int)) P)) := HR0.out.later hb2'
  obtain ⟨W, hmk, O0, BW⟩ := make_ownL (P := Tryd.prog) w2 64 25 (.slice none 0 0) 24 [.slice none 0 0] [.sl 0 []] P.length Tryd.underlying64 Tryd.infoIntS rfl (by decide) (by omega) (by decide) (by intro u hu; simp at hu; subst hu; rfl) rfl
    (by intro W base i hi hi'; match i, hi with | 0, _ => exact .nil 0 rfl)
  rw [zero_cells (L := Lay.list Lay.int) (z := []) (zd := [.sl 0 []]) rfl] at O0
  have HO0 : Hid (∃ S, OL W w2.heap.size 25 1 (.slice (some ⟨w2.heap.size, 0, none⟩) P.length P.length) P.length ((stT E P 0).flatMap (Lay.list Lay.int).cells) S) := ⟨_, O0⟩
  have HBW : Hid (Below w2.heap.size w2 W) := BW
  clear HE0 HR0 hOE hb2 hrE O0 BW B0
  go_wp2
  clear hmk
  go_loopw [5] (fun st wr => ∃ t : Nat, t ≤ P.length + 1 ∧ st = .int .i64 t ∧ Hid (∃ S, OL wr w2.heap.size 25 1 (.slice (some ⟨w2.heap.size, 0, none⟩) P.length P.length) P.length ((stT E P t).flatMap (Lay.list Lay.int).cells) S) ∧ Below w2.heap.size w2 wr) (fun st _ => P.length + 1 - (intOf st).toNat)
  case atStart => exact ⟨0, Nat.zero_le _, rfl, HO0, HBW.out⟩
  case round =>
    obtain ⟨t, ht, rfl, HO, hbel⟩ := hrel
    clear HO0 HBW
    have g0 := (hbel.cell (p := ⟨w.heap.size, 0, none⟩) hwl).trans g2
    have hgl : w.heap.size < wr.heap.size := Nat.lt_of_lt_of_le hwl hbel.size
    by_cases hlt : t ≤ P.length
    · have HT : Hid (stT E P (t + 1) = stK E P (stT E P t) P.length) := rfl
      have HSt : Hid (Sets P.length (stT E P t)) := stT_sets E HF.out t
      generalize stT E P t = M at *
      go_wp2
      go_loopw [6] (fun sk wr => ∃ k : Nat, k ≤ P.length ∧ sk = .int .i64 k ∧ Hid (∃ S, OL wr w2.heap.size 25 1 (.slice (some ⟨w2.heap.size, 0, none⟩) P.length P.length) P.length ((stK E P M k).flatMap (Lay.list Lay.int).cells) S) ∧ Below w2.heap.size w2 wr) (fun sk _ => P.length - (intOf sk).toNat)
      case atStart => exact ⟨0, Nat.zero_le _, rfl, HO, hbel⟩
      case round =>
        obtain ⟨k, hk, rfl, HOk, hbk⟩ := hrel
        clear HO hbel g0 hgl
        have g0 := (hbk.cell (p := ⟨w.heap.size, 0, none⟩) hwl).trans g2
        have hgl : w.heap.size < wr.heap.size := Nat.lt_of_lt_of_le hwl hbk.size
        by_cases hlk : k < P.length
        · have HK : Hid (stK E P M (k + 1) = stI E k P[k] (stK E P M k) P[k].length) := stK_next hlk
          have HSk : Hid (Sets P.length (stK E P M k)) := stK_sets HSt.out HF.out k hk
          have hm := List.getElem_mem hlk
          have hQ := HF.out.alts _ hm
          have HQr : Hid (∀ row ∈ P[k], row.length ≤ 8) := HF.out.rows _ hm
          have HQs : Hid (∀ row ∈ P[k], ∀ z ∈ row, 0 ≤ z ∧ z < 120) := HF.out.syms _ hm
          have HQy : Hid (∀ row ∈ P[k], ∀ z ∈ row, 100 ≤ z → z - 100 < P.length) := HSY.out _ hm
          obtain ⟨b1, o1, rfl, hb1, a1, c1, q0', r1⟩ := HR.out.listAt hlk
          have HR1 : Hid (RD w2 (.slice a1 P[k].length c1) (slD (Lay.list Lay.int) P[k])) := r1
          have q0 := (hbk.cell (p := ⟨b1, o1 + k, none⟩) hb1).trans q0'
          clear r1 hm
          generalize stK E P M k = Mk0 at *
          generalize P[k] = Q at *
          go_wp2
          clear q0
          go_loopw [7] (fun si wr => ∃ i : Nat, i ≤ Q.length ∧ si = .int .i64 i ∧ Hid (∃ S, OL wr w2.heap.size 25 1 (.slice (some ⟨w2.heap.size, 0, none⟩) P.length P.length) P.length ((stI E k Q Mk0 i).flatMap (Lay.list Lay.int).cells) S) ∧ Below w2.heap.size w2 wr) (fun si _ => Q.length - (intOf si).toNat)
          case atStart => exact ⟨0, Nat.zero_le _, rfl, HOk, hbk⟩
          case round =>
            obtain ⟨i, hi, rfl, HOi, hbi⟩ := hrel
            clear HOk hbk g0 hgl
            have g0 := (hbi.cell (p := ⟨w.heap.size, 0, none⟩) hwl).trans g2
            have hgl : w.heap.size < wr.heap.size := Nat.lt_of_lt_of_le hwl hbi.size
            have q0 := (hbi.cell (p := ⟨b1, o1 + k, none⟩) hb1).trans q0'
            by_cases hli : i < Q.length
            · have hm := List.getElem_mem hli
              have hr8 := HQr.out _ hm
              have HRs : Hid (∀ z ∈ Q[i], 0 ≤ z ∧ z < 120) := HQs.out _ hm
              have HRy : Hid (∀ z ∈ Q[i], 100 ≤ z → z - 100 < P.length) := HQy.out _ hm
              have HSi : Hid (Sets P.length (stI E k Q Mk0 i)) := stI_sets HSk.out HQs.out i hi
              have HN : Hid (stI E k Q Mk0 (i + 1) = stRow E k (stI E k Q Mk0 i) Q[i]) := stI_next hli
              obtain ⟨b2, o2, rfl, hb2, a2, c2, q1', r2⟩ := HR1.out.listAt hli
              have q1 := (hbi.cell (p := ⟨b2, o2 + i, none⟩) hb2).trans q1'
              have HRR : Hid (Reads w2 a2 Q[i]) := r2.reads
              clear r2 q1' hm
              generalize stI E k Q Mk0 i = M1 at *
              generalize Q[i] = R at *
              go_wp2
              clear q0 q1
              go_loopw [9] (fun sj wr => ∃ (j : Nat) (M2 : List (List Int)), j ≤ R.length ∧ sj = .int .i64 j ∧ Hid (Sets P.length M2 ∧ stRow E k M1 R = stRow E k M2 (R.drop j)) ∧ Hid (∃ S, OL wr w2.heap.size 25 1 (.slice (some ⟨w2.heap.size, 0, none⟩) P.length P.length) P.length ((M2).flatMap (Lay.list Lay.int).cells) S) ∧ Below w2.heap.size w2 wr) (fun sj _ => R.length - (intOf sj).toNat)
              case atStart => exact ⟨0, M1, Nat.zero_le _, rfl, ⟨HSi.out, rfl⟩, HOi, hbi⟩
              case round =>
                obtain ⟨j, M2, hj, rfl, HM, HOj, hbj⟩ := hrel
                clear HOi hbi g0 hgl
                have g0 := (hbj.cell (p := ⟨w.heap.size, 0, none⟩) hwl).trans g2
                have hgl : w.heap.size < wr.heap.size := Nat.lt_of_lt_of_le hwl hbj.size
                by_cases hlj : j < R.length
                · obtain ⟨b3, o3, rfl, hb3, hc3⟩ := (HRR.out.below hbj).at hlj
                  have q4 := hc3 j hlj
                  rw [List.getD_eq_getElem?_getD, List.getElem?_eq_getElem hlj, Option.getD_some] at q4
                  have hz := HRs.out _ (List.getElem_mem hlj)
                  have hy := HRy.out _ (List.getElem_mem hlj)
                  have L0 : Hid (¬ 100 ≤ R[j] → stRow E k M1 R = M2) := fun g => HM.out.2.trans (stRow_letter hlj g)
                  have L1 : Hid (100 ≤ R[j] → hasL E (R[j] - 100) = true → stRow E k M1 R = stRow E k (stS k R[j] M2) (R.drop (j + 1))) := fun g g2 => HM.out.2.trans (stRow_go hlj g g2)
                  have L2 : Hid (100 ≤ R[j] → hasL E (R[j] - 100) = false → stRow E k M1 R = stS k R[j] M2) := fun g g2 => HM.out.2.trans (stRow_stop hlj g g2)
                  have HM1 : Hid (Sets P.length M2) := HM.out.1
                  clear hc3 HM
                  generalize R[j] = z at *
                  by_cases z1 : 100 ≤ z
                  · obtain ⟨n, hn⟩ : ∃ n : Nat, z - 100 = (n : Int) := ⟨(z - 100).toNat, by omega⟩
                    have hnP : n < P.length := by have := hy z1; omega
                    have hM2 : M2.length = P.length := HM1.out.1
                    have hkM : k < M2.length := by omega
                    have hnM : n < M2.length := by omega
                    have HSS : Hid (Sets P.length (stS k z M2)) := stS_sets HM1.out z1 hz.2
                    have HAT : Hid (stS k z M2 = M2.set k (joinL (addL M2[k] (n : Int)) M2[n])) := stS_at hkM hn hnM
                    obtain ⟨S, HOL⟩ := HOj.out
                    have hOD : OD wr w2.heap.size (.slice (some ⟨w2.heap.size, 0, none⟩) P.length P.length) (slD (Lay.list Lay.int) M2) S := by
                      have := HOL.od; unfold slD; rw [hM2]; exact this
                    obtain ⟨a3, c3, T3, q2, O3, _, _⟩ := hOD.listInto hkM
                    obtain ⟨a6, c6, T6, q3, O6, _, _⟩ := hOD.listInto hnM
                    have hw2r : w2.heap.size < wr.heap.size := World.block_lt_of_cell? wr _ q2
                    have hMk27 : M2[k].length ≤ 27 := (HM1.out.2 _ (List.getElem_mem hkM)).len (n := 27)
                    have hMn27 : M2[n].length ≤ 27 := (HM1.out.2 _ (List.getElem_mem hnM)).len (n := 27)
                    have hadd := addL_length_le M2[k] (n : Int)
                    have XA : Hid (∀ W : World, Below wr.heap.size wr W → Calls Tryd.prog 77 #[.slice a3 M2[k].length c3, .int .i64 (n : Int)] W fun e w' => ∃ v', e = .returned v' ∧ OwnInts w' W.heap.size 3 v' (addL M2[k] (n : Int)) ∧ Below W.heap.size W w') := fun W hW => specSetAdd_p _ M2[k] (n : Int) W (O3.later hW).partsI (by omega)
                    have YY : Hid (∀ (W : World) (a4 : Option Addr) (c4 : Nat), Below wr.heap.size wr W → Reads W a4 (addL M2[k] (n : Int)) → Calls Tryd.prog 76 #[.slice a4 (addL M2[k] (n : Int)).length c4, .slice a6 M2[n].length c6] W fun e w' => ∃ v', e = .returned v' ∧ OwnInts w' W.heap.size 3 v' (joinL (addL M2[k] (n : Int)) M2[n]) ∧ Below W.heap.size W w') := fun W a4 c4 hW hr => specSetJoin_r a4 c4 a6 c6 _ _ W hr ((O6.rd.later hW).reads) (by omega) (by omega)
                    have HPUT : Hid (∀ (W : World) (v : Value), Below wr.heap.size wr W → OwnInts W wr.heap.size 3 v (joinL (addL M2[k] (n : Int)) M2[n]) → ∃ S', OL (W.setCell ⟨w2.heap.size, k, none⟩ v) w2.heap.size 25 1 (.slice (some ⟨w2.heap.size, 0, none⟩) P.length P.length) P.length ((stS k z M2).flatMap (Lay.list Lay.int).cells) S' ∧ W.frozen? ⟨w2.heap.size, k, none⟩ = false ∧ ∃ z, W.cell? ⟨w2.heap.size, k, none⟩ = some z) := by
                      intro W v hW hO
                      obtain ⟨S', h1, _, _, _, h5, h6⟩ := (HOL.later hW).putList hkM v (joinL (addL M2[k] (n : Int)) M2[n]) _ ((hO.od).base (by omega)) (fun x hx hx2 => by
                        have l1 := (hO.od.lt x hx).1; have l2 := (HOL.lt x hx2).2; omega)
                      refine ⟨S', ?_, h6, h5⟩
                      rw [HAT.out]
                      exact h1
                    have XH : Hid (∀ W : World, Below w2.heap.size w2 W → Calls Tryd.prog 53 #[.slice aE E.length cE, .int .i64 (n : Int)] W fun e w' => e = .returned (.bool (hasL E n)) ∧ w' = W) := fun W hW => specSetHas_same aE cE E (n : Int) W (HRE.out.below hW) (by omega)
                    have L1' := L1.out z1
                    have L2' := L2.out z1
                    rw [hn] at L1' L2'
                    have L3 : Hid (hasL E (n : Int) = true → stRow E k M1 R = stRow E k (stS k z M2) (R.drop (j + 1))) := L1'
                    have L4 : Hid (hasL E (n : Int) = false → stRow E k M1 R = stS k z M2) := L2'
                    clear HOj HOL hOD O3 O6 HM1 L0 L1 L2 L1' L2' HAT hy hM2
                    generalize joinL (addL M2[k] (n : Int)) M2[n] = jn at *
                    generalize addL M2[k] (n : Int) = ad at *
                    generalize M2[k] = Mk at *
                    generalize M2[n] = Mn at *
                    by_cases z3 : hasL E (n : Int) = true
                    · have HE6 : Hid (Sets P.length (stS k z M2) ∧ stRow E k M1 R = stRow E k (stS k z M2) (R.drop (j + 1))) := ⟨HSS.out, L3.out z3⟩
                      clear L3 L4 HSS
                      go_wp2
                      refine wp_region_held_drew (S := (fun w' => w'.cell? ⟨w.heap.size, 0, none⟩ = some (.slice (some ⟨b1, o1, none⟩) P.length c0) ∧ True)) (by kernel_rfl) ⟨g0, trivial⟩ (fun hHeld => ?_)
                      refine take_atL (i := 0) (d := some 67) (v := .slice (some ⟨w2.heap.size, 0, none⟩) P.length P.length) rfl rfl (by kernel_rfl) (by kernel_rfl) (by kernel_rfl) (fun _ _ _ h => h) (by rfl) ?_ hHeld ?_
                      · intro w' hSw; obtain ⟨s0, _⟩ := hSw; go_simp; try rfl
                      try simp only [Act.put, List.setIfInBounds_toArray, List.set_cons_zero, List.set_cons_succ]
                      refine take_atL (i := 1) (d := some 68) (v := .int .i64 (k : Int)) rfl rfl (by kernel_rfl) (by kernel_rfl) (by kernel_rfl) (fun _ _ _ h => h) (by rfl) ?_ hHeld ?_
                      · intro w' hSw; obtain ⟨s0, _⟩ := hSw; go_simp; try rfl
                      try simp only [Act.put, List.setIfInBounds_toArray, List.set_cons_zero, List.set_cons_succ]
                      refine take_atL (i := 2) (d := some 69) (v := .slice (some ⟨w2.heap.size, 0, none⟩) P.length P.length) rfl rfl (by kernel_rfl) (by kernel_rfl) (by kernel_rfl) (fun _ _ _ h => h) (by rfl) ?_ hHeld ?_
                      · intro w' hSw; obtain ⟨s0, _⟩ := hSw; go_simp; try rfl
                      try simp only [Act.put, List.setIfInBounds_toArray, List.set_cons_zero, List.set_cons_succ]
                      refine take_atL (i := 3) (d := some 70) (v := .int .i64 (k : Int)) rfl rfl (by kernel_rfl) (by kernel_rfl) (by kernel_rfl) (fun _ _ _ h => h) (by rfl) ?_ hHeld ?_
                      · intro w' hSw; obtain ⟨s0, _⟩ := hSw; go_simp; try rfl
                      try simp only [Act.put, List.setIfInBounds_toArray, List.set_cons_zero, List.set_cons_succ]
                      refine take_atL (i := 4) (d := some 71) (v := .pointer (some ⟨w2.heap.size, k, none⟩)) rfl rfl (by kernel_rfl) (by kernel_rfl) (by kernel_rfl) (fun _ _ _ h => h) (by rfl) ?_ hHeld ?_
                      · intro w' hSw; obtain ⟨s0, _⟩ := hSw; go_simp; try rfl
                      try simp only [Act.put, List.setIfInBounds_toArray, List.set_cons_zero, List.set_cons_succ]
                      refine take_atL (i := 6) (d := some 73) (v := .int .i64 (n : Int)) rfl rfl (by kernel_rfl) (by kernel_rfl) (by kernel_rfl) (fun _ _ _ h => h) (by rfl) ?_ hHeld ?_
                      · intro w' hSw; obtain ⟨s0, _⟩ := hSw; go_simp; try rfl
                      try simp only [Act.put, List.setIfInBounds_toArray, List.set_cons_zero, List.set_cons_succ]
                      refine take_atL (i := 8) (d := some 75) (v := .slice (some ⟨w2.heap.size, 0, none⟩) P.length P.length) rfl rfl (by kernel_rfl) (by kernel_rfl) (by kernel_rfl) (fun _ _ _ h => h) (by rfl) ?_ hHeld ?_
                      · intro w' hSw; obtain ⟨s0, _⟩ := hSw; go_simp; try rfl
                      try simp only [Act.put, List.setIfInBounds_toArray, List.set_cons_zero, List.set_cons_succ]
                      refine take_atL (i := 9) (d := some 76) (v := .int .i64 (n : Int)) rfl rfl (by kernel_rfl) (by kernel_rfl) (by kernel_rfl) (fun _ _ _ h => h) (by rfl) ?_ hHeld ?_
                      · intro w' hSw; obtain ⟨s0, _⟩ := hSw; go_simp; try rfl
                      try simp only [Act.put, List.setIfInBounds_toArray, List.set_cons_zero, List.set_cons_succ]
                      refine take_atL (i := 10) (d := some 77) (v := .pointer (some ⟨w2.heap.size, n, none⟩)) rfl rfl (by kernel_rfl) (by kernel_rfl) (by kernel_rfl) (fun _ _ _ h => h) (by rfl) ?_ hHeld ?_
                      · intro w' hSw; obtain ⟨s0, _⟩ := hSw; go_simp; try rfl
                      try simp only [Act.put, List.setIfInBounds_toArray, List.set_cons_zero, List.set_cons_succ]
                      refine wpAnyH_ready (rs := [5, 11]) (by kernel_rfl) (by simp) ?_
                      refine AllReadyH.cons (o := _) rfl (fun K hK => ?_) (AllReadyH.cons (o := _) rfl (fun K hK => ?_) AllReadyH.nil)
                      · rw [if_pos (by rfl)]
                        go_simp
                        refine hK.out _ _ hHeld (fun hHeld => ?_)
                        clear hK K
                        try simp only [Act.put, List.setIfInBounds_toArray, List.set_cons_zero, List.set_cons_succ]
                        refine wpAnyH_ready (rs := [7, 11]) (by kernel_rfl) (by simp) ?_
                        refine AllReadyH.cons (o := _) rfl (fun K hK => ?_) (AllReadyH.cons (o := _) rfl (fun K hK => ?_) AllReadyH.nil)
                        · rw [if_pos (by rfl)]
                          go_simp
                          refine (XA.out _ (Below.drew (Below.refl _ _))).mono ?_
                          rintro e w3 ⟨v3, rfl, hO3, hb3⟩
                          obtain ⟨a4, c4, rfl, hr4, _⟩ := hO3.shape
                          have hb3r : Below wr.heap.size wr w3 := Below.drewed (by simpa using hb3)
                          have g03 := (hb3r.cell (p := ⟨w.heap.size, 0, none⟩) hgl).trans g0
                          have q23 := (hb3r.cell (p := ⟨w2.heap.size, k, none⟩) hw2r).trans q2
                          have q33 := (hb3r.cell (p := ⟨w2.heap.size, n, none⟩) hw2r).trans q3
                          have Y := YY.out w3 a4 c4 hb3r hr4
                          clear XA hO3 hr4 hb3 YY hHeld
                          go_wp2_with fail
                          refine hK.out _ _ ⟨g03, trivial⟩ (fun hHeld => ?_)
                          clear hK K
                          try simp only [Act.put, List.setIfInBounds_toArray, List.set_cons_zero, List.set_cons_succ]
                          refine wpAnyH_ready (rs := [11]) (by kernel_rfl) (by simp) ?_
                          refine AllReadyH.cons (o := _) rfl (fun K hK => ?_) AllReadyH.nil
                          rw [if_pos (by rfl)]
                          go_simp
                          refine hK.out _ _ hHeld (fun hHeld => ?_)
                          clear hK K
                          try simp only [Act.put, List.setIfInBounds_toArray, List.set_cons_zero, List.set_cons_succ]
                          refine wpAnyH_ready (rs := [12]) (by kernel_rfl) (by simp) ?_
                          refine AllReadyH.cons (o := _) rfl (fun K hK => ?_) AllReadyH.nil
                          rw [if_pos (by rfl)]
                          go_simp
                          refine Y.mono ?_
                          rintro e w4 ⟨v4, rfl, hO4, hb4⟩
                          have hb4r : Below wr.heap.size wr w4 := hb3r.trans (hb4.mono hb3r.size)
                          have g04 := (hb4r.cell (p := ⟨w.heap.size, 0, none⟩) hgl).trans g0
                          obtain ⟨S5, HO5, hf5, z5, hz5⟩ := HPUT.out w4 v4 hb4r (hO4.base hb3r.size)
                          obtain ⟨a5, c5, rfl, _, _⟩ := hO4.shape
                          have HE5 : Hid (∃ S, OL (w4.setCell ⟨w2.heap.size, k, none⟩ (.slice a5 jn.length c5)) w2.heap.size 25 1 (.slice (some ⟨w2.heap.size, 0, none⟩) P.length P.length) P.length ((stS k z M2).flatMap (Lay.list Lay.int).cells) S) := ⟨S5, HO5⟩
                          have HB5 : Hid (Below w2.heap.size w2 (w4.setCell ⟨w2.heap.size, k, none⟩ (.slice a5 jn.length c5))) := (hbj.trans (hb4r.mono hbj.size)).setCell (p := ⟨w2.heap.size, k, none⟩) (Nat.le_refl _) _
                          clear Y g03 q23 q33 HPUT HO5 hO4 hHeld
                          go_wp2_with fail
                          refine hK.out _ _ ⟨g04, trivial⟩ (fun hHeld => ?_)
                          clear hK K
                          try simp only [Act.put, List.setIfInBounds_toArray, List.set_cons_zero, List.set_cons_succ]
                          refine take_atL (i := 13) (d := some 80) (v := .pointer (some ⟨w2.heap.size, k, none⟩)) rfl rfl (by kernel_rfl) (by kernel_rfl) (by kernel_rfl) (fun _ _ _ h => h) (by rfl) ?_ hHeld ?_
                          · intro w' hSw; obtain ⟨s0, _⟩ := hSw; go_simp; try rfl
                          try simp only [Act.put, List.setIfInBounds_toArray, List.set_cons_zero, List.set_cons_succ]
                          refine wpAnyH_ready (rs := [14]) (by kernel_rfl) (by simp) ?_
                          refine AllReadyH.cons (o := _) rfl (fun K hK => ?_) AllReadyH.nil
                          rw [if_pos (by rfl)]
                          go_simp
                          refine hK.out _ _ ⟨by rw [World.cell?_setCell_far _ _ _ _ (by show w2.heap.size ≠ w.heap.size; omega)]; exact g04, trivial⟩ (fun hHeld => ?_)
                          clear hK K
                          try simp only [Act.put, List.setIfInBounds_toArray, List.set_cons_zero, List.set_cons_succ]
                          refine wpAnyH_done (by kernel_rfl) ?_ _
                          clear hHeld g04 hf5 hz5 q2 q3
                          go_wp2_with (go_at_call 53; refine (XH.out _ HB5.out).mono ?_; rintro e w6 ⟨rfl, rfl⟩)
                          go_roundw
                          case rel => exact ⟨j + 1, stS k z M2, by omega, by go_num, HE6, HE5, HB5.out⟩
                          case measure => simp [intOf]; omega
                        · rw [if_pos (by rfl)]
                          go_simp
                          refine hK.out _ _ hHeld (fun hHeld => ?_)
                          clear hK K
                          try simp only [Act.put, List.setIfInBounds_toArray, List.set_cons_zero, List.set_cons_succ]
                          refine wpAnyH_ready (rs := [7]) (by kernel_rfl) (by simp) ?_
                          refine AllReadyH.cons (o := _) rfl (fun K hK => ?_) AllReadyH.nil
                          rw [if_pos (by rfl)]
                          go_simp
                          refine (XA.out _ (Below.drew (Below.refl _ _))).mono ?_
                          rintro e w3 ⟨v3, rfl, hO3, hb3⟩
                          obtain ⟨a4, c4, rfl, hr4, _⟩ := hO3.shape
                          have hb3r : Below wr.heap.size wr w3 := Below.drewed (by simpa using hb3)
                          have g03 := (hb3r.cell (p := ⟨w.heap.size, 0, none⟩) hgl).trans g0
                          have q23 := (hb3r.cell (p := ⟨w2.heap.size, k, none⟩) hw2r).trans q2
                          have q33 := (hb3r.cell (p := ⟨w2.heap.size, n, none⟩) hw2r).trans q3
                          have Y := YY.out w3 a4 c4 hb3r hr4
                          clear XA hO3 hr4 hb3 YY hHeld
                          go_wp2_with fail
                          refine hK.out _ _ ⟨g03, trivial⟩ (fun hHeld => ?_)
                          clear hK K
                          try simp only [Act.put, List.setIfInBounds_toArray, List.set_cons_zero, List.set_cons_succ]
                          refine wpAnyH_ready (rs := [12]) (by kernel_rfl) (by simp) ?_
                          refine AllReadyH.cons (o := _) rfl (fun K hK => ?_) AllReadyH.nil
                          rw [if_pos (by rfl)]
                          go_simp
                          refine Y.mono ?_
                          rintro e w4 ⟨v4, rfl, hO4, hb4⟩
                          have hb4r : Below wr.heap.size wr w4 := hb3r.trans (hb4.mono hb3r.size)
                          have g04 := (hb4r.cell (p := ⟨w.heap.size, 0, none⟩) hgl).trans g0
                          obtain ⟨S5, HO5, hf5, z5, hz5⟩ := HPUT.out w4 v4 hb4r (hO4.base hb3r.size)
                          obtain ⟨a5, c5, rfl, _, _⟩ := hO4.shape
                          have HE5 : Hid (∃ S, OL (w4.setCell ⟨w2.heap.size, k, none⟩ (.slice a5 jn.length c5)) w2.heap.size 25 1 (.slice (some ⟨w2.heap.size, 0, none⟩) P.length P.length) P.length ((stS k z M2).flatMap (Lay.list Lay.int).cells) S) := ⟨S5, HO5⟩
                          have HB5 : Hid (Below w2.heap.size w2 (w4.setCell ⟨w2.heap.size, k, none⟩ (.slice a5 jn.length c5))) := (hbj.trans (hb4r.mono hbj.size)).setCell (p := ⟨w2.heap.size, k, none⟩) (Nat.le_refl _) _
                          clear Y g03 q23 q33 HPUT HO5 hO4 hHeld
                          go_wp2_with fail
                          refine hK.out _ _ ⟨g04, trivial⟩ (fun hHeld => ?_)
                          clear hK K
                          try simp only [Act.put, List.setIfInBounds_toArray, List.set_cons_zero, List.set_cons_succ]
                          refine take_atL (i := 13) (d := some 80) (v := .pointer (some ⟨w2.heap.size, k, none⟩)) rfl rfl (by kernel_rfl) (by kernel_rfl) (by kernel_rfl) (fun _ _ _ h => h) (by rfl) ?_ hHeld ?_
                          · intro w' hSw; obtain ⟨s0, _⟩ := hSw; go_simp; try rfl
                          try simp only [Act.put, List.setIfInBounds_toArray, List.set_cons_zero, List.set_cons_succ]
                          refine wpAnyH_ready (rs := [14]) (by kernel_rfl) (by simp) ?_
                          refine AllReadyH.cons (o := _) rfl (fun K hK => ?_) AllReadyH.nil
                          rw [if_pos (by rfl)]
                          go_simp
                          refine hK.out _ _ ⟨by rw [World.cell?_setCell_far _ _ _ _ (by show w2.heap.size ≠ w.heap.size; omega)]; exact g04, trivial⟩ (fun hHeld => ?_)
                          clear hK K
                          try simp only [Act.put, List.setIfInBounds_toArray, List.set_cons_zero, List.set_cons_succ]
                          refine wpAnyH_done (by kernel_rfl) ?_ _
                          clear hHeld g04 hf5 hz5 q2 q3
                          go_wp2_with (go_at_call 53; refine (XH.out _ HB5.out).mono ?_; rintro e w6 ⟨rfl, rfl⟩)
                          go_roundw
                          case rel => exact ⟨j + 1, stS k z M2, by omega, by go_num, HE6, HE5, HB5.out⟩
                          case measure => simp [intOf]; omega
                      · rw [if_pos (by rfl)]
                        go_simp
                        refine hK.out _ _ hHeld (fun hHeld => ?_)
                        clear hK K
                        try simp only [Act.put, List.setIfInBounds_toArray, List.set_cons_zero, List.set_cons_succ]
                        refine wpAnyH_ready (rs := [5]) (by kernel_rfl) (by simp) ?_
                        refine AllReadyH.cons (o := _) rfl (fun K hK => ?_) AllReadyH.nil
                        rw [if_pos (by rfl)]
                        go_simp
                        refine hK.out _ _ hHeld (fun hHeld => ?_)
                        clear hK K
                        try simp only [Act.put, List.setIfInBounds_toArray, List.set_cons_zero, List.set_cons_succ]
                        refine wpAnyH_ready (rs := [7]) (by kernel_rfl) (by simp) ?_
                        refine AllReadyH.cons (o := _) rfl (fun K hK => ?_) AllReadyH.nil
                        rw [if_pos (by rfl)]
                        go_simp
                        refine (XA.out _ (Below.drew (Below.refl _ _))).mono ?_
                        rintro e w3 ⟨v3, rfl, hO3, hb3⟩
                        obtain ⟨a4, c4, rfl, hr4, _⟩ := hO3.shape
                        have hb3r : Below wr.heap.size wr w3 := Below.drewed (by simpa using hb3)
                        have g03 := (hb3r.cell (p := ⟨w.heap.size, 0, none⟩) hgl).trans g0
                        have q23 := (hb3r.cell (p := ⟨w2.heap.size, k, none⟩) hw2r).trans q2
                        have q33 := (hb3r.cell (p := ⟨w2.heap.size, n, none⟩) hw2r).trans q3
                        have Y := YY.out w3 a4 c4 hb3r hr4
                        clear XA hO3 hr4 hb3 YY hHeld
                        go_wp2_with fail
                        refine hK.out _ _ ⟨g03, trivial⟩ (fun hHeld => ?_)
                        clear hK K
                        try simp only [Act.put, List.setIfInBounds_toArray, List.set_cons_zero, List.set_cons_succ]
                        refine wpAnyH_ready (rs := [12]) (by kernel_rfl) (by simp) ?_
                        refine AllReadyH.cons (o := _) rfl (fun K hK => ?_) AllReadyH.nil
                        rw [if_pos (by rfl)]
                        go_simp
                        refine Y.mono ?_
                        rintro e w4 ⟨v4, rfl, hO4, hb4⟩
                        have hb4r : Below wr.heap.size wr w4 := hb3r.trans (hb4.mono hb3r.size)
                        have g04 := (hb4r.cell (p := ⟨w.heap.size, 0, none⟩) hgl).trans g0
                        obtain ⟨S5, HO5, hf5, z5, hz5⟩ := HPUT.out w4 v4 hb4r (hO4.base hb3r.size)
                        obtain ⟨a5, c5, rfl, _, _⟩ := hO4.shape
                        have HE5 : Hid (∃ S, OL (w4.setCell ⟨w2.heap.size, k, none⟩ (.slice a5 jn.length c5)) w2.heap.size 25 1 (.slice (some ⟨w2.heap.size, 0, none⟩) P.length P.length) P.length ((stS k z M2).flatMap (Lay.list Lay.int).cells) S) := ⟨S5, HO5⟩
                        have HB5 : Hid (Below w2.heap.size w2 (w4.setCell ⟨w2.heap.size, k, none⟩ (.slice a5 jn.length c5))) := (hbj.trans (hb4r.mono hbj.size)).setCell (p := ⟨w2.heap.size, k, none⟩) (Nat.le_refl _) _
                        clear Y g03 q23 q33 HPUT HO5 hO4 hHeld
                        go_wp2_with fail
                        refine hK.out _ _ ⟨g04, trivial⟩ (fun hHeld => ?_)
                        clear hK K
                        try simp only [Act.put, List.setIfInBounds_toArray, List.set_cons_zero, List.set_cons_succ]
                        refine take_atL (i := 13) (d := some 80) (v := .pointer (some ⟨w2.heap.size, k, none⟩)) rfl rfl (by kernel_rfl) (by kernel_rfl) (by kernel_rfl) (fun _ _ _ h => h) (by rfl) ?_ hHeld ?_
                        · intro w' hSw; obtain ⟨s0, _⟩ := hSw; go_simp; try rfl
                        try simp only [Act.put, List.setIfInBounds_toArray, List.set_cons_zero, List.set_cons_succ]
                        refine wpAnyH_ready (rs := [14]) (by kernel_rfl) (by simp) ?_
                        refine AllReadyH.cons (o := _) rfl (fun K hK => ?_) AllReadyH.nil
                        rw [if_pos (by rfl)]
                        go_simp
                        refine hK.out _ _ ⟨by rw [World.cell?_setCell_far _ _ _ _ (by show w2.heap.size ≠ w.heap.size; omega)]; exact g04, trivial⟩ (fun hHeld => ?_)
                        clear hK K
                        try simp only [Act.put, List.setIfInBounds_toArray, List.set_cons_zero, List.set_cons_succ]
                        refine wpAnyH_done (by kernel_rfl) ?_ _
                        clear hHeld g04 hf5 hz5 q2 q3
                        go_wp2_with (go_at_call 53; refine (XH.out _ HB5.out).mono ?_; rintro e w6 ⟨rfl, rfl⟩)
                        go_roundw
                        case rel => exact ⟨j + 1, stS k z M2, by omega, by go_num, HE6, HE5, HB5.out⟩
                        case measure => simp [intOf]; omega
                    · have z3' : hasL E (n : Int) = false := by simpa using z3
                      have HNx : Hid (stI E k Q Mk0 (i + 1) = stS k z M2) := HN.out.trans (L4.out z3')
                      clear L3 L4 HSS z3
                      go_wp2
                      refine wp_region_held_drew (S := (fun w' => w'.cell? ⟨w.heap.size, 0, none⟩ = some (.slice (some ⟨b1, o1, none⟩) P.length c0) ∧ True)) (by kernel_rfl) ⟨g0, trivial⟩ (fun hHeld => ?_)
                      refine take_atL (i := 0) (d := some 67) (v := .slice (some ⟨w2.heap.size, 0, none⟩) P.length P.length) rfl rfl (by kernel_rfl) (by kernel_rfl) (by kernel_rfl) (fun _ _ _ h => h) (by rfl) ?_ hHeld ?_
                      · intro w' hSw; obtain ⟨s0, _⟩ := hSw; go_simp; try rfl
                      try simp only [Act.put, List.setIfInBounds_toArray, List.set_cons_zero, List.set_cons_succ]
                      refine take_atL (i := 1) (d := some 68) (v := .int .i64 (k : Int)) rfl rfl (by kernel_rfl) (by kernel_rfl) (by kernel_rfl) (fun _ _ _ h => h) (by rfl) ?_ hHeld ?_
                      · intro w' hSw; obtain ⟨s0, _⟩ := hSw; go_simp; try rfl
                      try simp only [Act.put, List.setIfInBounds_toArray, List.set_cons_zero, List.set_cons_succ]
                      refine take_atL (i := 2) (d := some 69) (v := .slice (some ⟨w2.heap.size, 0, none⟩) P.length P.length) rfl rfl (by kernel_rfl) (by kernel_rfl) (by kernel_rfl) (fun _ _ _ h => h) (by rfl) ?_ hHeld ?_
                      · intro w' hSw; obtain ⟨s0, _⟩ := hSw; go_simp; try rfl
                      try simp only [Act.put, List.setIfInBounds_toArray, List.set_cons_zero, List.set_cons_succ]
                      refine take_atL (i := 3) (d := some 70) (v := .int .i64 (k : Int)) rfl rfl (by kernel_rfl) (by kernel_rfl) (by kernel_rfl) (fun _ _ _ h => h) (by rfl) ?_ hHeld ?_
                      · intro w' hSw; obtain ⟨s0, _⟩ := hSw; go_simp; try rfl
                      try simp only [Act.put, List.setIfInBounds_toArray, List.set_cons_zero, List.set_cons_succ]
                      refine take_atL (i := 4) (d := some 71) (v := .pointer (some ⟨w2.heap.size, k, none⟩)) rfl rfl (by kernel_rfl) (by kernel_rfl) (by kernel_rfl) (fun _ _ _ h => h) (by rfl) ?_ hHeld ?_
                      · intro w' hSw; obtain ⟨s0, _⟩ := hSw; go_simp; try rfl
                      try simp only [Act.put, List.setIfInBounds_toArray, List.set_cons_zero, List.set_cons_succ]
                      refine take_atL (i := 6) (d := some 73) (v := .int .i64 (n : Int)) rfl rfl (by kernel_rfl) (by kernel_rfl) (by kernel_rfl) (fun _ _ _ h => h) (by rfl) ?_ hHeld ?_
                      · intro w' hSw; obtain ⟨s0, _⟩ := hSw; go_simp; try rfl
                      try simp only [Act.put, List.setIfInBounds_toArray, List.set_cons_zero, List.set_cons_succ]
                      refine take_atL (i := 8) (d := some 75) (v := .slice (some ⟨w2.heap.size, 0, none⟩) P.length P.length) rfl rfl (by kernel_rfl) (by kernel_rfl) (by kernel_rfl) (fun _ _ _ h => h) (by rfl) ?_ hHeld ?_
                      · intro w' hSw; obtain ⟨s0, _⟩ := hSw; go_simp; try rfl
                      try simp only [Act.put, List.setIfInBounds_toArray, List.set_cons_zero, List.set_cons_succ]
                      refine take_atL (i := 9) (d := some 76) (v := .int .i64 (n : Int)) rfl rfl (by kernel_rfl) (by kernel_rfl) (by kernel_rfl) (fun _ _ _ h => h) (by rfl) ?_ hHeld ?_
                      · intro w' hSw; obtain ⟨s0, _⟩ := hSw; go_simp; try rfl
                      try simp only [Act.put, List.setIfInBounds_toArray, List.set_cons_zero, List.set_cons_succ]
                      refine take_atL (i := 10) (d := some 77) (v := .pointer (some ⟨w2.heap.size, n, none⟩)) rfl rfl (by kernel_rfl) (by kernel_rfl) (by kernel_rfl) (fun _ _ _ h => h) (by rfl) ?_ hHeld ?_
                      · intro w' hSw; obtain ⟨s0, _⟩ := hSw; go_simp; try rfl
                      try simp only [Act.put, List.setIfInBounds_toArray, List.set_cons_zero, List.set_cons_succ]
                      refine wpAnyH_ready (rs := [5, 11]) (by kernel_rfl) (by simp) ?_
                      refine AllReadyH.cons (o := _) rfl (fun K hK => ?_) (AllReadyH.cons (o := _) rfl (fun K hK => ?_) AllReadyH.nil)
                      · rw [if_pos (by rfl)]
                        go_simp
                        refine hK.out _ _ hHeld (fun hHeld => ?_)
                        clear hK K
                        try simp only [Act.put, List.setIfInBounds_toArray, List.set_cons_zero, List.set_cons_succ]
                        refine wpAnyH_ready (rs := [7, 11]) (by kernel_rfl) (by simp) ?_
                        refine AllReadyH.cons (o := _) rfl (fun K hK => ?_) (AllReadyH.cons (o := _) rfl (fun K hK => ?_) AllReadyH.nil)
                        · rw [if_pos (by rfl)]
                          go_simp
                          refine (XA.out _ (Below.drew (Below.refl _ _))).mono ?_
                          rintro e w3 ⟨v3, rfl, hO3, hb3⟩
                          obtain ⟨a4, c4, rfl, hr4, _⟩ := hO3.shape
                          have hb3r : Below wr.heap.size wr w3 := Below.drewed (by simpa using hb3)
                          have g03 := (hb3r.cell (p := ⟨w.heap.size, 0, none⟩) hgl).trans g0
                          have q23 := (hb3r.cell (p := ⟨w2.heap.size, k, none⟩) hw2r).trans q2
                          have q33 := (hb3r.cell (p := ⟨w2.heap.size, n, none⟩) hw2r).trans q3
                          have Y := YY.out w3 a4 c4 hb3r hr4
                          clear XA hO3 hr4 hb3 YY hHeld
                          go_wp2_with fail
                          refine hK.out _ _ ⟨g03, trivial⟩ (fun hHeld => ?_)
                          clear hK K
                          try simp only [Act.put, List.setIfInBounds_toArray, List.set_cons_zero, List.set_cons_succ]
                          refine wpAnyH_ready (rs := [11]) (by kernel_rfl) (by simp) ?_
                          refine AllReadyH.cons (o := _) rfl (fun K hK => ?_) AllReadyH.nil
                          rw [if_pos (by rfl)]
                          go_simp
                          refine hK.out _ _ hHeld (fun hHeld => ?_)
                          clear hK K
                          try simp only [Act.put, List.setIfInBounds_toArray, List.set_cons_zero, List.set_cons_succ]
                          refine wpAnyH_ready (rs := [12]) (by kernel_rfl) (by simp) ?_
                          refine AllReadyH.cons (o := _) rfl (fun K hK => ?_) AllReadyH.nil
                          rw [if_pos (by rfl)]
                          go_simp
                          refine Y.mono ?_
                          rintro e w4 ⟨v4, rfl, hO4, hb4⟩
                          have hb4r : Below wr.heap.size wr w4 := hb3r.trans (hb4.mono hb3r.size)
                          have g04 := (hb4r.cell (p := ⟨w.heap.size, 0, none⟩) hgl).trans g0
                          obtain ⟨S5, HO5, hf5, z5, hz5⟩ := HPUT.out w4 v4 hb4r (hO4.base hb3r.size)
                          obtain ⟨a5, c5, rfl, _, _⟩ := hO4.shape
                          have HE5 : Hid (∃ S, OL (w4.setCell ⟨w2.heap.size, k, none⟩ (.slice a5 jn.length c5)) w2.heap.size 25 1 (.slice (some ⟨w2.heap.size, 0, none⟩) P.length P.length) P.length ((stS k z M2).flatMap (Lay.list Lay.int).cells) S) := ⟨S5, HO5⟩
                          have HB5 : Hid (Below w2.heap.size w2 (w4.setCell ⟨w2.heap.size, k, none⟩ (.slice a5 jn.length c5))) := (hbj.trans (hb4r.mono hbj.size)).setCell (p := ⟨w2.heap.size, k, none⟩) (Nat.le_refl _) _
                          clear Y g03 q23 q33 HPUT HO5 hO4 hHeld
                          go_wp2_with fail
                          refine hK.out _ _ ⟨g04, trivial⟩ (fun hHeld => ?_)
                          clear hK K
                          try simp only [Act.put, List.setIfInBounds_toArray, List.set_cons_zero, List.set_cons_succ]
                          refine take_atL (i := 13) (d := some 80) (v := .pointer (some ⟨w2.heap.size, k, none⟩)) rfl rfl (by kernel_rfl) (by kernel_rfl) (by kernel_rfl) (fun _ _ _ h => h) (by rfl) ?_ hHeld ?_
                          · intro w' hSw; obtain ⟨s0, _⟩ := hSw; go_simp; try rfl
                          try simp only [Act.put, List.setIfInBounds_toArray, List.set_cons_zero, List.set_cons_succ]
                          refine wpAnyH_ready (rs := [14]) (by kernel_rfl) (by simp) ?_
                          refine AllReadyH.cons (o := _) rfl (fun K hK => ?_) AllReadyH.nil
                          rw [if_pos (by rfl)]
                          go_simp
                          refine hK.out _ _ ⟨by rw [World.cell?_setCell_far _ _ _ _ (by show w2.heap.size ≠ w.heap.size; omega)]; exact g04, trivial⟩ (fun hHeld => ?_)
                          clear hK K
                          try simp only [Act.put, List.setIfInBounds_toArray, List.set_cons_zero, List.set_cons_succ]
                          refine wpAnyH_done (by kernel_rfl) ?_ _
                          clear hHeld g04 hf5 hz5 q2 q3
                          go_wp2_with (go_at_call 53; refine (XH.out _ HB5.out).mono ?_; rintro e w6 ⟨rfl, rfl⟩)
                          go_roundw
                          case rel => exact ⟨i + 1, by omega, by go_num, by rw [HNx.out]; exact HE5, HB5.out⟩
                          case measure => simp [intOf]; omega
                        · rw [if_pos (by rfl)]
                          go_simp
                          refine hK.out _ _ hHeld (fun hHeld => ?_)
                          clear hK K
                          try simp only [Act.put, List.setIfInBounds_toArray, List.set_cons_zero, List.set_cons_succ]
                          refine wpAnyH_ready (rs := [7]) (by kernel_rfl) (by simp) ?_
                          refine AllReadyH.cons (o := _) rfl (fun K hK => ?_) AllReadyH.nil
                          rw [if_pos (by rfl)]
                          go_simp
                          refine (XA.out _ (Below.drew (Below.refl _ _))).mono ?_
                          rintro e w3 ⟨v3, rfl, hO3, hb3⟩
                          obtain ⟨a4, c4, rfl, hr4, _⟩ := hO3.shape
                          have hb3r : Below wr.heap.size wr w3 := Below.drewed (by simpa using hb3)
                          have g03 := (hb3r.cell (p := ⟨w.heap.size, 0, none⟩) hgl).trans g0
                          have q23 := (hb3r.cell (p := ⟨w2.heap.size, k, none⟩) hw2r).trans q2
                          have q33 := (hb3r.cell (p := ⟨w2.heap.size, n, none⟩) hw2r).trans q3
                          have Y := YY.out w3 a4 c4 hb3r hr4
                          clear XA hO3 hr4 hb3 YY hHeld
                          go_wp2_with fail
                          refine hK.out _ _ ⟨g03, trivial⟩ (fun hHeld => ?_)
                          clear hK K
                          try simp only [Act.put, List.setIfInBounds_toArray, List.set_cons_zero, List.set_cons_succ]
                          refine wpAnyH_ready (rs := [12]) (by kernel_rfl) (by simp) ?_
                          refine AllReadyH.cons (o := _) rfl (fun K hK => ?_) AllReadyH.nil
                          rw [if_pos (by rfl)]
                          go_simp
                          refine Y.mono ?_
                          rintro e w4 ⟨v4, rfl, hO4, hb4⟩
                          have hb4r : Below wr.heap.size wr w4 := hb3r.trans (hb4.mono hb3r.size)
                          have g04 := (hb4r.cell (p := ⟨w.heap.size, 0, none⟩) hgl).trans g0
                          obtain ⟨S5, HO5, hf5, z5, hz5⟩ := HPUT.out w4 v4 hb4r (hO4.base hb3r.size)
                          obtain ⟨a5, c5, rfl, _, _⟩ := hO4.shape
                          have HE5 : Hid (∃ S, OL (w4.setCell ⟨w2.heap.size, k, none⟩ (.slice a5 jn.length c5)) w2.heap.size 25 1 (.slice (some ⟨w2.heap.size, 0, none⟩) P.length P.length) P.length ((stS k z M2).flatMap (Lay.list Lay.int).cells) S) := ⟨S5, HO5⟩
                          have HB5 : Hid (Below w2.heap.size w2 (w4.setCell ⟨w2.heap.size, k, none⟩ (.slice a5 jn.length c5))) := (hbj.trans (hb4r.mono hbj.size)).setCell (p := ⟨w2.heap.size, k, none⟩) (Nat.le_refl _) _
                          clear Y g03 q23 q33 HPUT HO5 hO4 hHeld
                          go_wp2_with fail
                          refine hK.out _ _ ⟨g04, trivial⟩ (fun hHeld => ?_)
                          clear hK K
                          try simp only [Act.put, List.setIfInBounds_toArray, List.set_cons_zero, List.set_cons_succ]
                          refine take_atL (i := 13) (d := some 80) (v := .pointer (some ⟨w2.heap.size, k, none⟩)) rfl rfl (by kernel_rfl) (by kernel_rfl) (by kernel_rfl) (fun _ _ _ h => h) (by rfl) ?_ hHeld ?_
                          · intro w' hSw; obtain ⟨s0, _⟩ := hSw; go_simp; try rfl
                          try simp only [Act.put, List.setIfInBounds_toArray, List.set_cons_zero, List.set_cons_succ]
                          refine wpAnyH_ready (rs := [14]) (by kernel_rfl) (by simp) ?_
                          refine AllReadyH.cons (o := _) rfl (fun K hK => ?_) AllReadyH.nil
                          rw [if_pos (by rfl)]
                          go_simp
                          refine hK.out _ _ ⟨by rw [World.cell?_setCell_far _ _ _ _ (by show w2.heap.size ≠ w.heap.size; omega)]; exact g04, trivial⟩ (fun hHeld => ?_)
                          clear hK K
                          try simp only [Act.put, List.setIfInBounds_toArray, List.set_cons_zero, List.set_cons_succ]
                          refine wpAnyH_done (by kernel_rfl) ?_ _
                          clear hHeld g04 hf5 hz5 q2 q3
                          go_wp2_with (go_at_call 53; refine (XH.out _ HB5.out).mono ?_; rintro e w6 ⟨rfl, rfl⟩)
                          go_roundw
                          case rel => exact ⟨i + 1, by omega, by go_num, by rw [HNx.out]; exact HE5, HB5.out⟩
                          case measure => simp [intOf]; omega
                      · rw [if_pos (by rfl)]
                        go_simp
                        refine hK.out _ _ hHeld (fun hHeld => ?_)
                        clear hK K
                        try simp only [Act.put, List.setIfInBounds_toArray, List.set_cons_zero, List.set_cons_succ]
                        refine wpAnyH_ready (rs := [5]) (by kernel_rfl) (by simp) ?_
                        refine AllReadyH.cons (o := _) rfl (fun K hK => ?_) AllReadyH.nil
                        rw [if_pos (by rfl)]
                        go_simp
                        refine hK.out _ _ hHeld (fun hHeld => ?_)
                        clear hK K
                        try simp only [Act.put, List.setIfInBounds_toArray, List.set_cons_zero, List.set_cons_succ]
                        refine wpAnyH_ready (rs := [7]) (by kernel_rfl) (by simp) ?_
                        refine AllReadyH.cons (o := _) rfl (fun K hK => ?_) AllReadyH.nil
                        rw [if_pos (by rfl)]
                        go_simp
                        refine (XA.out _ (Below.drew (Below.refl _ _))).mono ?_
                        rintro e w3 ⟨v3, rfl, hO3, hb3⟩
                        obtain ⟨a4, c4, rfl, hr4, _⟩ := hO3.shape
                        have hb3r : Below wr.heap.size wr w3 := Below.drewed (by simpa using hb3)
                        have g03 := (hb3r.cell (p := ⟨w.heap.size, 0, none⟩) hgl).trans g0
                        have q23 := (hb3r.cell (p := ⟨w2.heap.size, k, none⟩) hw2r).trans q2
                        have q33 := (hb3r.cell (p := ⟨w2.heap.size, n, none⟩) hw2r).trans q3
                        have Y := YY.out w3 a4 c4 hb3r hr4
                        clear XA hO3 hr4 hb3 YY hHeld
                        go_wp2_with fail
                        refine hK.out _ _ ⟨g03, trivial⟩ (fun hHeld => ?_)
                        clear hK K
                        try simp only [Act.put, List.setIfInBounds_toArray, List.set_cons_zero, List.set_cons_succ]
                        refine wpAnyH_ready (rs := [12]) (by kernel_rfl) (by simp) ?_
                        refine AllReadyH.cons (o := _) rfl (fun K hK => ?_) AllReadyH.nil
                        rw [if_pos (by rfl)]
                        go_simp
                        refine Y.mono ?_
                        rintro e w4 ⟨v4, rfl, hO4, hb4⟩
                        have hb4r : Below wr.heap.size wr w4 := hb3r.trans (hb4.mono hb3r.size)
                        have g04 := (hb4r.cell (p := ⟨w.heap.size, 0, none⟩) hgl).trans g0
                        obtain ⟨S5, HO5, hf5, z5, hz5⟩ := HPUT.out w4 v4 hb4r (hO4.base hb3r.size)
                        obtain ⟨a5, c5, rfl, _, _⟩ := hO4.shape
                        have HE5 : Hid (∃ S, OL (w4.setCell ⟨w2.heap.size, k, none⟩ (.slice a5 jn.length c5)) w2.heap.size 25 1 (.slice (some ⟨w2.heap.size, 0, none⟩) P.length P.length) P.length ((stS k z M2).flatMap (Lay.list Lay.int).cells) S) := ⟨S5, HO5⟩
                        have HB5 : Hid (Below w2.heap.size w2 (w4.setCell ⟨w2.heap.size, k, none⟩ (.slice a5 jn.length c5))) := (hbj.trans (hb4r.mono hbj.size)).setCell (p := ⟨w2.heap.size, k, none⟩) (Nat.le_refl _) _
                        clear Y g03 q23 q33 HPUT HO5 hO4 hHeld
                        go_wp2_with fail
                        refine hK.out _ _ ⟨g04, trivial⟩ (fun hHeld => ?_)
                        clear hK K
                        try simp only [Act.put, List.setIfInBounds_toArray, List.set_cons_zero, List.set_cons_succ]
                        refine take_atL (i := 13) (d := some 80) (v := .pointer (some ⟨w2.heap.size, k, none⟩)) rfl rfl (by kernel_rfl) (by kernel_rfl) (by kernel_rfl) (fun _ _ _ h => h) (by rfl) ?_ hHeld ?_
                        · intro w' hSw; obtain ⟨s0, _⟩ := hSw; go_simp; try rfl
                        try simp only [Act.put, List.setIfInBounds_toArray, List.set_cons_zero, List.set_cons_succ]
                        refine wpAnyH_ready (rs := [14]) (by kernel_rfl) (by simp) ?_
                        refine AllReadyH.cons (o := _) rfl (fun K hK => ?_) AllReadyH.nil
                        rw [if_pos (by rfl)]
                        go_simp
                        refine hK.out _ _ ⟨by rw [World.cell?_setCell_far _ _ _ _ (by show w2.heap.size ≠ w.heap.size; omega)]; exact g04, trivial⟩ (fun hHeld => ?_)
                        clear hK K
                        try simp only [Act.put, List.setIfInBounds_toArray, List.set_cons_zero, List.set_cons_succ]
                        refine wpAnyH_done (by kernel_rfl) ?_ _
                        clear hHeld g04 hf5 hz5 q2 q3
                        go_wp2_with (go_at_call 53; refine (XH.out _ HB5.out).mono ?_; rintro e w6 ⟨rfl, rfl⟩)
                        go_roundw
                        case rel => exact ⟨i + 1, by omega, by go_num, by rw [HNx.out]; exact HE5, HB5.out⟩
                        case measure => simp [intOf]; omega
                  · have HNx : Hid (stI E k Q Mk0 (i + 1) = M2) := HN.out.trans (L0.out z1)
                    have z2 : z < 100 := by omega
                    clear L0 L1 L2 hy z1
                    go_wp2
                    go_roundw
                    case rel => exact ⟨i + 1, by omega, by go_num, by rw [HNx.out]; exact HOj, hbj⟩
                    case measure => simp [intOf]; omega
                · have HNx : Hid (stI E k Q Mk0 (i + 1) = M2) := HN.out.trans (HM.out.2.trans (stRow_end hlj))
                  clear HM
                  go_wp2
                  go_roundw
                  case rel => exact ⟨i + 1, by omega, by go_num, by rw [HNx.out]; exact HOj, hbj⟩
                  case measure => simp [intOf]; omega
            · have e : i = Q.length := by omega
              subst e
              have HKe := HK.out
              clear HK
              go_wp2
              go_roundw
              case rel => exact ⟨k + 1, by omega, by go_num, by rw [HKe]; exact HOi, hbi⟩
              case measure => simp [intOf]; omega
        · have e : k = P.length := by omega
          subst e
          have HTe := HT.out
          clear HT
          go_wp2
          go_roundw
          case rel => exact ⟨t + 1, by omega, by go_num, by rw [HTe]; exact HOk, hbk⟩
          case measure => simp [intOf]; omega
    · have e : t = P.length + 1 := by omega
      subst e
      obtain ⟨S, HOL⟩ := HO.out
      have hfl : (startsL P).length = P.length := by rw [HFL.out]; exact (stT_sets E HF.out _).1
      have HD : Hid (OD wr w.heap.size (.slice (some ⟨w2.heap.size, 0, none⟩) P.length P.length) (slD (Lay.list Lay.int) (startsL P)) S) := by
        have := HOL.od.base (b' := w.heap.size) (by omega)
        show OD _ _ _ _ _
        unfold slD; rw [hfl, HFL.out]; exact this
      clear HOL HO HFL hfl
      go_wp2
      go_ret
      exact ⟨_, _, rfl, HD.out, hb2'.trans (hbel.mono (by omega))⟩
end Go.Proofs.YthnppodnjokaoaaDoor
namespace Go.Proofs.YthnppodnjokaoaaDoor
open Go.RowKit

/-- What Starts answers. -/
def resStarts (x : Gm) (n : Int) : List Int := if gramOkB x.parts && inB n 0 (x.parts.length - 1) then (startsL x.parts).getD n.toNat [] else []
theorem resStarts_le (x : Gm) (n : Int) (_ : Lay.gram.wt x ≤ 1048576) (_ : Lay.gram.fit x) (_ : (Lit.int .i64 n).wf = true) : (Lay.list Lay.int).wt (resStarts x n) ≤ 2097152 := by
  rw [Lay.wt_ints, resStarts]
  split
  · have hok : gramOkB x.parts = true := by rename_i h; simp only [Bool.and_eq_true] at h; exact h.1
    have := ((stT_sets (emptiesL x.parts) (Fits.of hok) (x.parts.length + 1)).get (k := n.toNat)).len (n := 27)
    unfold startsL; omega
  · simp

end Go.Proofs.YthnppodnjokaoaaDoor
namespace Go.Proofs.YthnppodnjokaoaaDoor
open Go.RowKit

/-- A part is among its own Starts. -/
def loopB (M : List (List Int)) : Bool := (List.range M.length).any fun k => hasL (M.getD k []) k
theorem loopB_yes {M : List (List Int)} {k : Nat} (h : k < M.length) (g : hasL M[k] k = true) : loopB M = true := by
  simp only [loopB, List.any_eq_true, List.mem_range]
  exact ⟨k, h, by simpa [List.getD, h] using g⟩
theorem loopB_no {M : List (List Int)} (h : ∀ k (hk : k < M.length), hasL M[k] k = false) : loopB M = false := by
  simp only [loopB, List.any_eq_false, List.mem_range]
  intro k hk
  have := h k hk
  simpa [List.getD, hk] using this
/-- What Check answers. -/
def resCheck (x : Gm) : Int := if gramOkB x.parts then (if loopB (startsL x.parts) then 2 else if (aliveL x.parts).length < x.parts.length then 3 else if (reachL x.parts).length < x.parts.length then 4 else 0) else 1

set_option maxHeartbeats 1000000 in
set_option maxRecDepth 100000 in
theorem specCheck_any (x : Gm) (a0 : Option Addr) (c0 : Nat) (w : World) (h0 : RD w (.slice a0 x.parts.length c0) (slD (Lay.list (Lay.list Lay.int)) x.parts)) (hn : Lay.gram.wt x ≤ 1048576) (hf : Lay.gram.fit x) :
    Calls Tryd.prog 28 #[.agg #[.slice a0 x.parts.length c0]] w fun e w' => e = .returned (.int .i64 (resCheck x)) ∧ Below w.heap.size w w' := by
  unfold resCheck
  have B0 := (Below.refl w.heap.size w).alloc (Nat.le_refl _) (.cells #[.slice a0 x.parts.length c0] 28)
  have HOK : Hid (∀ W : World, Below w.heap.size w W → Calls Tryd.prog 51 #[.agg #[.slice a0 x.parts.length c0]] W fun e w' => e = .returned (.bool (gramOkB x.parts)) ∧ Below W.heap.size W w') := fun W hW => specGramOk_any x a0 c0 W (h0.later hW) hn hf
  by_cases hok : gramOkB x.parts = true
  · have HST : Hid (∀ W : World, Below w.heap.size w W → Calls Tryd.prog 52 #[.agg #[.slice a0 x.parts.length c0]] W fun e w' => ∃ v S, e = .returned v ∧ OD w' W.heap.size v (slD (Lay.list Lay.int) (startsL x.parts)) S ∧ Below W.heap.size W w') := fun W hW => l5Starts_any x.parts a0 c0 W (h0.later hW) hok
    have HPR : Hid (∀ W : World, Below w.heap.size w W → Calls Tryd.prog 54 #[.agg #[.slice a0 x.parts.length c0]] W fun e w' => ∃ v S, e = .returned v ∧ OD w' W.heap.size v (slD Lay.int (aliveL x.parts)) S ∧ Below W.heap.size W w') := fun W hW => by
      have := specProductive_any x a0 c0 W (h0.later hW) hn hf
      rwa [resProductive, if_pos hok] at this
    have HRE : Hid (∀ W : World, Below w.heap.size w W → Calls Tryd.prog 55 #[.agg #[.slice a0 x.parts.length c0]] W fun e w' => ∃ v S, e = .returned v ∧ OD w' W.heap.size v (slD Lay.int (reachL x.parts)) S ∧ Below W.heap.size W w') := fun W hW => by
      have := specReachable_any x a0 c0 W (h0.later hW) hn hf
      rwa [resReachable, if_pos hok] at this
    have HS : Hid (Sets x.parts.length (startsL x.parts)) := stT_sets _ (Fits.of hok) _
    have hp := (Fits.of hok).parts
    have hal := aliveL_le (Fits.of hok)
    have hrl := reachL_le (Fits.of hok)
    rw [if_pos hok]
    rw [hok] at HOK
    clear h0 hn hf hok
    generalize startsL x.parts = M at *
    generalize aliveL x.parts = AL at *
    generalize reachL x.parts = RL at *
    generalize x.parts = P at *
    obtain ⟨C, HC⟩ : ∃ C : Int, Hid ((if loopB M then (2 : Int) else if AL.length < P.length then 3 else if RL.length < P.length then 4 else 0) = C) := ⟨_, rfl⟩
    rw [HC.out]
    go_enter Tryd.func28, Tryd.ntmps28
    go_wp2_with fail
    refine (HOK.out _ B0).mono ?_
    rintro e w1 ⟨rfl, hb1⟩
    have g1 : w1.cell? ⟨w.heap.size, 0, none⟩ = some (.slice a0 P.length c0) := (hb1.cell (p := ⟨w.heap.size, 0, none⟩) (by simp)).trans (by simp)
    have B1 := B0.trans (hb1.mono B0.size)
    clear HOK hb1 B0
    go_wp2_with fail
    refine (HST.out _ B1).mono ?_
    rintro e w2 ⟨v2, S2, rfl, hO2, hb2⟩
    obtain ⟨a2, c2, rfl, _⟩ := OD.shapeL hO2
    have B2 := B1.trans (hb2.mono B1.size)
    have g2 := (hb2.cell (p := ⟨w.heap.size, 0, none⟩) (World.block_lt_of_cell? w1 _ g1)).trans g1
    have HRD : Hid (RD w2 (.slice a2 M.length c2) (slD (Lay.list Lay.int) M)) := hO2.rd
    have hMl20 : M.length ≤ 20 := by rw [HS.out.1]; exact hp
    clear HST hO2 hb2 g1
    go_wp2
    go_loop [4] (fun s => ∃ k : Nat, k ≤ M.length ∧ s = .int .i64 k ∧ Hid (∀ j (hj : j < M.length), j < k → hasL M[j] j = false)) (fun s => M.length - (intOf s).toNat)
    case atStart => exact ⟨0, Nat.zero_le _, rfl, fun j hj hk => by omega⟩
    case round =>
      obtain ⟨k, hk, rfl, HK⟩ := hrel
      by_cases hlt : k < M.length
      · obtain ⟨b3, o3, rfl, hb3, a3, c3, q3, r3⟩ := HRD.out.listAt hlt
        have h27 : M[k].length ≤ 27 := (HS.out.2 _ (List.getElem_mem hlt)).len (n := 27)
        have X : Hid (Calls Tryd.prog 53 #[.slice a3 M[k].length c3, .int .i64 (k : Int)] w2 fun e w' => e = .returned (.bool (hasL M[k] k)) ∧ w' = w2) := specSetHas_same a3 c3 M[k] (k : Int) w2 r3.reads (by omega)
        have LY : Hid (hasL M[k] k = true → loopB M = true) := loopB_yes hlt
        have LN : Hid (hasL M[k] k = false → ∀ j (hj : j < M.length), j < k + 1 → hasL M[j] j = false) := fun g j hj hjk => by
          by_cases e : j = k
          · subst e; exact g
          · exact HK.out j hj (by omega)
        clear r3 HK
        generalize hgk : hasL M[k] k = T at *
        clear hgk
        generalize M[k] = m at *
        cases T
        · have LNo : Hid (∀ j (hj : j < M.length), j < k + 1 → hasL M[j] j = false) := LN.out rfl
          clear LY LN
          go_wp2_with (go_at_call 53; refine X.out.mono ?_; rintro e w' ⟨rfl, rfl⟩)
          go_round
          case rel => exact ⟨k + 1, by omega, by go_num, LNo⟩
          case measure => simp [intOf]; omega
        · have HL : Hid (loopB M = true) := LY.out rfl
          clear LY LN
          go_wp2_with (go_at_call 53; refine X.out.mono ?_; rintro e w' ⟨rfl, rfl⟩)
          go_ret
          exact ⟨ret_int (by rw [← HC.out, HL.out, if_pos rfl]), B2⟩
      · have HL : Hid (loopB M = false) := loopB_no (fun j hj => HK.out j hj (by omega))
        clear HK HRD HS
        go_wp2
        refine wp_region_held_drew (S := (fun w' => w'.cell? ⟨w.heap.size, 0, none⟩ = some (.slice a0 P.length c0) ∧ True)) (by kernel_rfl) ⟨g2, trivial⟩ (fun hHeld => ?_)
        refine take_atL (i := 0) (d := some 22) (v := .agg #[.slice a0 P.length c0]) rfl rfl (by kernel_rfl) (by kernel_rfl) (by kernel_rfl) (fun _ _ _ h => h) (by rfl) ?_ hHeld ?_
        · intro w' hSw; obtain ⟨s0, _⟩ := hSw; go_simp; try rfl
        try simp only [Act.put, List.setIfInBounds_toArray, List.set_cons_zero, List.set_cons_succ]
        refine take_atL (i := 3) (d := some 25) (v := .pointer (some ⟨w.heap.size, 0, none⟩)) rfl rfl (by kernel_rfl) (by kernel_rfl) (by kernel_rfl) (fun _ _ _ h => h) (by rfl) ?_ hHeld ?_
        · intro w' hSw; obtain ⟨s0, _⟩ := hSw; go_simp; try rfl
        try simp only [Act.put, List.setIfInBounds_toArray, List.set_cons_zero, List.set_cons_succ]
        refine take_atL (i := 4) (d := some 26) (v := .slice a0 P.length c0) rfl rfl (by kernel_rfl) (by kernel_rfl) (by kernel_rfl) (fun _ _ _ h => h) (by rfl) ?_ hHeld ?_
        · intro w' hSw; obtain ⟨s0, _⟩ := hSw; go_simp; try rfl
        try simp only [Act.put, List.setIfInBounds_toArray, List.set_cons_zero, List.set_cons_succ]
        refine take_atL (i := 5) (d := some 27) (v := .int .i64 (P.length : Int)) rfl rfl (by kernel_rfl) (by kernel_rfl) (by kernel_rfl) (fun _ _ _ h => h) (by rfl) ?_ hHeld ?_
        · intro w' hSw; obtain ⟨s0, _⟩ := hSw; go_simp; try rfl
        try simp only [Act.put, List.setIfInBounds_toArray, List.set_cons_zero, List.set_cons_succ]
        refine wpAnyH_ready (rs := [1]) (by kernel_rfl) (by simp) ?_
        refine AllReadyH.cons (o := _) rfl (fun K hK => ?_) AllReadyH.nil
        rw [if_pos (by rfl)]
        go_simp
        refine (HPR.out _ (B2.drew)).mono ?_
        rintro e w3 ⟨v3, S3, rfl, hO3, hb3⟩
        obtain ⟨a3, c3, rfl, _⟩ := OD.shapeL hO3
        have hb3r : Below w2.heap.size w2 w3 := Below.drewed (by simpa using hb3)
        have B3 := B2.trans (hb3r.mono B2.size)
        have g3 := (hb3r.cell (p := ⟨w.heap.size, 0, none⟩) (World.block_lt_of_cell? w2 _ g2)).trans g2
        clear hO3 hb3 HPR hHeld hb3r
        go_wp2_with fail
        refine hK.out _ _ ⟨g3, trivial⟩ (fun hHeld => ?_)
        clear hK K
        try simp only [Act.put, List.setIfInBounds_toArray, List.set_cons_zero, List.set_cons_succ]
        refine take_atL (i := 2) (d := some 24) (v := .int .i64 (AL.length : Int)) rfl rfl (by kernel_rfl) (by kernel_rfl) (by kernel_rfl) (fun _ _ _ h => h) (by rfl) ?_ hHeld ?_
        · intro w' hSw; obtain ⟨s0, _⟩ := hSw; go_simp; try rfl
        try simp only [Act.put, List.setIfInBounds_toArray, List.set_cons_zero, List.set_cons_succ]
        by_cases h3 : AL.length < P.length
        · have HN3 : Hid (AL.length < P.length) := h3
          have h3' : (AL.length : Int) < (P.length : Int) := by omega
          refine take_atL (i := 6) (d := some 28) (v := .bool true) rfl rfl (by kernel_rfl) (by kernel_rfl) (by kernel_rfl) (fun _ _ _ h => h) (by rfl) ?_ hHeld ?_
          · intro w' hSw; obtain ⟨s0, _⟩ := hSw; go_simp; first | done | rfl | omega
          try simp only [Act.put, List.setIfInBounds_toArray, List.set_cons_zero, List.set_cons_succ]
          refine wpAnyH_done (by kernel_rfl) ?_ _
          clear hHeld
          go_wp2
          go_ret
          exact ⟨ret_int (by rw [← HC.out, HL.out, if_neg (by decide), if_pos HN3.out]), B3⟩
        · have HN3 : Hid (¬ AL.length < P.length) := h3
          have h3' : (P.length : Int) ≤ (AL.length : Int) := by omega
          clear h3
          refine take_atL (i := 6) (d := some 28) (v := .bool false) rfl rfl (by kernel_rfl) (by kernel_rfl) (by kernel_rfl) (fun _ _ _ h => h) (by rfl) ?_ hHeld ?_
          · intro w' hSw; obtain ⟨s0, _⟩ := hSw; go_simp; first | done | rfl | omega
          try simp only [Act.put, List.setIfInBounds_toArray, List.set_cons_zero, List.set_cons_succ]
          refine wpAnyH_done (by kernel_rfl) ?_ _
          clear hHeld
          go_wp2
          refine wp_region_held_drew (S := (fun w' => w'.cell? ⟨w.heap.size, 0, none⟩ = some (.slice a0 P.length c0) ∧ True)) (by kernel_rfl) ⟨g3, trivial⟩ (fun hHeld => ?_)
          refine take_atL (i := 0) (d := some 29) (v := .agg #[.slice a0 P.length c0]) rfl rfl (by kernel_rfl) (by kernel_rfl) (by kernel_rfl) (fun _ _ _ h => h) (by rfl) ?_ hHeld ?_
          · intro w' hSw; obtain ⟨s0, _⟩ := hSw; go_simp; try rfl
          try simp only [Act.put, List.setIfInBounds_toArray, List.set_cons_zero, List.set_cons_succ]
          refine take_atL (i := 3) (d := some 32) (v := .pointer (some ⟨w.heap.size, 0, none⟩)) rfl rfl (by kernel_rfl) (by kernel_rfl) (by kernel_rfl) (fun _ _ _ h => h) (by rfl) ?_ hHeld ?_
          · intro w' hSw; obtain ⟨s0, _⟩ := hSw; go_simp; try rfl
          try simp only [Act.put, List.setIfInBounds_toArray, List.set_cons_zero, List.set_cons_succ]
          refine take_atL (i := 4) (d := some 33) (v := .slice a0 P.length c0) rfl rfl (by kernel_rfl) (by kernel_rfl) (by kernel_rfl) (fun _ _ _ h => h) (by rfl) ?_ hHeld ?_
          · intro w' hSw; obtain ⟨s0, _⟩ := hSw; go_simp; try rfl
          try simp only [Act.put, List.setIfInBounds_toArray, List.set_cons_zero, List.set_cons_succ]
          refine take_atL (i := 5) (d := some 34) (v := .int .i64 (P.length : Int)) rfl rfl (by kernel_rfl) (by kernel_rfl) (by kernel_rfl) (fun _ _ _ h => h) (by rfl) ?_ hHeld ?_
          · intro w' hSw; obtain ⟨s0, _⟩ := hSw; go_simp; try rfl
          try simp only [Act.put, List.setIfInBounds_toArray, List.set_cons_zero, List.set_cons_succ]
          refine wpAnyH_ready (rs := [1]) (by kernel_rfl) (by simp) ?_
          refine AllReadyH.cons (o := _) rfl (fun K hK => ?_) AllReadyH.nil
          rw [if_pos (by rfl)]
          go_simp
          refine (HRE.out _ (B3.drew)).mono ?_
          rintro e w4 ⟨v4, S4, rfl, hO4, hb4⟩
          obtain ⟨a4, c4, rfl, _⟩ := OD.shapeL hO4
          have hb4r : Below w3.heap.size w3 w4 := Below.drewed (by simpa using hb4)
          have B4 := B3.trans (hb4r.mono B3.size)
          have g4 := (hb4r.cell (p := ⟨w.heap.size, 0, none⟩) (World.block_lt_of_cell? w3 _ g3)).trans g3
          clear hO4 hb4 HRE hHeld hb4r
          go_wp2_with fail
          refine hK.out _ _ ⟨g4, trivial⟩ (fun hHeld => ?_)
          clear hK K
          try simp only [Act.put, List.setIfInBounds_toArray, List.set_cons_zero, List.set_cons_succ]
          refine take_atL (i := 2) (d := some 31) (v := .int .i64 (RL.length : Int)) rfl rfl (by kernel_rfl) (by kernel_rfl) (by kernel_rfl) (fun _ _ _ h => h) (by rfl) ?_ hHeld ?_
          · intro w' hSw; obtain ⟨s0, _⟩ := hSw; go_simp; try rfl
          try simp only [Act.put, List.setIfInBounds_toArray, List.set_cons_zero, List.set_cons_succ]
          by_cases h4 : RL.length < P.length
          · have HN4 : Hid (RL.length < P.length) := h4
            have h4' : (RL.length : Int) < (P.length : Int) := by omega
            refine take_atL (i := 6) (d := some 35) (v := .bool true) rfl rfl (by kernel_rfl) (by kernel_rfl) (by kernel_rfl) (fun _ _ _ h => h) (by rfl) ?_ hHeld ?_
            · intro w' hSw; obtain ⟨s0, _⟩ := hSw; go_simp; first | done | rfl | omega
            try simp only [Act.put, List.setIfInBounds_toArray, List.set_cons_zero, List.set_cons_succ]
            refine wpAnyH_done (by kernel_rfl) ?_ _
            clear hHeld
            go_wp2
            go_ret
            exact ⟨ret_int (by rw [← HC.out, HL.out, if_neg (by decide), if_neg HN3.out, if_pos HN4.out]), B4⟩
          · have HN4 : Hid (¬ RL.length < P.length) := h4
            have h4' : (P.length : Int) ≤ (RL.length : Int) := by omega
            clear h4
            refine take_atL (i := 6) (d := some 35) (v := .bool false) rfl rfl (by kernel_rfl) (by kernel_rfl) (by kernel_rfl) (fun _ _ _ h => h) (by rfl) ?_ hHeld ?_
            · intro w' hSw; obtain ⟨s0, _⟩ := hSw; go_simp; first | done | rfl | omega
            try simp only [Act.put, List.setIfInBounds_toArray, List.set_cons_zero, List.set_cons_succ]
            refine wpAnyH_done (by kernel_rfl) ?_ _
            clear hHeld
            go_wp2
            go_ret
            exact ⟨ret_int (by rw [← HC.out, HL.out, if_neg (by decide), if_neg HN3.out, if_neg HN4.out]), B4⟩
  · have hok2 : gramOkB x.parts = false := by simpa using hok
    rw [if_neg hok]
    rw [hok2] at HOK
    clear hok h0 hn hf hok2
    generalize x.parts = P at *
    go_enter Tryd.func28, Tryd.ntmps28
    go_wp2_with (go_at_call 51; refine (HOK.out _ B0).mono ?_; rintro e w1 ⟨rfl, hb1⟩)
    go_ret
    exact ⟨rfl, B0.trans (hb1.mono B0.size)⟩
end Go.Proofs.YthnppodnjokaoaaDoor
