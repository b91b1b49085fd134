/-
  Contracts and plain mathematics, joined: OneOf, NodesOk. No statement is proved here.
-/
import Derived.Test.YthnppodnjokaoaaDoorG11
import Derived.Test.YthnppodnjokaoaaDoorG5
namespace Go.Proofs.YthnppodnjokaoaaDoor
open Go.RowKit

theorem new_at {W : World} {n : Nat} (h : W.heap.size = n) {cs : Array Value} {t : TypeId} {i : Nat} {v : Value} (hv : cs[i]? = some v) : (W.alloc (.cells cs t)).cell? ⟨n, i, none⟩ = some v := by
  subst h
  have := heap_alloc_new W (.cells cs t)
  simp only [World.cell?, this]
  exact hv

set_option maxHeartbeats 1000000 in
set_option maxRecDepth 100000 in
theorem isOneOf_any (P : List (List (List Int))) (a0 : Option Addr) (c0 : Nat) (ns : List Nd) (a1 : Option Addr) (c1 : Nat) (x : Nd) (ax : Option Addr) (cx : Nat) (w : World) (h0 : RD w (.slice a0 P.length c0) (slD (Lay.list (Lay.list Lay.int)) P)) (h1 : RD w (.slice a1 ns.length c1) (slD Lay.node ns)) (hx : Reads w ax x.kids) (hl : x.kids.length ≤ 1048576) (hk : ∀ z ∈ x.kids, ∃ k : Nat, z = k ∧ k < ns.length) :
    Calls Tryd.prog 63 #[.agg #[.slice a0 P.length c0], .agg #[.slice a1 ns.length c1], .agg #[.int .i64 x.kind, .int .i64 x.sym, .int .i64 x.alt, .int .i64 x.pl, .slice ax x.kids.length cx]] w fun e w' => e = .returned (.bool (oneOfB P ns x)) ∧ Below w.heap.size w w' := by
  obtain ⟨wA, hwA⟩ : ∃ y, y = ((w.alloc (.cells #[.slice a0 P.length c0] 28)).alloc (.cells #[.slice a1 ns.length c1] 43)).alloc (.cells #[.int .i64 x.kind, .int .i64 x.sym, .int .i64 x.alt, .int .i64 x.pl, .slice ax x.kids.length cx] 55) := ⟨_, rfl⟩
  have B0 : Below w.heap.size w wA := by rw [hwA]; exact (((Below.refl _ _).alloc (Nat.le_refl _) _).alloc (by simp) _).alloc (by simp; omega) _
  have hsz : w.heap.size + 3 ≤ wA.heap.size := by rw [hwA]; simp
  have gC : ∀ (W : World) (o : Obj) (p : Addr) (v : Value), p.block < W.heap.size → W.cell? p = some v → (W.alloc o).cell? p = some v := fun W o p v hp h => ((Below.refl W.heap.size W).alloc (Nat.le_refl _) o |>.cell (p := p) hp).trans h
  have g0 : wA.cell? ⟨w.heap.size, 0, none⟩ = some (.slice a0 P.length c0) := by
    rw [hwA]
    exact gC _ _ _ _ (by simp; omega) (gC _ _ _ _ (by simp) (by simp))
  have e1 : (w.alloc (.cells #[.slice a0 P.length c0] 28)).heap.size = w.heap.size + 1 := by simp
  have g1 : wA.cell? ⟨w.heap.size + 1, 0, none⟩ = some (.slice a1 ns.length c1) := by
    rw [hwA]
    exact gC _ _ _ _ (by simp) (new_at e1 rfl)
  have e2 : ((w.alloc (.cells #[.slice a0 P.length c0] 28)).alloc (.cells #[.slice a1 ns.length c1] 43)).heap.size = w.heap.size + 1 + 1 := by simp
  have q0 : wA.cell? ⟨w.heap.size + 1 + 1, 0, none⟩ = some (.int .i64 x.kind) := by rw [hwA]; exact new_at e2 rfl
  have q1 : wA.cell? ⟨w.heap.size + 1 + 1, 1, none⟩ = some (.int .i64 x.sym) := by rw [hwA]; exact new_at e2 rfl
  have q2 : wA.cell? ⟨w.heap.size + 1 + 1, 2, none⟩ = some (.int .i64 x.alt) := by rw [hwA]; exact new_at e2 rfl
  have q4 : wA.cell? ⟨w.heap.size + 1 + 1, 4, none⟩ = some (.slice ax x.kids.length cx) := by rw [hwA]; exact new_at e2 rfl
  have HA : Hid (∀ W, Below w.heap.size w W → Calls Tryd.prog 83 #[.agg #[.slice a0 P.length c0], .int .i64 x.sym, .int .i64 x.alt] W fun e w' => e = .returned (.bool (altB P x.sym x.alt)) ∧ Below W.heap.size W w') := fun W hW => hasAlt_any P a0 c0 x.sym x.alt W (h0.later hW)
  clear gC e1 e2
  by_cases hk1 : x.kind = 1
  · cases hab : altB P x.sym x.alt with
    | false =>
      have hr : oneOfB P ns x = false := by simp [oneOfB, hab]
      rw [hr]
      rw [hab] at HA
      rw [hk1] at hwA q0 ⊢
      clear h0 h1 hx hl hk hr
      go_enter Tryd.func63, Tryd.ntmps63
      go_wp2_with fail
      rw [← hwA]
      clear hwA
      go_wp2_with fail
      refine (HA.out _ B0).mono ?_
      rintro e w5 ⟨rfl, hb5⟩
      go_wp2
      go_ret
      exact ⟨rfl, B0.trans (hb5.mono B0.size)⟩
    | true =>
      obtain ⟨kn, an, e3, e4, hkn, han, e5⟩ := altB_yes hab
      obtain ⟨b1, o1, rfl, hb1, a2, c2, p1, r2⟩ := h0.listAt hkn
      obtain ⟨b2, o2, rfl, hb2, a3, c3, p2, r3⟩ := r2.listAt han
      have hr : oneOfB P ns x = decide (x.kids.map (fun k => symNd (ndAt ns k.toNat)) = P[kn][an]) := by simp [oneOfB, hab, hk1, e5]
      have HE : Hid (∀ W, Below w.heap.size w W → W.cell? ⟨w.heap.size + 1, 0, none⟩ = some (.slice a1 ns.length c1) → w.heap.size + 1 < W.heap.size → Calls Tryd.prog 84 #[.slice ax x.kids.length cx, .slice a3 P[kn][an].length c3, .func (.func 85) #[] #[.pointer (some ⟨w.heap.size + 1, 0, none⟩)]] W fun e w' => e = .returned (.bool (decide (x.kids.map (fun k => symNd (ndAt ns k.toNat)) = P[kn][an]))) ∧ Below W.heap.size W w') := fun W hW hg hB => equalFunc_any ns a1 c1 x.kids P[kn][an] ax a3 cx c3 (w.heap.size + 1) W (h1.later hW) hg hB (hx.below hW) (r3.later hW).reads hl hk
      have HP1 : Hid (∀ W, Below w.heap.size w W → W.cell? ⟨b1, o1 + kn, none⟩ = some (.slice (some ⟨b2, o2, none⟩) P[kn].length c2)) := fun W hW => (hW.cell (p := ⟨b1, _, none⟩) hb1).trans p1
      have HP2 : Hid (∀ W, Below w.heap.size w W → W.cell? ⟨b2, o2 + an, none⟩ = some (.slice a3 P[kn][an].length c3)) := fun W hW => (hW.cell (p := ⟨b2, _, none⟩) hb2).trans p2
      rw [hr]
      rw [hab] at HA
      rw [hk1] at hwA q0 ⊢
      rw [e3] at hwA q1 HA ⊢
      rw [e4] at hwA q2 HA ⊢
      have hknI : (kn : Int) < (P.length : Int) := by omega
      have hanI : (an : Int) < (P[kn].length : Int) := by omega
      obtain ⟨R, HR⟩ : ∃ R, decide (x.kids.map (fun k => symNd (ndAt ns k.toNat)) = P[kn][an]) = R := ⟨_, rfl⟩
      rw [HR] at HE ⊢
      clear h0 h1 hx hl hk hr p1 p2 r2 r3 hab e3 e4 e5 HR
      generalize P[kn][an] = row at *
      generalize P[kn] = Q at *
      go_enter Tryd.func63, Tryd.ntmps63
      go_wp2_with fail
      rw [← hwA]
      clear hwA
      go_wp2_with fail
      refine (HA.out _ B0).mono ?_
      rintro e w5 ⟨rfl, hb5⟩
      have B5 : Below w.heap.size w w5 := B0.trans (hb5.mono B0.size)
      have hs5 := hb5.size
      have t0 := (hb5.cell (p := ⟨w.heap.size, 0, none⟩) (by show w.heap.size < _; omega)).trans g0
      have tT := (hb5.cell (p := ⟨w.heap.size + 1, 0, none⟩) (by show w.heap.size + 1 < _; omega)).trans g1
      have t1 := (hb5.cell (p := ⟨w.heap.size + 1 + 1, 1, none⟩) (by show w.heap.size + 1 + 1 < _; omega)).trans q1
      have t2 := (hb5.cell (p := ⟨w.heap.size + 1 + 1, 2, none⟩) (by show w.heap.size + 1 + 1 < _; omega)).trans q2
      have t4 := (hb5.cell (p := ⟨w.heap.size + 1 + 1, 4, none⟩) (by show w.heap.size + 1 + 1 < _; omega)).trans q4
      have u1 := HP1.out _ B5
      have u2 := HP2.out _ B5
      clear g0 g1 q0 q1 q2 q4 HA HP1 HP2
      go_wp2_with fail
      refine wp_region_held_drew (S := (fun w' => w'.cell? ⟨w.heap.size, 0, none⟩ = some (.slice (some ⟨b1, o1, none⟩) P.length c0) ∧ w'.cell? ⟨w.heap.size + 1 + 1, 1, none⟩ = some (.int .i64 ((kn : Int))) ∧ w'.cell? ⟨w.heap.size + 1 + 1, 2, none⟩ = some (.int .i64 ((an : Int))) ∧ w'.cell? ⟨w.heap.size + 1 + 1, 4, none⟩ = some (.slice ax x.kids.length cx) ∧ w'.cell? ⟨b1, o1 + kn, none⟩ = some (.slice (some ⟨b2, o2, none⟩) Q.length c2) ∧ w'.cell? ⟨b2, o2 + an, none⟩ = some (.slice a3 row.length c3))) (by kernel_rfl) ⟨t0, t1, t2, t4, u1, u2⟩ (fun hHeld => ?_)
      refine take_atL (i := 0) (d := some 19) (v := .pointer (some ⟨w.heap.size + 1 + 1, 4, none⟩)) rfl rfl (by kernel_rfl) (by kernel_rfl) (by kernel_rfl) (fun _ _ _ h => h) (by rfl) ?_ hHeld ?_
      · intro w' hSw; obtain ⟨s0, s1, s2, s3, s4, s5⟩ := hSw; go_simp; first | done | rfl | (intro hbad; exfalso; omega) | omega
      try simp only [Act.put, List.setIfInBounds_toArray, List.set_cons_zero, List.set_cons_succ]
      refine take_atL (i := 1) (d := some 20) (v := .slice ax x.kids.length cx) rfl rfl (by kernel_rfl) (by kernel_rfl) (by kernel_rfl) (fun _ _ _ h => h) (by rfl) ?_ hHeld ?_
      · intro w' hSw; obtain ⟨s0, s1, s2, s3, s4, s5⟩ := hSw; go_simp; first | done | rfl | (intro hbad; exfalso; omega) | omega
      try simp only [Act.put, List.setIfInBounds_toArray, List.set_cons_zero, List.set_cons_succ]
      refine take_atL (i := 2) (d := some 21) (v := .pointer (some ⟨w.heap.size, 0, none⟩)) rfl rfl (by kernel_rfl) (by kernel_rfl) (by kernel_rfl) (fun _ _ _ h => h) (by rfl) ?_ hHeld ?_
      · intro w' hSw; obtain ⟨s0, s1, s2, s3, s4, s5⟩ := hSw; go_simp; first | done | rfl | (intro hbad; exfalso; omega) | omega
      try simp only [Act.put, List.setIfInBounds_toArray, List.set_cons_zero, List.set_cons_succ]
      refine take_atL (i := 3) (d := some 22) (v := .slice (some ⟨b1, o1, none⟩) P.length c0) rfl rfl (by kernel_rfl) (by kernel_rfl) (by kernel_rfl) (fun _ _ _ h => h) (by rfl) ?_ hHeld ?_
      · intro w' hSw; obtain ⟨s0, s1, s2, s3, s4, s5⟩ := hSw; go_simp; first | done | rfl | (intro hbad; exfalso; omega) | omega
      try simp only [Act.put, List.setIfInBounds_toArray, List.set_cons_zero, List.set_cons_succ]
      refine take_atL (i := 4) (d := some 23) (v := .pointer (some ⟨w.heap.size + 1 + 1, 1, none⟩)) rfl rfl (by kernel_rfl) (by kernel_rfl) (by kernel_rfl) (fun _ _ _ h => h) (by rfl) ?_ hHeld ?_
      · intro w' hSw; obtain ⟨s0, s1, s2, s3, s4, s5⟩ := hSw; go_simp; first | done | rfl | (intro hbad; exfalso; omega) | omega
      try simp only [Act.put, List.setIfInBounds_toArray, List.set_cons_zero, List.set_cons_succ]
      refine take_atL (i := 5) (d := some 24) (v := .int .i64 ((kn : Int))) rfl rfl (by kernel_rfl) (by kernel_rfl) (by kernel_rfl) (fun _ _ _ h => h) (by rfl) ?_ hHeld ?_
      · intro w' hSw; obtain ⟨s0, s1, s2, s3, s4, s5⟩ := hSw; go_simp; first | done | rfl | (intro hbad; exfalso; omega) | omega
      try simp only [Act.put, List.setIfInBounds_toArray, List.set_cons_zero, List.set_cons_succ]
      refine take_atL (i := 6) (d := some 25) (v := .pointer (some ⟨b1, o1 + kn, none⟩)) rfl rfl (by kernel_rfl) (by kernel_rfl) (by kernel_rfl) (fun _ _ _ h => h) (by rfl) ?_ hHeld ?_
      · intro w' hSw; obtain ⟨s0, s1, s2, s3, s4, s5⟩ := hSw; go_simp; first | done | rfl | (intro hbad; exfalso; omega) | omega
      try simp only [Act.put, List.setIfInBounds_toArray, List.set_cons_zero, List.set_cons_succ]
      refine take_atL (i := 7) (d := some 26) (v := .slice (some ⟨b2, o2, none⟩) Q.length c2) rfl rfl (by kernel_rfl) (by kernel_rfl) (by kernel_rfl) (fun _ _ _ h => h) (by rfl) ?_ hHeld ?_
      · intro w' hSw; obtain ⟨s0, s1, s2, s3, s4, s5⟩ := hSw; go_simp; first | done | rfl | (intro hbad; exfalso; omega) | omega
      try simp only [Act.put, List.setIfInBounds_toArray, List.set_cons_zero, List.set_cons_succ]
      refine take_atL (i := 8) (d := some 27) (v := .pointer (some ⟨w.heap.size + 1 + 1, 2, none⟩)) rfl rfl (by kernel_rfl) (by kernel_rfl) (by kernel_rfl) (fun _ _ _ h => h) (by rfl) ?_ hHeld ?_
      · intro w' hSw; obtain ⟨s0, s1, s2, s3, s4, s5⟩ := hSw; go_simp; first | done | rfl | (intro hbad; exfalso; omega) | omega
      try simp only [Act.put, List.setIfInBounds_toArray, List.set_cons_zero, List.set_cons_succ]
      refine take_atL (i := 9) (d := some 28) (v := .int .i64 ((an : Int))) rfl rfl (by kernel_rfl) (by kernel_rfl) (by kernel_rfl) (fun _ _ _ h => h) (by rfl) ?_ hHeld ?_
      · intro w' hSw; obtain ⟨s0, s1, s2, s3, s4, s5⟩ := hSw; go_simp; first | done | rfl | (intro hbad; exfalso; omega) | omega
      try simp only [Act.put, List.setIfInBounds_toArray, List.set_cons_zero, List.set_cons_succ]
      refine take_atL (i := 10) (d := some 29) (v := .pointer (some ⟨b2, o2 + an, none⟩)) rfl rfl (by kernel_rfl) (by kernel_rfl) (by kernel_rfl) (fun _ _ _ h => h) (by rfl) ?_ hHeld ?_
      · intro w' hSw; obtain ⟨s0, s1, s2, s3, s4, s5⟩ := hSw; go_simp; first | done | rfl | (intro hbad; exfalso; omega) | omega
      try simp only [Act.put, List.setIfInBounds_toArray, List.set_cons_zero, List.set_cons_succ]
      refine take_atL (i := 11) (d := some 30) (v := .slice a3 row.length c3) rfl rfl (by kernel_rfl) (by kernel_rfl) (by kernel_rfl) (fun _ _ _ h => h) (by rfl) ?_ hHeld ?_
      · intro w' hSw; obtain ⟨s0, s1, s2, s3, s4, s5⟩ := hSw; go_simp; first | done | rfl | (intro hbad; exfalso; omega) | omega
      try simp only [Act.put, List.setIfInBounds_toArray, List.set_cons_zero, List.set_cons_succ]
      refine take_atL (i := 12) (d := some 31) (v := .func (.func 85) #[] #[.pointer (some ⟨w.heap.size + 1, 0, none⟩)]) rfl rfl (by kernel_rfl) (by kernel_rfl) (by kernel_rfl) (fun _ _ _ h => h) (by rfl) ?_ hHeld ?_
      · intro w' hSw; obtain ⟨s0, s1, s2, s3, s4, s5⟩ := hSw; go_simp; first | done | rfl | (intro hbad; exfalso; omega) | omega
      try simp only [Act.put, List.setIfInBounds_toArray, List.set_cons_zero, List.set_cons_succ]
      refine wpAnyH_ready (rs := [13]) (by kernel_rfl) (by simp) ?_
      refine AllReadyH.cons (o := _) rfl (fun K hK => ?_) AllReadyH.nil
      rw [if_pos (by rfl)]
      go_simp
      refine (HE.out _ (Below.drew B5) tT (by show w.heap.size + 1 < w5.heap.size; omega)).mono ?_
      rintro e w6 ⟨rfl, hb6'⟩
      have hb6 : Below w5.heap.size w5 w6 := Below.drewed (by simpa using hb6')
      replace t0 := (hb6.cell (p := ⟨w.heap.size, 0, none⟩) (by show w.heap.size < _; omega)).trans t0
      replace t1 := (hb6.cell (p := ⟨w.heap.size + 1 + 1, 1, none⟩) (by show w.heap.size + 1 + 1 < _; omega)).trans t1
      replace t2 := (hb6.cell (p := ⟨w.heap.size + 1 + 1, 2, none⟩) (by show w.heap.size + 1 + 1 < _; omega)).trans t2
      replace t4 := (hb6.cell (p := ⟨w.heap.size + 1 + 1, 4, none⟩) (by show w.heap.size + 1 + 1 < _; omega)).trans t4
      replace u1 := (hb6.cell (p := ⟨b1, o1 + kn, none⟩) (by show b1 < _; omega)).trans u1
      replace u2 := (hb6.cell (p := ⟨b2, o2 + an, none⟩) (by show b2 < _; omega)).trans u2
      go_wp2_with fail
      refine hK.out _ _ ⟨t0, t1, t2, t4, u1, u2⟩ (fun hHeld => ?_)
      clear hK K
      try simp only [Act.put, List.setIfInBounds_toArray, List.set_cons_zero, List.set_cons_succ]
      refine take_atL (i := 14) (d := some 6) (v := .bool R) rfl rfl (by kernel_rfl) (by kernel_rfl) (by kernel_rfl) (fun _ _ _ h => h) (by rfl) ?_ hHeld ?_
      · intro w' hSw; obtain ⟨s0, s1, s2, s3, s4, s5⟩ := hSw; go_simp; first | done | rfl | (intro hbad; exfalso; omega) | omega
      try simp only [Act.put, List.setIfInBounds_toArray, List.set_cons_zero, List.set_cons_succ]
      refine wpAnyH_done (by kernel_rfl) ?_ _
      clear hHeld
      go_wp2
      go_ret
      exact ⟨rfl, B5.trans (hb6.mono B5.size)⟩
  · have hr : oneOfB P ns x = false := by simp [oneOfB, hk1]
    have hkb : (x.kind != 1) = true := by simpa using hk1
    rw [hr]
    clear h0 h1 hx hl hk hr HA
    go_enter Tryd.func63, Tryd.ntmps63
    go_wp2
    go_ret
    rw [← hwA]
    exact ⟨rfl, B0⟩
end Go.Proofs.YthnppodnjokaoaaDoor
namespace Go.Proofs.YthnppodnjokaoaaDoor
open Go.RowKit

theorem kids_in {ns : List Nd} (s : Shaped ns) {p : Nat} (hp : p < ns.length) : ∀ z ∈ ns[p].kids, ∃ k : Nat, z = k ∧ k < ns.length := fun z hz => by
  have := (s.2.1 p hp).2.2 z hz
  exact ⟨z.toNat, by omega, by omega⟩
theorem kids_len {ns : List Nd} (hsum : Lay.node.sumL ns ≤ 1048576) {p : Nat} (hp : p < ns.length) : ns[p].kids.length ≤ 1048576 := by
  have h1 := kidsTo_length (ns := ns) (p + 1)
  rw [kidsTo_next hp, List.length_append] at h1
  omega

set_option maxHeartbeats 1000000 in
set_option maxRecDepth 100000 in
theorem nodesOk_any (P : List (List (List Int))) (a0 : Option Addr) (c0 : Nat) (ns : List Nd) (a1 : Option Addr) (c1 : Nat) (w : World) (h0 : RD w (.slice a0 P.length c0) (slD (Lay.list (Lay.list Lay.int)) P)) (h1 : RD w (.slice a1 ns.length c1) (slD Lay.node ns)) (hs : Shaped ns) (hlen : ns.length ≤ 1048576) (hsum : Lay.node.sumL ns ≤ 1048576) :
    Calls Tryd.prog 36 #[.agg #[.slice a0 P.length c0], .agg #[.slice a1 ns.length c1]] w fun e w' => e = .returned (.bool (ns.all (okNd P ns))) ∧ Below w.heap.size w w' := by
  have HO : Hid (∀ (i : Nat) (hi : i < ns.length) (ax : Option Addr) (cx : Nat) (W : World), Below w.heap.size w W → Reads W ax ns[i].kids → Calls Tryd.prog 63 #[.agg #[.slice a0 P.length c0], .agg #[.slice a1 ns.length c1], .agg #[.int .i64 ns[i].kind, .int .i64 ns[i].sym, .int .i64 ns[i].alt, .int .i64 ns[i].pl, .slice ax ns[i].kids.length cx]] W fun e w' => e = .returned (.bool (oneOfB P ns ns[i])) ∧ Below W.heap.size W w') := fun i hi ax cx W hW hr => isOneOf_any P a0 c0 ns a1 c1 ns[i] ax cx W (h0.later hW) (h1.later hW) hr (kids_len hsum hi) (kids_in hs hi)
  have HR : Hid (RD w (.slice a1 ns.length c1) (slD Lay.node ns)) := h1
  obtain ⟨R, HRE⟩ : ∃ R, ns.all (okNd P ns) = R := ⟨_, rfl⟩
  have HNO : Hid (∀ i (hi : i < ns.length), okNd P ns ns[i] = false → R = false) := fun i hi h => by
    rw [← HRE]
    cases hh : ns.all (okNd P ns) with
    | false => rfl
    | true => rw [List.all_eq_true.1 hh ns[i] (List.getElem_mem hi)] at h; cases h
  have HYES : Hid ((∀ i (hi : i < ns.length), okNd P ns ns[i] = true) → R = true) := fun h => by
    rw [← HRE, List.all_eq_true]
    intro x hx
    obtain ⟨i, hi, rfl⟩ := List.mem_iff_getElem.1 hx
    exact h i hi
  rw [HRE]
  have HI0 : Hid (∀ i (hi : i < ns.length), i < 0 → okNd P ns ns[i] = true) := fun i _ h => by omega
  have B0 : Below w.heap.size w ((w.alloc (.cells #[.slice a0 P.length c0] 28)).alloc (.cells #[.slice a1 ns.length c1] 43)) := ((Below.refl _ _).alloc (Nat.le_refl _) _).alloc (by simp) _
  obtain ⟨wB, hwB⟩ : ∃ y, y = (w.alloc (.cells #[.slice a0 P.length c0] 28)).alloc (.cells #[.slice a1 ns.length c1] 43) := ⟨_, rfl⟩
  have e1 : (w.alloc (.cells #[.slice a0 P.length c0] 28)).heap.size = w.heap.size + 1 := by simp
  have g0 : wB.cell? ⟨w.heap.size, 0, none⟩ = some (.slice a0 P.length c0) := by
    rw [hwB]
    exact (((Below.refl (w.heap.size + 1) _).alloc (by simp) _).cell (p := ⟨w.heap.size, 0, none⟩) (by simp)).trans (by simp)
  have g1 : wB.cell? ⟨w.heap.size + 1, 0, none⟩ = some (.slice a1 ns.length c1) := by rw [hwB]; exact new_at e1 rfl
  have hsB : w.heap.size + 2 ≤ wB.heap.size := by rw [hwB]; simp
  rw [← hwB] at B0
  clear HRE h0 h1 hs hsum e1
  go_enter Tryd.func36, Tryd.ntmps36
  go_wp2_with fail
  rw [← hwB]
  clear hwB
  go_wp2
  have HBB : Hid (Below wB.heap.size wB wB) := Below.refl _ _
  go_loopw [10] (fun u10 wr => ∃ i : Nat, i ≤ ns.length ∧ u10 = .int .i64 (i : Int) ∧ Hid (Below wB.heap.size wB wr) ∧ Hid (∀ j (hj : j < ns.length), j < i → okNd P ns ns[j] = true)) (fun u10 _ => ns.length - (intOf u10).toNat)
  case atStart => exact ⟨0, Nat.zero_le _, rfl, HBB, HI0⟩
  case round =>
    obtain ⟨i, hi, rfl, HB, HI⟩ := hrel
    obtain ⟨wA, hwA⟩ : ∃ y, y = wr := ⟨_, rfl⟩
    subst hwA
    clear HI0 HBB
    have hsA := HB.out.size
    replace g0 := (HB.out.cell (p := ⟨w.heap.size, 0, none⟩) (by show w.heap.size < _; omega)).trans g0
    replace g1 := (HB.out.cell (p := ⟨w.heap.size + 1, 0, none⟩) (by show w.heap.size + 1 < _; omega)).trans g1
    by_cases hlt : i < ns.length
    · have hltI : (i : Int) < (ns.length : Int) := by omega
      obtain ⟨b1, o1, rfl, hb1, ⟨p0, p1, p2, p3⟩, a2, c2, p4, r1⟩ := HR.out.atNode hlt
      have HBw : Hid (Below w.heap.size w wA) := B0.trans (HB.out.mono (by omega))
      have q0 := (HBw.out.cell (p := ⟨b1, _, none⟩) hb1).trans p0
      have q1 := (HBw.out.cell (p := ⟨b1, _, none⟩) hb1).trans p1
      have q2 := (HBw.out.cell (p := ⟨b1, _, none⟩) hb1).trans p2
      have q3 := (HBw.out.cell (p := ⟨b1, _, none⟩) hb1).trans p3
      have q4 := (HBw.out.cell (p := ⟨b1, _, none⟩) hb1).trans p4
      have HRd : Hid (Reads w a2 ns[i].kids) := r1.reads
      have hbA : b1 < wA.heap.size := by omega
      have hwl1 : w.heap.size + 1 < wA.heap.size := by omega
      have hwl0 : w.heap.size < wA.heap.size := by omega
      have HN := HNO.out i hlt
      have HST : Hid (okNd P ns ns[i] = true → ∀ j (hj : j < ns.length), j < i + 1 → okNd P ns ns[j] = true) := fun h j hj hji => by
        by_cases e : j = i
        · subst e; exact h
        · exact HI.out j hj (by omega)
      have X := HO.out i hlt a2 c2
      clear p0 p1 p2 p3 p4 r1 HNO HYES HI HO
      generalize ns[i] = y at *
      by_cases hk0 : y.kind = 0
      · have HS : Hid (∀ j (hj : j < ns.length), j < i + 1 → okNd P ns ns[j] = true) := HST.out (by simp [okNd, hk0])
        rw [hk0] at q0
        have HBn : Hid (Below wB.heap.size wB (wA.alloc (.cells #[.int .i64 0, .int .i64 y.sym, .int .i64 y.alt, .int .i64 y.pl, .slice a2 y.kids.length c2] 55))) := HB.out.alloc hsA _
        clear X HST HN hk0 HB HBw HRd
        go_wp2
        go_roundw
        case rel => exact ⟨i + 1, by omega, by go_num, HBn, HS⟩
        case measure => simp [intOf]; omega
      · have hkb : (y.kind != 0) = true := by simpa using hk0
        have hok : okNd P ns y = oneOfB P ns y := by simp [okNd, hk0]
        rw [hok] at HN HST
        obtain ⟨wN, hwN⟩ : ∃ z, z = wA.alloc (.cells #[.int .i64 y.kind, .int .i64 y.sym, .int .i64 y.alt, .int .i64 y.pl, .slice a2 y.kids.length c2] 55) := ⟨_, rfl⟩
        have hbN : Below wA.heap.size wA wN := by rw [hwN]; exact (Below.refl _ _).alloc (Nat.le_refl _) _
        have HXN : Hid (Calls Tryd.prog 63 #[.agg #[.slice a0 P.length c0], .agg #[.slice (some ⟨b1, o1, none⟩) ns.length c1], .agg #[.int .i64 y.kind, .int .i64 y.sym, .int .i64 y.alt, .int .i64 y.pl, .slice a2 y.kids.length c2]] wN fun e w' => e = .returned (.bool (oneOfB P ns y)) ∧ Below wN.heap.size wN w') := X wN (HBw.out.trans (hbN.mono HBw.out.size)) ((HRd.out.below HBw.out).below hbN)
        have HBN : Hid (Below wB.heap.size wB wN) := HB.out.trans (hbN.mono hsA)
        clear X hok HB HBw HRd hbN
        generalize oneOfB P ns y = r at *
        cases r with
        | true =>
          have HS : Hid (∀ j (hj : j < ns.length), j < i + 1 → okNd P ns ns[j] = true) := HST.out rfl
          clear HST HN
          go_wp2_with fail
          rw [← hwN]
          clear hwN
          refine HXN.out.mono ?_
          rintro e w5 ⟨rfl, hb5⟩
          have HB5 : Hid (Below wB.heap.size wB w5) := HBN.out.trans (hb5.mono HBN.out.size)
          clear HXN HBN hb5
          go_wp2
          go_roundw
          case rel => exact ⟨i + 1, by omega, by go_num, HB5, HS⟩
          case measure => simp [intOf]; omega
        | false =>
          have HRF : Hid (R = false) := HN rfl
          clear HST HN
          go_wp2_with fail
          rw [← hwN]
          clear hwN
          refine HXN.out.mono ?_
          rintro e w5 ⟨rfl, hb5⟩
          have HB5 : Hid (Below w.heap.size w w5) := B0.trans ((HBN.out.trans (hb5.mono HBN.out.size)).mono (by omega))
          clear HXN HBN hb5
          go_wp2
          go_ret
          rw [HRF.out]
          exact ⟨rfl, HB5.out⟩
    · have HRT : Hid (R = true) := HYES.out (fun j hj => HI.out j hj (by omega))
      have hltI : ¬ (i : Int) < (ns.length : Int) := by omega
      clear HNO HYES HI HO HR
      go_wp2
      go_ret
      rw [HRT.out]
      exact ⟨rfl, B0.trans (HB.out.mono (by omega))⟩
end Go.Proofs.YthnppodnjokaoaaDoor
