/-
  Contracts and plain mathematics, joined: HNode, HNodeS, HTree, TreeMath, VisitMath, LeafPos, TreeOkMath, HGram, SymbolOf, IsOneOf, SpecGramOk, GramOk, InputOk, SpecInputOk. No statement is proved here.
-/
import Derived.Test.YthnppodnjokaoaaDoorG4
import Derived.Test.YthnppodnjokaoaaDoorG7
import Derived.Deep.RegionWith
import Derived.Test.YthnppodnjokaoaaDoorG3
namespace Go.Proofs.YthnppodnjokaoaaDoor
open Go.RowKit

/-- As the program has it. -/
structure Nd where
  kind : Int
  sym : Int
  alt : Int
  pl : Int
  kids : (List Int)
def Lay.node : Lay Nd := { cells := fun x => [.val (.int .i64 x.kind), .val (.int .i64 x.sym), .val (.int .i64 x.alt), .val (.int .i64 x.pl), slD Lay.int x.kids], sz := 5, len := fun _ => rfl, pos := by decide, wt := fun x => (Lay.list Lay.int).wt x.kids, fit := fun x => (Lit.int .i64 x.kind).wf = true ∧ (Lit.int .i64 x.sym).wf = true ∧ (Lit.int .i64 x.alt).wf = true ∧ (Lit.int .i64 x.pl).wf = true ∧ (Lay.list Lay.int).fit x.kids }
theorem Lay_node_wt (x : Nd) : Lay.node.wt x = (Lay.list Lay.int).wt x.kids := rfl
theorem Lay_node_fit (x : Nd) : Lay.node.fit x = ((Lit.int .i64 x.kind).wf = true ∧ (Lit.int .i64 x.sym).wf = true ∧ (Lit.int .i64 x.alt).wf = true ∧ (Lit.int .i64 x.pl).wf = true ∧ (Lay.list Lay.int).fit x.kids) := rfl

section
variable {H : Type} {enc : TypeId × Value → H} {P : Program} {w : World} {base : Nat} {spare : Nat → Bool} {held : Bool}
theorem Opens.node {t : TypeId} {f0 f1 f2 f3 f4 : Field} (hu : P.underlying t = some (.struct #[f0, f1, f2, f3, f4])) (o0 : f0.offset = 0) (s0 : P.cellsOf f0.type = 1) (h0 : Opens enc P w base spare held f0.type Lay.int) (o1 : f1.offset = 1) (s1 : P.cellsOf f1.type = 1) (h1 : Opens enc P w base spare held f1.type Lay.int) (o2 : f2.offset = 2) (s2 : P.cellsOf f2.type = 1) (h2 : Opens enc P w base spare held f2.type Lay.int) (o3 : f3.offset = 3) (s3 : P.cellsOf f3.type = 1) (h3 : Opens enc P w base spare held f3.type Lay.int) (o4 : f4.offset = 4) (s4 : P.cellsOf f4.type = 1) (h4 : Opens enc P w base spare held f4.type (Lay.list Lay.int)) (hc : P.cellsOf t = 5) : Opens enc P w base spare held t Lay.node := by
  intro n cs y h
  obtain ⟨xs, m, _, _, hl, hlen, hf⟩ := DataW.trod_struct hu h
  rw [hc] at hl
  match xs, hlen, cs, hl with
  | [y0, y1, y2, y3, y4], _, [v0, v1, v2, v3, v4], _ =>
    have g0 := hf 0 f0 rfl
    rw [o0, s0] at g0
    obtain ⟨z0, fit0, _, r0⟩ := h0 m _ y0 (by simpa using g0)
    have g1 := hf 1 f1 rfl
    rw [o1, s1] at g1
    obtain ⟨z1, fit1, _, r1⟩ := h1 m _ y1 (by simpa using g1)
    have g2 := hf 2 f2 rfl
    rw [o2, s2] at g2
    obtain ⟨z2, fit2, _, r2⟩ := h2 m _ y2 (by simpa using g2)
    have g3 := hf 3 f3 rfl
    rw [o3, s3] at g3
    obtain ⟨z3, fit3, _, r3⟩ := h3 m _ y3 (by simpa using g3)
    have g4 := hf 4 f4 rfl
    rw [o4, s4] at g4
    obtain ⟨z4, fit4, _, r4⟩ := h4 m _ y4 (by simpa using g4)
    refine ⟨⟨z0, z1, z2, z3, z4⟩, ⟨fit0, fit1, fit2, fit3, fit4⟩, rfl, fun j hj hj' => ?_⟩
    match j, hj with
    | 0, _ => exact r0 0 (by simp) (by rw [Lay.int.len]; decide)
    | 1, _ => exact r1 0 (by simp) (by rw [Lay.int.len]; decide)
    | 2, _ => exact r2 0 (by simp) (by rw [Lay.int.len]; decide)
    | 3, _ => exact r3 0 (by simp) (by rw [Lay.int.len]; decide)
    | 4, _ => exact r4 0 (by simp) (by rw [(Lay.list Lay.int).len]; decide)
end

set_option maxRecDepth 100000 in
theorem szNode_l (x : Nd) (a0 : Option Addr) (c0 : Nat) (l : Int) (w : World) (h0 : RD w (.slice a0 x.kids.length c0) (slD Lay.int x.kids)) (hf : (Lay.list Lay.int).fit x.kids) (hl0 : 0 ≤ l) (hl1 : l ≤ 1048576) :
    Calls Tryd.prog 50 #[.agg #[.int .i64 x.kind, .int .i64 x.sym, .int .i64 x.alt, .int .i64 x.pl, .slice a0 x.kids.length c0], .int .i64 l] w fun e w' => ∃ r, e = .returned (.int .i64 r) ∧ SzE (Lay.node.wt x) l r ∧ Below w.heap.size w w' := by
  rw [Lay_node_wt]
  have B := (Below.refl w.heap.size w).alloc (Nat.le_refl _) (.cells #[.int .i64 x.kind, .int .i64 x.sym, .int .i64 x.alt, .int .i64 x.pl, .slice a0 x.kids.length c0] 78)
  have X : Hid (∀ W : World, Below w.heap.size w W → Calls Tryd.prog 66 #[.slice a0 x.kids.length c0, .int .i64 l] W fun e w' => ∃ r, e = .returned (.int .i64 r) ∧ SzE ((Lay.list Lay.int).wt x.kids) l r ∧ Below W.heap.size W w') :=
    fun W hW => szIntS_l x.kids a0 c0 l W (h0.later hW) hf hl0 hl1
  clear h0 hf
  generalize (Lay.list Lay.int).wt x.kids = wk at *
  generalize x.kids = y at *
  generalize x.kind = v0 at *
  generalize x.sym = v1 at *
  generalize x.alt = v2 at *
  generalize x.pl = v3 at *
  go_enter Tryd.func50, Tryd.ntmps50
  go_wp2_with fail
  refine (X.out _ B).mono ?_
  rintro e w1 ⟨r, rfl, hr, hb⟩
  have B1 := B.trans (hb.mono B.size)
  clear X
  rcases hr with rfl | ⟨hr0, hr1⟩
  · go_wp2
    go_ret
    exact ⟨_, rfl, .inl rfl, B1⟩
  · have HR : Hid (r = l - wk) := hr1
    clear hr1
    go_wp2
    go_ret
    exact ⟨_, rfl, .inr ⟨hr0, HR.out⟩, B1⟩

set_option maxRecDepth 100000 in
theorem eqNode_l (x : Nd) (a0 b0 : Option Addr) (c0 d0 : Nat) (w : World) (h0 : RD w (.slice a0 x.kids.length c0) (slD Lay.int x.kids)) (g0 : RD w (.slice b0 x.kids.length d0) (slD Lay.int x.kids)) (hn : Lay.node.wt x ≤ 4194304) :
    Calls Tryd.prog 65 #[.agg #[.int .i64 x.kind, .int .i64 x.sym, .int .i64 x.alt, .int .i64 x.pl, .slice a0 x.kids.length c0], .agg #[.int .i64 x.kind, .int .i64 x.sym, .int .i64 x.alt, .int .i64 x.pl, .slice b0 x.kids.length d0]] w fun e w' => e = .returned (.bool true) ∧ Below w.heap.size w w' := by
  rw [Lay_node_wt] at hn
  have B := ((Below.refl w.heap.size w).alloc (Nat.le_refl _) (.cells #[.int .i64 x.kind, .int .i64 x.sym, .int .i64 x.alt, .int .i64 x.pl, .slice a0 x.kids.length c0] 55)).alloc (by simp) (.cells #[.int .i64 x.kind, .int .i64 x.sym, .int .i64 x.alt, .int .i64 x.pl, .slice b0 x.kids.length d0] 55)
  have X : Hid (∀ W : World, Below w.heap.size w W → Calls Tryd.prog 10 #[.slice a0 x.kids.length c0, .slice b0 x.kids.length d0] W fun e w' => e = .returned (.bool true) ∧ Below W.heap.size W w') :=
    fun W hW => eqIntS_l x.kids a0 b0 c0 d0 W (h0.later hW) (g0.later hW) hn
  clear h0 g0 hn
  generalize x.kids = y at *
  generalize x.kind = v0 at *
  generalize x.sym = v1 at *
  generalize x.alt = v2 at *
  generalize x.pl = v3 at *
  go_enter Tryd.func65, Tryd.ntmps65
  go_wp2_with fail
  refine (X.out _ B).mono ?_
  rintro e w1 ⟨rfl, hb⟩
  go_wp2
  go_ret
  exact ⟨rfl, B.trans (hb.mono B.size)⟩

set_option maxRecDepth 100000 in
theorem toNode_l (x : Nd) (a0 : Option Addr) (c0 : Nat) (w : World) (h0 : RD w (.slice a0 x.kids.length c0) (slD Lay.int x.kids)) (hn : Lay.node.wt x ≤ 1048576) :
    Calls Tryd.prog 58 #[.agg #[.int .i64 x.kind, .int .i64 x.sym, .int .i64 x.alt, .int .i64 x.pl, .slice a0 x.kids.length c0]] w fun e w' => ∃ a1 c1 S, e = .returned (.agg #[.int .i64 x.kind, .int .i64 x.sym, .int .i64 x.alt, .int .i64 x.pl, .slice a1 x.kids.length c1]) ∧ Cells w' w.heap.size [.int .i64 x.kind, .int .i64 x.sym, .int .i64 x.alt, .int .i64 x.pl, .slice a1 x.kids.length c1] (Lay.node.cells x) S ∧ Below w.heap.size w w' := by
  rw [Lay_node_wt] at hn
  have HC : Hid (Lay.node.cells x = List.map Dat.val [.int .i64 x.kind, .int .i64 x.sym, .int .i64 x.alt, .int .i64 x.pl] ++ [slD Lay.int x.kids]) := rfl
  have X : Hid (∀ W : World, Below w.heap.size w W → Calls Tryd.prog 8 #[.slice a0 x.kids.length c0] W fun e w' => ∃ v S, e = .returned v ∧ OD w' W.heap.size v (slD Lay.int x.kids) S ∧ Below W.heap.size W w') :=
    fun W hW => toIntS_l x.kids a0 c0 W (h0.later hW) hn
  rw [HC.out]
  clear h0 hn HC
  generalize x.kids = y at *
  generalize x.kind = v0 at *
  generalize x.sym = v1 at *
  generalize x.alt = v2 at *
  generalize x.pl = v3 at *
  have B : Below w.heap.size w (((w.alloc (.cells #[.int .i64 v0, .int .i64 v1, .int .i64 v2, .int .i64 v3, .slice a0 y.length c0] 78)).alloc (.cells #[.int .i64 0, .int .i64 0, .int .i64 0, .int .i64 0, .slice none 0 0] 55)).alloc (.cells #[.int .i64 v0, .int .i64 v1, .int .i64 v2, .int .i64 v3, .slice none 0 0] 55)) :=
    (((Below.refl _ _).alloc (Nat.le_refl _) _).alloc (by simp) _).alloc (by simp; omega) _
  go_enter Tryd.func58, Tryd.ntmps58
  go_wp2_with fail
  refine (X.out _ B).mono ?_
  rintro e w1 ⟨v, S, rfl, O1, hb1⟩
  obtain ⟨hc, hf⟩ := bcellH hb1
  have hz := hb1.size
  simp only [World.size_alloc] at hc hf hz
  have B1 := B.trans (hb1.mono B.size)
  obtain ⟨a1, c1, rfl, _⟩ := OD.shapeL O1
  clear X B hb1
  go_wp2
  refine bodyPost_ret (v := .agg #[.int .i64 v0, .int .i64 v1, .int .i64 v2, .int .i64 v3, .slice a1 y.length c1]) (by simp [results, Tryd.results58, go_sem, hc]) rfl ⟨a1, c1, S, rfl, ?_, ?_⟩
  · refine Cells.last [.int .i64 v0, .int .i64 v1, .int .i64 v2, .int .i64 v3] ((O1.kept (T := fun k => k < w.heap.size + 1 + 1 + 1) ?_ (fun k hk hk2 => ?_)).base (by simp; omega))
    · repeat refine Within.setCell ?_ _ _ (by simp)
      exact Within.refl _ _
    · have := (O1.lt k hk).1
      simp at this
      omega
  · repeat refine Below.setCell ?_ (by simp; try omega) _
    exact B1

end Go.Proofs.YthnppodnjokaoaaDoor
namespace Go.Proofs.YthnppodnjokaoaaDoor
open Go.RowKit

/-- The cells of place i of a slice of such structs that is read. -/
theorem RD.atNode {w : World} {a : Option Addr} {n c : Nat} {xs : List Nd} (h : RD w (.slice a n c) (slD Lay.node xs)) {i : Nat} (hi : i < xs.length) :
    ∃ b off, a = some ⟨b, off, none⟩ ∧ b < w.heap.size ∧ (w.cell? ⟨b, off + i * 5, none⟩ = some (.int .i64 xs[i].kind) ∧ w.cell? ⟨b, off + i * 5 + 1, none⟩ = some (.int .i64 xs[i].sym) ∧ w.cell? ⟨b, off + i * 5 + 2, none⟩ = some (.int .i64 xs[i].alt) ∧ w.cell? ⟨b, off + i * 5 + 3, none⟩ = some (.int .i64 xs[i].pl)) ∧ ∃ a1 c1, w.cell? ⟨b, off + i * 5 + 4, none⟩ = some (.slice a1 xs[i].kids.length c1) ∧ RD w (.slice a1 xs[i].kids.length c1) (slD Lay.int xs[i].kids) := by
  obtain ⟨b, off, rfl, hb, u0, k0, r0⟩ := RD.cellAt h hi (j := 0) (by decide) (by simp [Lay.node])
  obtain ⟨b1, off1, e1, _, u1, k1, r1⟩ := RD.cellAt h hi (j := 1) (by decide) (by simp [Lay.node])
  cases e1
  obtain ⟨b2, off2, e2, _, u2, k2, r2⟩ := RD.cellAt h hi (j := 2) (by decide) (by simp [Lay.node])
  cases e2
  obtain ⟨b3, off3, e3, _, u3, k3, r3⟩ := RD.cellAt h hi (j := 3) (by decide) (by simp [Lay.node])
  cases e3
  obtain ⟨b4, off4, e4, _, u4, k4, r4⟩ := RD.cellAt h hi (j := 4) (by decide) (by simp [Lay.node])
  cases e4
  have z0 : u0 = .int .i64 xs[i].kind := RD.val_eq r0
  subst z0
  rw [show off + (i * Lay.node.sz + 0) = off + i * 5 from rfl] at k0
  have z1 : u1 = .int .i64 xs[i].sym := RD.val_eq r1
  subst z1
  rw [show off + (i * Lay.node.sz + 1) = off + i * 5 + 1 from rfl] at k1
  have z2 : u2 = .int .i64 xs[i].alt := RD.val_eq r2
  subst z2
  rw [show off + (i * Lay.node.sz + 2) = off + i * 5 + 2 from rfl] at k2
  have z3 : u3 = .int .i64 xs[i].pl := RD.val_eq r3
  subst z3
  rw [show off + (i * Lay.node.sz + 3) = off + i * 5 + 3 from rfl] at k3
  have r4' : RD w u4 (slD Lay.int xs[i].kids) := r4
  obtain ⟨a1, c1, rfl⟩ := RD.shapeL r4'
  rw [show off + (i * Lay.node.sz + 4) = off + i * 5 + 4 from rfl] at k4
  exact ⟨b, off, rfl, hb, ⟨k0, k1, k2, k3⟩, a1, c1, k4, r4'⟩

theorem Tryd.infoNode : (Tryd.prog.info? 55).map (fun i => (i.zero, i.size, i.bytes)) = some (some (.agg #[.int .i64 0, .int .i64 0, .int .i64 0, .int .i64 0, .slice none 0 0]), 5, 56) := by kernel_rfl

set_option maxRecDepth 100000 in
theorem toNodeS_l (xs : List Nd) (a : Option Addr) (c : Nat) (w : World) (h : RD w (.slice a xs.length c) (slD Lay.node xs)) (hn : (Lay.list Lay.node).wt xs ≤ 1048576) :
    Calls Tryd.prog 33 #[.slice a xs.length c] w fun e w' => ∃ v S, e = .returned v ∧ OD w' w.heap.size v (slD Lay.node xs) S ∧ Below w.heap.size w w' := by
  rw [Lay.wt_list] at hn
  obtain ⟨W, hmk, O0, B0⟩ := make_ownL (P := Tryd.prog) w 41 55 (.agg #[.int .i64 0, .int .i64 0, .int .i64 0, .int .i64 0, .slice none 0 0]) 56 [.int .i64 0, .int .i64 0, .int .i64 0, .int .i64 0, .slice none 0 0] [.val (.int .i64 0), .val (.int .i64 0), .val (.int .i64 0), .val (.int .i64 0), .sl 0 []] xs.length Tryd.underlying41 Tryd.infoNode rfl (by decide) (by omega) (by decide) (by intro u hu; simp at hu; rcases hu with rfl | rfl <;> rfl) rfl
    (by intro W base i hi hi'; match i, hi with | 0, _ => exact .val _ | 1, _ => exact .val _ | 2, _ => exact .val _ | 3, _ => exact .val _ | 4, _ => exact .nil 0 rfl)
  rw [zero_cells (L := Lay.node) (z := (⟨0, 0, 0, 0, []⟩ : Nd)) (zd := [.val (.int .i64 0), .val (.int .i64 0), .val (.int .i64 0), .val (.int .i64 0), .sl 0 []]) rfl] at O0
  go_enter Tryd.func33, Tryd.ntmps33
  go_wp2
  go_loopw [4] (fun i wr => ∃ (k : Nat) (S : Nat → Prop), k ≤ xs.length ∧ i = .int .i64 k ∧ OL wr w.heap.size 55 5 (.slice (some ⟨w.heap.size, 0, none⟩) xs.length xs.length) xs.length ((xs.take k ++ List.replicate (xs.length - k) (⟨0, 0, 0, 0, []⟩ : Nd)).flatMap Lay.node.cells) S ∧ Below w.heap.size w wr) (fun i _ => xs.length - (intOf i).toNat)
  case atStart => exact ⟨0, _, Nat.zero_le _, rfl, by simpa using O0, B0⟩
  case round =>
    obtain ⟨k, S, hk, rfl, hown, hbel⟩ := hrel
    by_cases hlt : k < xs.length
    · obtain ⟨b1, o1, rfl, hb1, ⟨q0, q1, q2, q3⟩, a1, c1, q4, r1⟩ := (h.later hbel).atNode hlt
      have hk2 := Lay.sumL_at Lay.node hlt
      have X : Hid (Calls Tryd.prog 58 #[.agg #[.int .i64 xs[k].kind, .int .i64 xs[k].sym, .int .i64 xs[k].alt, .int .i64 xs[k].pl, .slice a1 xs[k].kids.length c1]] wr fun e w' => ∃ a2 c2 S, e = .returned (.agg #[.int .i64 xs[k].kind, .int .i64 xs[k].sym, .int .i64 xs[k].alt, .int .i64 xs[k].pl, .slice a2 xs[k].kids.length c2]) ∧ Cells w' wr.heap.size [.int .i64 xs[k].kind, .int .i64 xs[k].sym, .int .i64 xs[k].alt, .int .i64 xs[k].pl, .slice a2 xs[k].kids.length c2] (Lay.node.cells xs[k]) S ∧ Below wr.heap.size wr w') :=
        toNode_l xs[k] a1 c1 wr r1 (by omega)
      have HP : Hid ((xs.take k ++ List.replicate (xs.length - k) (⟨0, 0, 0, 0, []⟩ : Nd)).set k xs[k] = xs.take (k + 1) ++ List.replicate (xs.length - (k + 1)) (⟨0, 0, 0, 0, []⟩ : Nd)) := put_step hlt
      have hkL : k < (xs.take k ++ List.replicate (xs.length - k) ((⟨0, 0, 0, 0, []⟩ : Nd) : Nd)).length := by simp; omega
      have HPE : Hid (∀ (w1 : World) (S : Nat → Prop) (us : List Value) (T : Nat → Prop), OL w1 w.heap.size 55 5 (.slice (some ⟨w.heap.size, 0, none⟩) xs.length xs.length) xs.length ((xs.take k ++ List.replicate (xs.length - k) (⟨0, 0, 0, 0, []⟩ : Nd)).flatMap Lay.node.cells) S → Cells w1 w.heap.size us (Lay.node.cells xs[k]) T → (∀ k, T k → ¬ S k) →
          ∃ S', OL (putCells w1 w.heap.size (k * 5) us) w.heap.size 55 5 (.slice (some ⟨w.heap.size, 0, none⟩) xs.length xs.length) xs.length ((xs.take (k + 1) ++ List.replicate (xs.length - (k + 1)) (⟨0, 0, 0, 0, []⟩ : Nd)).flatMap Lay.node.cells) S' ∧ S w.heap.size ∧ w1.grownBy (putCells w1 w.heap.size (k * 5) us) (some w.heap.size) ∧
            ∀ j, j < us.length → (∃ z, (putCells w1 w.heap.size (k * 5) (us.take j)).cell? ⟨w.heap.size, k * 5 + j, none⟩ = some z) ∧ (putCells w1 w.heap.size (k * 5) (us.take j)).frozen? ⟨w.heap.size, k * 5 + j, none⟩ = false) := by
        intro w1 S us T hO hu hd
        obtain ⟨S', h1, _, h3, h4, h5⟩ := OL.putElem (L := Lay.node) hO hkL us xs[k] T hu hd
        rw [HP.out] at h1
        exact ⟨S', h1, h3, h4, h5⟩
      clear h r1 hmk O0 B0 hk2 HP hkL
      generalize Lay.node.cells xs[k] = cx at *
      generalize xs[k].kids = y at *
      generalize xs[k].kind = v0 at *
      generalize xs[k].sym = v1 at *
      generalize xs[k].alt = v2 at *
      generalize xs[k].pl = v3 at *
      generalize xs.take k ++ List.replicate (xs.length - k) ((⟨0, 0, 0, 0, []⟩ : Nd) : Nd) = M at *
      go_wp2_with fail
      refine X.out.mono ?_
      rintro e w1 ⟨a2, c2, T, rfl, O1, hb2⟩
      have B1 := hbel.trans (hb2.mono hbel.size)
      have own1 := hown.later hb2
      have hsz := hbel.size
      obtain ⟨S', O2, hSg, G2, hall⟩ := HPE.out w1 S _ T own1 (O1.base hsz) (fun k hk hk2 => by have h1 := (O1.lt k hk).1; have h2 := (hown.lt k hk2).2; omega)
      have hall' : (∃ z, (putCells w1 w.heap.size (k * 5) (List.take 0 ([.int .i64 v0, .int .i64 v1, .int .i64 v2, .int .i64 v3, .slice a2 y.length c2] : List Value))).cell? ⟨w.heap.size, k * 5 + 0, none⟩ = some z) ∧ (putCells w1 w.heap.size (k * 5) (List.take 0 ([.int .i64 v0, .int .i64 v1, .int .i64 v2, .int .i64 v3, .slice a2 y.length c2] : List Value))).frozen? ⟨w.heap.size, k * 5 + 0, none⟩ = false ∧ (∃ z, (putCells w1 w.heap.size (k * 5) (List.take 1 ([.int .i64 v0, .int .i64 v1, .int .i64 v2, .int .i64 v3, .slice a2 y.length c2] : List Value))).cell? ⟨w.heap.size, k * 5 + 1, none⟩ = some z) ∧ (putCells w1 w.heap.size (k * 5) (List.take 1 ([.int .i64 v0, .int .i64 v1, .int .i64 v2, .int .i64 v3, .slice a2 y.length c2] : List Value))).frozen? ⟨w.heap.size, k * 5 + 1, none⟩ = false ∧ (∃ z, (putCells w1 w.heap.size (k * 5) (List.take 2 ([.int .i64 v0, .int .i64 v1, .int .i64 v2, .int .i64 v3, .slice a2 y.length c2] : List Value))).cell? ⟨w.heap.size, k * 5 + 2, none⟩ = some z) ∧ (putCells w1 w.heap.size (k * 5) (List.take 2 ([.int .i64 v0, .int .i64 v1, .int .i64 v2, .int .i64 v3, .slice a2 y.length c2] : List Value))).frozen? ⟨w.heap.size, k * 5 + 2, none⟩ = false ∧ (∃ z, (putCells w1 w.heap.size (k * 5) (List.take 3 ([.int .i64 v0, .int .i64 v1, .int .i64 v2, .int .i64 v3, .slice a2 y.length c2] : List Value))).cell? ⟨w.heap.size, k * 5 + 3, none⟩ = some z) ∧ (putCells w1 w.heap.size (k * 5) (List.take 3 ([.int .i64 v0, .int .i64 v1, .int .i64 v2, .int .i64 v3, .slice a2 y.length c2] : List Value))).frozen? ⟨w.heap.size, k * 5 + 3, none⟩ = false ∧ (∃ z, (putCells w1 w.heap.size (k * 5) (List.take 4 ([.int .i64 v0, .int .i64 v1, .int .i64 v2, .int .i64 v3, .slice a2 y.length c2] : List Value))).cell? ⟨w.heap.size, k * 5 + 4, none⟩ = some z) ∧ (putCells w1 w.heap.size (k * 5) (List.take 4 ([.int .i64 v0, .int .i64 v1, .int .i64 v2, .int .i64 v3, .slice a2 y.length c2] : List Value))).frozen? ⟨w.heap.size, k * 5 + 4, none⟩ = false := by
        refine ⟨(hall 0 (by simp)).1, (hall 0 (by simp)).2, (hall 1 (by simp)).1, (hall 1 (by simp)).2, (hall 2 (by simp)).1, (hall 2 (by simp)).2, (hall 3 (by simp)).1, (hall 3 (by simp)).2, (hall 4 (by simp)).1, (hall 4 (by simp)).2⟩
      simp only [List.take_succ_cons, List.take_zero, putCells, Nat.add_zero, Nat.add_assoc, Nat.reduceAdd] at hall' O2 G2
      obtain ⟨⟨z0, d0⟩, f0, ⟨z1, d1⟩, f1, ⟨z2, d2⟩, f2, ⟨z3, d3⟩, f3, ⟨z4, d4⟩, f4⟩ := hall'
      have B2 := B1.grown G2 B1.size (fun k hk => by cases hk; exact Nat.le_refl _)
      have hz1 : w.heap.size < w1.heap.size := Nat.lt_of_lt_of_le (hown.lt _ hSg).2 hb2.size
      clear X hown own1 O1 hbel hb2 HPE G2 q0 q1 q2 q3 q4 hb1 B1 hall
      go_wp2
      go_roundw
      case rel => exact ⟨k + 1, S', by omega, by go_num, O2, B2⟩
      case measure => simp [intOf]; omega
    · have e : k = xs.length := by omega
      subst e
      go_wp2
      go_ret
      exact ⟨_, _, rfl, by simpa [slD] using hown.od, hbel⟩

theorem eqNodeS_l (xs : List Nd) (a b : Option Addr) (c d : Nat) (w : World) (h : RD w (.slice a xs.length c) (slD Lay.node xs)) (g : RD w (.slice b xs.length d) (slD Lay.node xs)) (hn : (Lay.list Lay.node).wt xs ≤ 4194304) :
    Calls Tryd.prog 38 #[.slice a xs.length c, .slice b xs.length d] w fun e w' => e = .returned (.bool true) ∧ Below w.heap.size w w' := by
  rw [Lay.wt_list] at hn
  go_enter Tryd.func38, Tryd.ntmps38
  go_wp2
  go_loopw [5] (fun i wr => ∃ k : Nat, k ≤ xs.length ∧ i = .int .i64 k ∧ Below w.heap.size w wr) (fun i _ => xs.length - (intOf i).toNat)
  case atStart => exact ⟨0, Nat.zero_le _, rfl, Below.refl _ _⟩
  case round =>
    obtain ⟨k, hk, rfl, hbel⟩ := hrel
    by_cases hlt : k < xs.length
    · obtain ⟨b1, o1, rfl, hb1, ⟨q0, q1, q2, q3⟩, a1, c1, q4, r1⟩ := (h.later hbel).atNode hlt
      obtain ⟨b2, o2, rfl, hb2, ⟨p0, p1, p2, p3⟩, a2, c2, p4, r2⟩ := (g.later hbel).atNode hlt
      have hk2 := Lay.sumL_at Lay.node hlt
      have X : Hid (Calls Tryd.prog 65 #[.agg #[.int .i64 xs[k].kind, .int .i64 xs[k].sym, .int .i64 xs[k].alt, .int .i64 xs[k].pl, .slice a1 xs[k].kids.length c1], .agg #[.int .i64 xs[k].kind, .int .i64 xs[k].sym, .int .i64 xs[k].alt, .int .i64 xs[k].pl, .slice a2 xs[k].kids.length c2]] wr.drew fun e w' => e = .returned (.bool true) ∧ Below wr.heap.size wr w') :=
        (eqNode_l xs[k] a1 a2 c1 c2 wr.drew (r1.later (below_drew 1)) (r2.later (below_drew 1)) (by omega)).mono fun e w' h => ⟨h.1, ⟨h.2.os, h.2.tape, h.2.output, h.2.size, h.2.block⟩⟩
      clear h g r1 r2 hk2
      generalize xs[k].kids = y at *
      generalize xs[k].kind = v0 at *
      generalize xs[k].sym = v1 at *
      generalize xs[k].alt = v2 at *
      generalize xs[k].pl = v3 at *
      go_wp2
      go_region_with (go_at_call 65; refine X.out.mono ?_; rintro e w1 ⟨rfl, hl1⟩)
      all_goals
        go_wp2
        go_roundw
        case rel => exact ⟨k + 1, by omega, by go_num, hbel.trans (hl1.mono hbel.size)⟩
        case measure => simp [intOf]; omega
    · go_wp2
      go_ret
      exact ⟨rfl, hbel⟩

set_option maxRecDepth 100000 in
theorem szNodeS_l (xs : List Nd) (a : Option Addr) (c : Nat) (l : Int) (w : World) (h : RD w (.slice a xs.length c) (slD Lay.node xs)) (hf : (Lay.list Lay.node).fit xs) (h0 : 0 ≤ l) (h1 : l ≤ 1048576) :
    Calls Tryd.prog 27 #[.slice a xs.length c, .int .i64 l] w fun e w' => ∃ r, e = .returned (.int .i64 r) ∧ SzE ((Lay.list Lay.node).wt xs) l r ∧ Below w.heap.size w w' := by
  obtain ⟨hm, hfe⟩ := hf
  unfold maxLen at hm
  rw [Lay.wt_list]
  by_cases hbig : l < (xs.length : Int)
  · go_enter Tryd.func27, Tryd.ntmps27
    go_wp2
    go_ret
    exact ⟨_, rfl, .inl rfl, Below.refl _ _⟩
  · go_enter Tryd.func27, Tryd.ntmps27
    go_wp2
    go_loopw [1, 5] (fun sl i wr => ∃ (k : Nat) (x : Int), k ≤ xs.length ∧ i = .int .i64 k ∧ sl = .int .i64 x ∧ 0 ≤ x ∧ Hid (x + xs.length + Lay.sumL Lay.node (xs.take k) = l) ∧ Below w.heap.size w wr) (fun _ i _ => xs.length - (intOf i).toNat)
    case atStart => exact ⟨0, l - xs.length, Nat.zero_le _, rfl, rfl, by omega, by show _ = _; simp [Lay.sumL], Below.refl _ _⟩
    case round =>
      obtain ⟨k, x, hk, rfl, rfl, hx0, HXL, hbel⟩ := hrel
      by_cases hlt : k < xs.length
      · obtain ⟨b1, o1, rfl, hb1, ⟨q0, q1, q2, q3⟩, a1, c1, q4, r1⟩ := (h.later hbel).atNode hlt
        have fe := hfe xs[k] (List.getElem_mem hlt)
        have fk : (Lay.list Lay.int).fit xs[k].kids := fe.2.2.2.2
        have HW : Hid (Lay.sumL Lay.node (xs.take (k + 1)) = Lay.sumL Lay.node (xs.take k) + Lay.node.wt xs[k]) := Lay.sumL_take _ hlt
        have hx1 : x ≤ 1048576 := by have := HXL.out; omega
        have X : Hid (Calls Tryd.prog 50 #[.agg #[.int .i64 xs[k].kind, .int .i64 xs[k].sym, .int .i64 xs[k].alt, .int .i64 xs[k].pl, .slice a1 xs[k].kids.length c1], .int .i64 x] wr fun e w' => ∃ r, e = .returned (.int .i64 r) ∧ SzE (Lay.node.wt xs[k]) x r ∧ Below wr.heap.size wr w') :=
          szNode_l xs[k] a1 c1 x wr r1 fk hx0 hx1
        clear h r1 fe fk hfe
        generalize Lay.node.wt xs[k] = wk at *
        generalize xs[k].kids = y at *
        generalize xs[k].kind = v0 at *
        generalize xs[k].sym = v1 at *
        generalize xs[k].alt = v2 at *
        generalize xs[k].pl = v3 at *
        go_wp2_with fail
        refine X.out.mono ?_
        rintro e w1 ⟨r, rfl, hr, hb2⟩
        have B2 := hbel.trans (hb2.mono hbel.size)
        clear X hb2 q0 q1 q2 q3 q4
        rcases hr with rfl | ⟨hr0, hr1⟩
        · go_wp2
          go_ret
          exact ⟨_, rfl, .inl rfl, B2⟩
        · have HR : Hid (r = x - (wk : Nat)) := hr1
          clear hr1
          go_wp2
          go_roundw
          case rel => exact ⟨k + 1, r, by omega, by go_num, rfl, hr0, by show _ = _; rw [HW.out]; have h1 := HXL.out; have h2 := HR.out; omega, B2⟩
          case measure => simp [intOf]; omega
      · have e : k = xs.length := by omega
        subst e
        have HE : Hid (x = l - (xs.length + Lay.sumL Lay.node xs : Nat)) := by have := HXL.out; rw [List.take_length] at this; show _ = _; omega
        clear HXL
        go_wp2
        go_ret
        exact ⟨_, rfl, .inr ⟨hx0, HE.out⟩, hbel⟩

end Go.Proofs.YthnppodnjokaoaaDoor
namespace Go.Proofs.YthnppodnjokaoaaDoor
open Go.RowKit

/-- As the program has it. -/
structure Tr where
  nodes : (List Nd)
def Lay.tree : Lay Tr := { cells := fun x => [slD Lay.node x.nodes], sz := 1, len := fun _ => rfl, pos := by decide, wt := fun x => (Lay.list Lay.node).wt x.nodes, fit := fun x => (Lay.list Lay.node).fit x.nodes }
theorem Lay_tree_wt (x : Tr) : Lay.tree.wt x = (Lay.list Lay.node).wt x.nodes := rfl
theorem Lay_tree_fit (x : Tr) : Lay.tree.fit x = ((Lay.list Lay.node).fit x.nodes) := rfl

section
variable {H : Type} {enc : TypeId × Value → H} {P : Program} {w : World} {base : Nat} {spare : Nat → Bool} {held : Bool}
theorem Opens.tree {t : TypeId} {f0 : Field} (hu : P.underlying t = some (.struct #[f0])) (o0 : f0.offset = 0) (s0 : P.cellsOf f0.type = 1) (h0 : Opens enc P w base spare held f0.type (Lay.list Lay.node)) (hc : P.cellsOf t = 1) : Opens enc P w base spare held t Lay.tree := by
  intro n cs y h
  obtain ⟨xs, m, _, _, hl, hlen, hf⟩ := DataW.trod_struct hu h
  rw [hc] at hl
  match xs, hlen, cs, hl with
  | [y0], _, [v0], _ =>
    have g0 := hf 0 f0 rfl
    rw [o0, s0] at g0
    obtain ⟨z0, fit0, _, r0⟩ := h0 m _ y0 (by simpa using g0)
    refine ⟨⟨z0⟩, fit0, rfl, fun j hj hj' => ?_⟩
    match j, hj with
    | 0, _ => exact r0 0 (by simp) (by rw [(Lay.list Lay.node).len]; decide)
end

theorem eqTree_l (x : Tr) (a0 b0 : Option Addr) (c0 d0 : Nat) (w : World) (h0 : RD w (.slice a0 x.nodes.length c0) (slD Lay.node x.nodes)) (g0 : RD w (.slice b0 x.nodes.length d0) (slD Lay.node x.nodes)) (hn : Lay.tree.wt x ≤ 4194304) :
    Calls Tryd.prog 19 #[.agg #[.slice a0 x.nodes.length c0], .agg #[.slice b0 x.nodes.length d0]] w fun e w' => e = .returned (.bool true) ∧ Below w.heap.size w w' := by
  rw [Lay_tree_wt] at hn
  have B := ((Below.refl w.heap.size w).alloc (Nat.le_refl _) (.cells #[.slice a0 x.nodes.length c0] 43)).alloc (by simp) (.cells #[.slice b0 x.nodes.length d0] 43)
  have X : Hid (∀ W : World, Below w.heap.size w W → Calls Tryd.prog 38 #[.slice a0 x.nodes.length c0, .slice b0 x.nodes.length d0] W fun e w' => e = .returned (.bool true) ∧ Below W.heap.size W w') :=
    fun W hW => eqNodeS_l x.nodes a0 b0 c0 d0 W (h0.later hW) (g0.later hW) hn
  clear h0 g0 hn
  generalize x.nodes = y at *
  go_enter Tryd.func19, Tryd.ntmps19
  go_wp2_with fail
  refine (X.out _ B).mono ?_
  rintro e w1 ⟨rfl, hb⟩
  go_wp2
  go_ret
  exact ⟨rfl, B.trans (hb.mono B.size)⟩

set_option maxRecDepth 100000 in
theorem szTree_l (x : Tr) (a0 : Option Addr) (c0 : Nat) (l : Int) (w : World) (h0 : RD w (.slice a0 x.nodes.length c0) (slD Lay.node x.nodes)) (hf : Lay.tree.fit x) (hl0 : 0 ≤ l) (hl1 : l ≤ 1048576) :
    Calls Tryd.prog 15 #[.agg #[.slice a0 x.nodes.length c0], .int .i64 l] w fun e w' => ∃ r, e = .returned (.int .i64 r) ∧ SzE (Lay.tree.wt x) l r ∧ Below w.heap.size w w' := by
  rw [Lay_tree_wt]
  rw [Lay_tree_fit] at hf
  have B := (Below.refl w.heap.size w).alloc (Nat.le_refl _) (.cells #[.slice a0 x.nodes.length c0] 38)
  have X : Hid (∀ W : World, Below w.heap.size w W → Calls Tryd.prog 27 #[.slice a0 x.nodes.length c0, .int .i64 l] W fun e w' => ∃ r, e = .returned (.int .i64 r) ∧ SzE ((Lay.list Lay.node).wt x.nodes) l r ∧ Below W.heap.size W w') :=
    fun W hW => szNodeS_l x.nodes a0 c0 l W (h0.later hW) hf hl0 hl1
  clear h0 hf
  generalize (Lay.list Lay.node).wt x.nodes = wk at *
  generalize x.nodes = y at *
  go_enter Tryd.func15, Tryd.ntmps15
  go_wp2_with fail
  refine (X.out _ B).mono ?_
  rintro e w1 ⟨r, rfl, hr, hb⟩
  have B1 := B.trans (hb.mono B.size)
  clear X
  rcases hr with rfl | ⟨hr0, hr1⟩
  · go_wp2
    go_ret
    exact ⟨_, rfl, .inl rfl, B1⟩
  · have HR : Hid (r = l - wk) := hr1
    clear hr1
    go_wp2
    go_ret
    exact ⟨_, rfl, .inr ⟨hr0, HR.out⟩, B1⟩

set_option maxRecDepth 100000 in
theorem toTree_l (x : Tr) (a0 : Option Addr) (c0 : Nat) (w : World) (h0 : RD w (.slice a0 x.nodes.length c0) (slD Lay.node x.nodes)) (hn : Lay.tree.wt x ≤ 1048576) :
    Calls Tryd.prog 17 #[.agg #[.slice a0 x.nodes.length c0]] w fun e w' => ∃ a1 c1 S, e = .returned (.agg #[.slice a1 x.nodes.length c1]) ∧ Cells w' w.heap.size [.slice a1 x.nodes.length c1] (Lay.tree.cells x) S ∧ Below w.heap.size w w' := by
  show Calls _ _ _ _ fun e w' => ∃ a1 c1 S, e = .returned (.agg #[.slice a1 x.nodes.length c1]) ∧ Cells w' w.heap.size [.slice a1 x.nodes.length c1] [slD Lay.node x.nodes] S ∧ Below w.heap.size w w'
  rw [Lay_tree_wt] at hn
  have X : Hid (∀ W : World, Below w.heap.size w W → Calls Tryd.prog 33 #[.slice a0 x.nodes.length c0] W fun e w' => ∃ v S, e = .returned v ∧ OD w' W.heap.size v (slD Lay.node x.nodes) S ∧ Below W.heap.size W w') :=
    fun W hW => toNodeS_l x.nodes a0 c0 W (h0.later hW) hn
  clear h0 hn
  generalize x.nodes = y at *
  have B : Below w.heap.size w (((w.alloc (.cells #[.slice a0 y.length c0] 38)).alloc (.cells #[.slice none 0 0] 43)).alloc (.cells #[.slice none 0 0] 43)) :=
    (((Below.refl _ _).alloc (Nat.le_refl _) _).alloc (by simp) _).alloc (by simp; omega) _
  go_enter Tryd.func17, Tryd.ntmps17
  go_wp2_with fail
  refine (X.out _ B).mono ?_
  rintro e w1 ⟨v, S, rfl, O1, hb1⟩
  obtain ⟨hc, hf⟩ := bcellH hb1
  have hz := hb1.size
  simp only [World.size_alloc] at hc hf hz
  have B1 := B.trans (hb1.mono B.size)
  obtain ⟨a1, c1, rfl, _⟩ := OD.shapeL O1
  clear X B hb1
  go_wp2
  refine bodyPost_ret (v := .agg #[.slice a1 y.length c1]) (by simp [results, Tryd.results17, go_sem, hc]) rfl ⟨a1, c1, S, rfl, ?_, ?_⟩
  · have hW : Within w1 ((w1.setCell ⟨w.heap.size + 1 + 1, 0, none⟩ (.slice a1 y.length c1)).setCell ⟨w.heap.size + 1, 0, none⟩ (.slice a1 y.length c1)) (fun k => k < w.heap.size + 1 + 1 + 1) :=
      ((Within.refl _ _).setCell _ _ (by simp)).setCell _ _ (by simp)
    refine Cells.last [] ((O1.kept hW (fun k hk hk2 => ?_)).base (by simp; omega))
    have := (O1.lt k hk).1
    simp at this
    omega
  · exact (B1.setCell (p := ⟨w.heap.size + 1 + 1, 0, none⟩) (by simp; omega) _).setCell (p := ⟨w.heap.size + 1, 0, none⟩) (by simp) _

end Go.Proofs.YthnppodnjokaoaaDoor
namespace Go.Proofs.YthnppodnjokaoaaDoor
open Go.RowKit

def nd0 : Nd := ⟨0, 0, 0, 0, []⟩
/-- The Kids of the first nodes, one behind the other. -/
def kidsTo (ns : List Nd) (i : Nat) : List Int := (ns.take i).flatMap Nd.kids
/-- A node that is right by itself: its Kind, where Kids may be, where they lead. -/
def Right (n : Nat) (i : Nat) (x : Nd) : Prop := inB x.kind 0 3 = true ∧ (x.kind = 1 ∨ x.kids = []) ∧ ∀ k ∈ x.kids, (i : Int) < k ∧ k < n
def Shaped (ns : List Nd) : Prop := ns ≠ [] ∧ (∀ i (h : i < ns.length), Right ns.length i ns[i]) ∧ ∀ j, 1 ≤ j → j < ns.length → (kidsTo ns ns.length).count (j : Int) = 1
def rightB (n i : Nat) (x : Nd) : Bool := inB x.kind 0 3 && (decide (x.kind = 1) || x.kids.isEmpty) && x.kids.all (fun k => decide ((i : Int) < k ∧ k < n))
theorem rightB_iff {n i : Nat} {x : Nd} : rightB n i x = true ↔ Right n i x := by
  unfold rightB Right
  simp [and_assoc]
def shapeB (ns : List Nd) : Bool := !ns.isEmpty && (List.range ns.length).all (fun i => rightB ns.length i (ns.getD i nd0)) && (List.range ns.length).all (fun j => decide (j = 0) || decide ((kidsTo ns ns.length).count (j : Int) = 1))
theorem shapeB_true {ns : List Nd} : shapeB ns = true ↔ Shaped ns := by
  unfold shapeB Shaped
  rw [Bool.and_eq_true, Bool.and_eq_true, List.all_eq_true, List.all_eq_true, and_assoc]
  refine and_congr (by simp) (and_congr ?_ ?_)
  · constructor
    · intro h i hi
      have := h i (List.mem_range.2 hi)
      rw [rightB_iff, List.getD_eq_getElem?_getD, List.getElem?_eq_getElem hi, Option.getD_some] at this
      exact this
    · intro h i hi
      have hi2 := List.mem_range.1 hi
      rw [rightB_iff, List.getD_eq_getElem?_getD, List.getElem?_eq_getElem hi2, Option.getD_some]
      exact h i hi2
  · constructor
    · intro h j h1 h2
      have := h j (List.mem_range.2 h2)
      simp at this
      rcases this with e | e
      · omega
      · exact e
    · intro h j hj
      have hj2 := List.mem_range.1 hj
      by_cases e : j = 0
      · simp [e]
      · simp [h j (by omega) hj2]
theorem shapeB_yes {ns : List Nd} (h : Shaped ns) : shapeB ns = true := shapeB_true.2 h
theorem shapeB_false {ns : List Nd} : shapeB ns = false ↔ ¬ Shaped ns := by rw [← shapeB_true]; simp
theorem shapeB_no {ns : List Nd} (h : ¬ Shaped ns) : shapeB ns = false := shapeB_false.2 h

theorem kidsTo_zero (ns : List Nd) : kidsTo ns 0 = [] := rfl
theorem kidsTo_next {ns : List Nd} {i : Nat} (h : i < ns.length) : kidsTo ns (i + 1) = kidsTo ns i ++ ns[i].kids := by
  unfold kidsTo
  rw [List.take_succ_eq_append_getElem h, List.flatMap_append]
  simp
theorem kidsTo_all (ns : List Nd) : kidsTo ns ns.length = ns.flatMap Nd.kids := by rw [kidsTo, List.take_length]
theorem kidsTo_length {ns : List Nd} (i : Nat) : (kidsTo ns i).length ≤ Lay.node.sumL ns := by
  have h : ∀ xs : List Nd, (xs.flatMap Nd.kids).length = Lay.node.sumL xs := by
    intro xs
    induction xs with
    | nil => rfl
    | cons x xs ih => rw [List.flatMap_cons, List.length_append, ih]; show _ = Lay.node.wt x + _; rw [Lay_node_wt, Lay.wt_ints]
  unfold kidsTo
  rw [h]
  exact Lay.sumL_take_le _ _ _

/-- How often each place is among the numbers. -/
def cntRow (L : List Int) (n : Nat) : List Value := (List.range n).map fun (j : Nat) => .int .i64 ((L.count (j : Int) : Nat) : Int)
theorem cntRow_length (L : List Int) (n : Nat) : (cntRow L n).length = n := by simp [cntRow]
theorem cntRow_get {L : List Int} {n j : Nat} (h : j < n) : (cntRow L n)[j]? = some (.int .i64 ((L.count (j : Int) : Nat) : Int)) := by simp [cntRow, h]
theorem cntRow_nil (n : Nat) : cntRow [] n = List.replicate n (.int .i64 0) := by
  apply List.ext_getElem
  · simp [cntRow]
  · intro i h1 h2; simp [cntRow]
theorem cntRow_set {L : List Int} {n j : Nat} : (cntRow L n).set j (.int .i64 (((L.count (j : Int) : Nat) : Int) + 1)) = cntRow (L ++ [(j : Int)]) n := by
  apply List.ext_getElem
  · simp [cntRow]
  · intro i h1 h2
    rw [List.getElem_set]
    by_cases e : j = i
    · subst e
      simp [cntRow, List.count_append]
    · rw [if_neg e]
      have e2 : ¬ (j : Int) = (i : Int) := by omega
      simp [cntRow, List.count_append, List.count_singleton, e2]
/-- Which places are met: the first one, and those among the numbers. -/
def metRow (L : List Int) (n : Nat) : List Value := (List.range n).map fun (j : Nat) => .bool (decide (j = 0) || L.contains (j : Int))
theorem metRow_length (L : List Int) (n : Nat) : (metRow L n).length = n := by simp [metRow]
theorem metRow_get {L : List Int} {n j : Nat} (h : j < n) : (metRow L n)[j]? = some (.bool (decide (j = 0) || L.contains (j : Int))) := by simp [metRow, h]
theorem metRow_first {n : Nat} : (List.replicate n (Value.bool false)).set 0 (.bool true) = metRow [] n := by
  apply List.ext_getElem
  · simp [metRow]
  · intro i h1 h2
    rw [List.getElem_set]
    by_cases e : 0 = i
    · subst e; simp [metRow]
    · rw [if_neg e]
      have : i ≠ 0 := fun h => e h.symm
      simp [metRow, this]
theorem metRow_set {L : List Int} {n j : Nat} : (metRow L n).set j (.bool true) = metRow (L ++ [(j : Int)]) n := by
  apply List.ext_getElem
  · simp [metRow]
  · intro i h1 h2
    rw [List.getElem_set]
    by_cases e : j = i
    · subst e; simp [metRow]
    · rw [if_neg e]
      have e2 : (i : Int) ≠ (j : Int) := by omega
      simp [metRow, e2]

theorem toNat_in {k : Int} {i n : Nat} (h1 : (i : Int) < k) (h2 : k < n) : k.toNat < n ∧ ((k.toNat : Nat) : Int) = k ∧ 1 ≤ k.toNat := by omega

theorem not_shaped_at {ns : List Nd} {i : Nat} (h : i < ns.length) (g : ¬ Right ns.length i ns[i]) : ¬ Shaped ns := fun s => g (s.2.1 i h)
theorem not_right_kind {n i : Nat} {x : Nd} (h : inB x.kind 0 3 = false) : ¬ Right n i x := fun r => by rw [r.1] at h; cases h
theorem not_right_kids {n i : Nat} {x : Nd} (h : x.kind ≠ 1) (g : x.kids ≠ []) : ¬ Right n i x := fun r => r.2.1.elim h g
theorem not_right_kid {n i k : Nat} {x : Nd} (hk : k < x.kids.length) (g : ¬ ((i : Int) < x.kids[k] ∧ x.kids[k] < n)) : ¬ Right n i x := fun r => g (r.2.2 _ (List.getElem_mem hk))
theorem right_guard {x : Nd} (h : (x.kind != 1 && decide (0 < x.kids.length)) = false) : x.kind = 1 ∨ x.kids = [] := by
  by_cases e : x.kind = 1
  · exact .inl e
  · have e2 : (x.kind != 1) = true := by simpa using e
    rw [e2] at h
    simp at h
    exact .inr h
theorem not_right_guard {n i : Nat} {x : Nd} (h : (x.kind != 1 && decide (0 < x.kids.length)) = true) : ¬ Right n i x := by
  simp at h
  exact not_right_kids h.1 (fun e => by rw [e] at h; simp at h)
theorem kidsTo_prefix {ns : List Nd} {i : Nat} (h : i < ns.length) : ∃ r, kidsTo ns ns.length = kidsTo ns i ++ ns[i].kids ++ r := by
  refine ⟨(ns.drop (i + 1)).flatMap Nd.kids, ?_⟩
  rw [kidsTo_all, ← kidsTo_next h, kidsTo, ← List.flatMap_append, List.take_append_drop]
/-- A place that is met twice. -/
theorem not_shaped_dup {ns : List Nd} {i k kn : Nat} (h : i < ns.length) (hk : k < ns[i].kids.length) (e : ns[i].kids[k] = (kn : Int)) (hkn : kn < ns.length) (h1 : 1 ≤ kn) (hm : (kn : Int) ∈ kidsTo ns i ++ ns[i].kids.take k) : ¬ Shaped ns := by
  intro s
  have c := s.2.2 kn h1 hkn
  obtain ⟨r, hr⟩ := kidsTo_prefix h
  have e2 : ns[i].kids = ns[i].kids.take k ++ ns[i].kids[k] :: ns[i].kids.drop (k + 1) := by
    rw [← List.drop_eq_getElem_cons hk, List.take_append_drop]
  have c1 : 1 ≤ (kidsTo ns i ++ ns[i].kids.take k).count (kn : Int) := List.count_pos_iff.2 hm
  rw [List.count_append] at c1
  rw [hr, e2, e, List.count_append, List.count_append, List.count_append, List.count_cons] at c
  simp at c
  omega
theorem not_shaped_free {ns : List Nd} {j : Nat} (h : j < ns.length) (h1 : 1 ≤ j) (hm : (j : Int) ∉ kidsTo ns ns.length) : ¬ Shaped ns := by
  intro s
  have c := s.2.2 j h1 h
  rw [List.count_eq_zero.2 hm] at c
  omega
theorem shaped_of {ns : List Nd} (hz : ns ≠ []) (hr : ∀ i (h : i < ns.length), Right ns.length i ns[i]) (hn : (kidsTo ns ns.length).Nodup) (hm : ∀ j, 1 ≤ j → j < ns.length → (j : Int) ∈ kidsTo ns ns.length) : Shaped ns :=
  ⟨hz, hr, fun j h1 h2 => by
    have a := List.count_pos_iff.2 (hm j h1 h2)
    have b := List.nodup_iff_count.1 hn (j : Int)
    omega⟩
/-- As flags. -/
def metB (L : List Int) (n : Nat) : List Bool := (List.range n).map fun (j : Nat) => decide (j = 0) || L.contains (j : Int)
theorem metRow_bools (L : List Int) (n : Nat) : metRow L n = (metB L n).map Value.bool := by simp [metRow, metB, Function.comp_def]
theorem metB_length (L : List Int) (n : Nat) : (metB L n).length = n := by simp [metB]
theorem metB_free {L : List Int} {n : Nat} (h : (metB L n).contains false = true) : ∃ j, j < n ∧ 1 ≤ j ∧ (j : Int) ∉ L := by
  simp only [metB, List.contains_iff_mem, List.mem_map, List.mem_range] at h
  obtain ⟨j, hj, e⟩ := h
  simp at e
  exact ⟨j, hj, by omega, e.2⟩
theorem metB_all {L : List Int} {n : Nat} (h : (metB L n).contains false = false) {j : Nat} (hj : j < n) (h1 : 1 ≤ j) : (j : Int) ∈ L := by
  by_cases hm : (j : Int) ∈ L
  · exact hm
  · exfalso
    have : false ∈ metB L n := by
      simp only [metB, List.mem_map, List.mem_range]
      exact ⟨j, hj, by simp [hm]; omega⟩
    have h2 := List.contains_iff_mem.2 this
    rw [h] at h2
    cases h2
theorem nodup_snoc {L : List Int} {x : Int} (h : L.Nodup) (g : x ∉ L) : (L ++ [x]).Nodup := by
  rw [List.nodup_append]
  exact ⟨h, by simp, fun a ha b hb e => by simp at hb; subst hb; exact g (e ▸ ha)⟩
end Go.Proofs.YthnppodnjokaoaaDoor
namespace Go.Proofs.YthnppodnjokaoaaDoor
open Go.RowKit

def ndAt (ns : List Nd) (p : Nat) : Nd := ns.getD p nd0
theorem ndAt_get {ns : List Nd} {p : Nat} (h : p < ns.length) : ndAt ns p = ns[p] := by rw [ndAt, List.getD_eq_getElem?_getD, List.getElem?_eq_getElem h, Option.getD_some]
def kidsAt (ns : List Nd) (p : Nat) : List Nat := (ndAt ns p).kids.map Int.toNat
/-- The visits from a node on: to a node (false), to the end of a part (true). -/
def vis (ns : List Nd) : Nat → Nat → List (Nat × Bool)
  | 0, _ => []
  | f + 1, p => (p, false) :: if (ndAt ns p).kind = 1 then (kidsAt ns p).flatMap (vis ns f) ++ [(p, true)] else []
def visAt (ns : List Nd) (p : Nat) : List (Nat × Bool) := vis ns (ns.length - p) p

theorem kid_lt {ns : List Nd} (s : Shaped ns) {p : Nat} (hp : p < ns.length) {k : Nat} (hk : k ∈ kidsAt ns p) : p < k ∧ k < ns.length := by
  rw [kidsAt, ndAt_get hp, List.mem_map] at hk
  obtain ⟨z, hz, e⟩ := hk
  have := (s.2.1 p hp).2.2 z hz
  omega
theorem kid_cast {ns : List Nd} (s : Shaped ns) {p : Nat} (hp : p < ns.length) : (kidsAt ns p).map (fun (k : Nat) => (k : Int)) = (ndAt ns p).kids := by
  rw [kidsAt, ndAt_get hp, List.map_map]
  conv => rhs; rw [← List.map_id ns[p].kids]
  apply List.map_congr_left
  intro z hz
  have := (s.2.1 p hp).2.2 z hz
  simp only [Function.comp_apply, id]
  omega
theorem flatMap_congr' {β : Type} {xs : List Nat} {f g : Nat → List β} (h : ∀ x ∈ xs, f x = g x) : xs.flatMap f = xs.flatMap g := by
  induction xs with
  | nil => rfl
  | cons x xs ih => rw [List.flatMap_cons, List.flatMap_cons, h x (by simp), ih (fun y hy => h y (by simp [hy]))]
theorem vis_fuel {ns : List Nd} (s : Shaped ns) : ∀ (f g p : Nat), p < ns.length → ns.length - p ≤ f → ns.length - p ≤ g → vis ns f p = vis ns g p
  | 0, _, p, hp, hf, _ => by omega
  | _ + 1, 0, p, hp, _, hg => by omega
  | f + 1, g + 1, p, hp, hf, hg => by
    rw [vis, vis, flatMap_congr' (fun k hk => vis_fuel s f g k (kid_lt s hp hk).2 (by have := (kid_lt s hp hk).1; omega) (by have := (kid_lt s hp hk).1; omega))]
theorem visAt_eq {ns : List Nd} (s : Shaped ns) {p : Nat} (hp : p < ns.length) : visAt ns p = (p, false) :: if (ndAt ns p).kind = 1 then (kidsAt ns p).flatMap (visAt ns) ++ [(p, true)] else [] := by
  have e : ns.length - p = (ns.length - p - 1) + 1 := by omega
  rw [visAt, e, vis, flatMap_congr' (fun k hk => vis_fuel s (ns.length - p - 1) (ns.length - k) k (kid_lt s hp hk).2 (by have := (kid_lt s hp hk).1; omega) (Nat.le_refl _))]
  rfl
theorem kids_none {ns : List Nd} (s : Shaped ns) {p : Nat} (hp : p < ns.length) (h : (ndAt ns p).kind ≠ 1) : kidsAt ns p = [] := by
  rw [ndAt_get hp] at h
  rw [kidsAt, ndAt_get hp, (s.2.1 p hp).2.1.resolve_left h]; rfl
theorem visAt_length {ns : List Nd} (s : Shaped ns) {p : Nat} (hp : p < ns.length) : (visAt ns p).length ≤ 2 + ((kidsAt ns p).map (fun k => (visAt ns k).length)).sum := by
  rw [visAt_eq s hp]
  split
  · rw [List.length_cons, List.length_append, List.length_flatMap]; simp; omega
  · simp; omega
theorem mem_kids {ns : List Nd} (s : Shaped ns) {z : Int} : z ∈ kidsTo ns ns.length ↔ 1 ≤ z ∧ z < ns.length := by
  constructor
  · intro hz
    rw [kidsTo_all, List.mem_flatMap] at hz
    obtain ⟨x, hx, hz⟩ := hz
    obtain ⟨i, hi, rfl⟩ := List.mem_iff_getElem.1 hx
    have := (s.2.1 i hi).2.2 z hz
    omega
  · rintro ⟨h1, h2⟩
    have := s.2.2 z.toNat (by omega) (by omega)
    rw [show ((z.toNat : Nat) : Int) = z by omega] at this
    exact List.count_pos_iff.1 (by omega)
theorem kids_perm {ns : List Nd} (s : Shaped ns) : ((kidsTo ns ns.length).map Int.toNat).Perm (List.range' 1 (ns.length - 1)) := by
  have h : (kidsTo ns ns.length).Perm ((List.range' 1 (ns.length - 1)).map (fun (k : Nat) => (k : Int))) := by
    refine (List.perm_ext_iff_of_nodup ?_ ?_).2 fun z => ?_
    · refine List.nodup_iff_count.2 fun z => ?_
      by_cases hz : z ∈ kidsTo ns ns.length
      · have hb := (mem_kids s).1 hz
        have := s.2.2 z.toNat (by omega) (by omega)
        rw [show ((z.toNat : Nat) : Int) = z by omega] at this
        omega
      · rw [List.count_eq_zero.2 hz]; omega
    · exact List.pairwise_map.2 ((List.nodup_range' (s := 1) (n := ns.length - 1)).imp (fun h e => h (by omega)))
    · rw [mem_kids s, List.mem_map]
      constructor
      · rintro ⟨h1, h2⟩
        exact ⟨z.toNat, by rw [List.mem_range'_1]; omega, by omega⟩
      · rintro ⟨k, hk, rfl⟩
        rw [List.mem_range'_1] at hk
        omega
  have h2 := h.map Int.toNat
  rw [List.map_map] at h2
  have e : (List.range' 1 (ns.length - 1)).map (Int.toNat ∘ fun (k : Nat) => (k : Int)) = List.range' 1 (ns.length - 1) := by
    conv => rhs; rw [← List.map_id (List.range' 1 (ns.length - 1))]
    apply List.map_congr_left
    intro k _
    simp
  rw [e] at h2
  exact h2
theorem kidsTo_nat {ns : List Nd} (i : Nat) (hi : i ≤ ns.length) : (kidsTo ns i).map Int.toNat = (List.range i).flatMap (kidsAt ns) := by
  induction i with
  | zero => rfl
  | succ i ih =>
    rw [kidsTo_next (by omega), List.map_append, ih (by omega), List.range_succ, List.flatMap_append, List.flatMap_singleton]
    congr 1
    rw [kidsAt, ndAt_get (by omega)]
theorem sum_le {ns : List Nd} (L : Nat → Nat) (i : Nat) (hi : i ≤ ns.length) (h : ∀ p, p < ns.length → L p ≤ 2 + ((kidsAt ns p).map L).sum) : ((List.range i).map L).sum ≤ 2 * i + (((List.range i).flatMap (kidsAt ns)).map L).sum := by
  induction i with
  | zero => simp
  | succ i ih =>
    have h1 := ih (by omega)
    have h2 := h i (by omega)
    rw [List.range_succ, List.flatMap_append, List.flatMap_singleton, List.map_append, List.map_append, List.sum_append_nat, List.sum_append_nat]
    simp only [List.map_cons, List.map_nil, List.sum_cons, List.sum_nil]
    omega
/-- The whole tree is gone over in two steps a node at most. -/
theorem visits_le {ns : List Nd} (s : Shaped ns) : (visAt ns 0).length ≤ 2 * ns.length := by
  have hz : 0 < ns.length := List.length_pos_iff.2 s.1
  have h1 := sum_le (fun p => (visAt ns p).length) ns.length (Nat.le_refl _) (fun p hp => visAt_length s hp)
  rw [← kidsTo_nat ns.length (Nat.le_refl _)] at h1
  have h2 := ((kids_perm s).map (fun p => (visAt ns p).length)).sum_nat
  rw [h2] at h1
  have e : List.range ns.length = 0 :: List.range' 1 (ns.length - 1) := by
    rw [List.range_eq_range', show ns.length = (ns.length - 1) + 1 by omega, List.range'_succ]
    simp
  rw [e, List.map_cons, List.sum_cons] at h1
  omega
/-- What is still to come behind a stack, its top last. -/
def unfold1 (ns : List Nd) (v : Nat × Bool) : List (Nat × Bool) := if v.2 = true then [v] else visAt ns v.1
def toCome (ns : List Nd) (st : List (Nat × Bool)) : List (Nat × Bool) := st.reverse.flatMap (unfold1 ns)
/-- The stack behind a visit. -/
def pushed (ns : List Nd) (v : Nat × Bool) : List (Nat × Bool) := if v.2 = false ∧ (ndAt ns v.1).kind = 1 then (v.1, true) :: (kidsAt ns v.1).reverse.map (fun k => (k, false)) else []
theorem toCome_snoc (ns : List Nd) (st : List (Nat × Bool)) (v : Nat × Bool) : toCome ns (st ++ [v]) = unfold1 ns v ++ toCome ns st := by simp [toCome]
theorem toCome_append (ns : List Nd) (st us : List (Nat × Bool)) : toCome ns (st ++ us) = toCome ns us ++ toCome ns st := by simp [toCome]
theorem toCome_kids (ns : List Nd) (ks : List Nat) : toCome ns (ks.reverse.map (fun k => (k, false))) = ks.flatMap (visAt ns) := by
  rw [toCome, ← List.map_reverse, List.reverse_reverse]
  induction ks with
  | nil => rfl
  | cons k ks ih => rw [List.map_cons, List.flatMap_cons, List.flatMap_cons, ih]; simp [unfold1]
theorem toCome_step {ns : List Nd} (s : Shaped ns) (st : List (Nat × Bool)) (v : Nat × Bool) (hv : v.1 < ns.length) : toCome ns (st ++ [v]) = v :: toCome ns (st ++ pushed ns v) := by
  rw [toCome_snoc, toCome_append, ← List.cons_append]
  congr 1
  obtain ⟨p, b⟩ := v
  unfold unfold1 pushed
  cases b with
  | true => simp [toCome]
  | false =>
    simp only [Bool.false_eq_true, if_false]
    rw [visAt_eq s hv]
    by_cases hk : (ndAt ns p).kind = 1
    · simp only [hk, true_and, if_true]
      have := toCome_append ns [(p, true)] ((kidsAt ns p).reverse.map (fun k => (k, false)))
      rw [List.singleton_append] at this
      rw [this, toCome_kids]
      simp [toCome, unfold1]
    · simp [hk, toCome]
theorem toCome_length_ge (ns : List Nd) (st : List (Nat × Bool)) (h : ∀ v ∈ st, v.1 < ns.length) : st.length ≤ (toCome ns st).length := by
  rw [toCome, List.length_flatMap]
  have key : ∀ us : List (Nat × Bool), (∀ v ∈ us, v.1 < ns.length) → us.length ≤ (us.map (fun a => (unfold1 ns a).length)).sum := by
    intro us hu
    induction us with
    | nil => simp
    | cons u us ih =>
      have h1 := ih (fun v hv => hu v (by simp [hv]))
      have h2 : 1 ≤ (unfold1 ns u).length := by
        unfold unfold1
        split
        · simp
        · have := hu u (by simp)
          have e : ns.length - u.1 = (ns.length - u.1 - 1) + 1 := by omega
          rw [visAt, e, vis]
          simp
      simp only [List.length_cons, List.map_cons, List.sum_cons]
      omega
  have := key st.reverse (fun v hv => h v (by simpa using hv))
  simpa using this
theorem pushed_lt {ns : List Nd} (s : Shaped ns) {v : Nat × Bool} (hv : v.1 < ns.length) : ∀ u ∈ pushed ns v, u.1 < ns.length := by
  intro u hu
  unfold pushed at hu
  split at hu
  · rcases List.mem_cons.1 hu with rfl | hu
    · exact hv
    · simp only [List.mem_map, List.mem_reverse] at hu
      obtain ⟨k, hk, rfl⟩ := hu
      exact (kid_lt s hv hk).2
  · simp at hu
end Go.Proofs.YthnppodnjokaoaaDoor
namespace Go.Proofs.YthnppodnjokaoaaDoor
open Go.RowKit

def isLf (ns : List Nd) (v : Nat × Bool) : Option Int := if v.2 = false ∧ (ndAt ns v.1).kind = 0 then some (v.1 : Int) else none
/-- The places of the leaves below a node. -/
def leafPos (ns : List Nd) (p : Nat) : List Int := (visAt ns p).filterMap (isLf ns)
theorem leafPos_leaf {ns : List Nd} (s : Shaped ns) {p : Nat} (hp : p < ns.length) (h : (ndAt ns p).kind = 0) : leafPos ns p = [(p : Int)] := by
  rw [leafPos, visAt_eq s hp]
  simp [isLf, h]
theorem leafPos_kids {ns : List Nd} (s : Shaped ns) {p : Nat} (hp : p < ns.length) (h : (ndAt ns p).kind ≠ 0) : leafPos ns p = (kidsAt ns p).flatMap (leafPos ns) := by
  rw [leafPos, visAt_eq s hp]
  by_cases h1 : (ndAt ns p).kind = 1
  · rw [if_pos h1, List.filterMap_cons_none (by simp [isLf, h]), List.filterMap_append, List.filterMap_flatMap]
    simp [isLf]
    rfl
  · rw [if_neg h1, kids_none s hp h1]
    simp [isLf, h]
theorem leafPos_length {ns : List Nd} (s : Shaped ns) : (leafPos ns 0).length ≤ 2 * ns.length := Nat.le_trans (List.length_filterMap_le _ _) (visits_le s)
theorem leafPos_in {ns : List Nd} (s : Shaped ns) : ∀ (f p : Nat), p < ns.length → ns.length - p ≤ f → ∀ z ∈ leafPos ns p, ∃ k : Nat, z = k ∧ k < ns.length
  | 0, p, hp, hf, z, _ => by omega
  | f + 1, p, hp, hf, z, hz => by
    by_cases h : (ndAt ns p).kind = 0
    · rw [leafPos_leaf s hp h, List.mem_singleton] at hz
      exact ⟨p, hz, hp⟩
    · rw [leafPos_kids s hp h, List.mem_flatMap] at hz
      obtain ⟨k, hk, hz⟩ := hz
      have := kid_lt s hp hk
      exact leafPos_in s f k this.2 (by omega) z hz
theorem leafPos_kid_le {ns : List Nd} {ks : List Nat} {j : Nat} (hj : j < ks.length) : ((ks.take j).flatMap (leafPos ns)).length + (leafPos ns ks[j]).length ≤ (ks.flatMap (leafPos ns)).length := by
  have e : ks = ks.take j ++ ks[j] :: ks.drop (j + 1) := by rw [← List.drop_eq_getElem_cons hj, List.take_append_drop]
  conv => rhs; rw [e]
  rw [List.flatMap_append, List.flatMap_cons, List.length_append, List.length_append]
  omega
theorem leafPos_take {ns : List Nd} {ks : List Nat} {j : Nat} (hj : j < ks.length) : (ks.take (j + 1)).flatMap (leafPos ns) = (ks.take j).flatMap (leafPos ns) ++ leafPos ns ks[j] := by
  rw [List.take_succ_eq_append_getElem hj, List.flatMap_append, List.flatMap_singleton]
theorem kidsAt_length (ns : List Nd) (p : Nat) : (kidsAt ns p).length = (ndAt ns p).kids.length := by simp [kidsAt]
theorem kidsAt_get {ns : List Nd} (s : Shaped ns) {p : Nat} (hp : p < ns.length) {j : Nat} (hj : j < (kidsAt ns p).length) : (ndAt ns p).kids.getD j 0 = (((kidsAt ns p)[j] : Nat) : Int) := by
  have hj2 : j < (ndAt ns p).kids.length := by rwa [kidsAt_length] at hj
  rw [List.getD_eq_getElem?_getD, List.getElem?_eq_getElem hj2, Option.getD_some]
  have e := kid_cast s hp
  have : ((kidsAt ns p).map (fun (k : Nat) => (k : Int)))[j]? = some ((ndAt ns p).kids[j]) := by rw [e, List.getElem?_eq_getElem hj2]
  rw [List.getElem?_map, List.getElem?_eq_getElem hj, Option.map_some] at this
  exact (Option.some.inj this).symm
end Go.Proofs.YthnppodnjokaoaaDoor
namespace Go.Proofs.YthnppodnjokaoaaDoor
open Go.RowKit

/-- The symbol that a node stands for. -/
def symNd (x : Nd) : Int := if x.kind = 1 then wrap64 (100 + x.sym) else x.sym
/-- There is such an alternative. -/
def altB (P : List (List (List Int))) (k a : Int) : Bool := (decide (0 ≤ k) && decide (k < P.length)) && (decide (0 ≤ a) && decide (a < (P.getD k.toNat []).length))
def rowAt (P : List (List (List Int))) (k a : Int) : List Int := (P.getD k.toNat []).getD a.toNat []
/-- A node is a leaf, or a part by one of its alternatives. -/
def oneOfB (P : List (List (List Int))) (ns : List Nd) (x : Nd) : Bool := decide (x.kind = 1) && altB P x.sym x.alt && decide (x.kids.map (fun k => symNd (ndAt ns k.toNat)) = rowAt P x.sym x.alt)
def okNd (P : List (List (List Int))) (ns : List Nd) (x : Nd) : Bool := decide (x.kind = 0) || oneOfB P ns x
/-- The leaves are the row, each at its place. -/
def leafOk (ns : List Nd) (ws : List Int) (i : Nat) (z : Int) : Bool := decide ((ndAt ns z.toNat).pl = i) && decide ((ndAt ns z.toNat).sym = ws.getD i 0)
def leafRight (ns : List Nd) (ws : List Int) : Bool := decide ((leafPos ns 0).length = ws.length) && (List.range ws.length).all (fun i => leafOk ns ws i ((leafPos ns 0).getD i 0))
theorem altB_yes {P : List (List (List Int))} {k a : Int} (h : altB P k a = true) : ∃ kn an : Nat, k = kn ∧ a = an ∧ ∃ hk : kn < P.length, ∃ ha : an < P[kn].length, rowAt P k a = P[kn][an] := by
  simp only [altB, Bool.and_eq_true, decide_eq_true_eq] at h
  obtain ⟨⟨h1, h2⟩, h3, h4⟩ := h
  obtain ⟨kn, rfl⟩ := Int.eq_ofNat_of_zero_le h1
  obtain ⟨an, rfl⟩ := Int.eq_ofNat_of_zero_le h3
  have hk : kn < P.length := by omega
  have e : P.getD kn [] = P[kn] := by simp [List.getD, hk]
  have h5 : ((kn : Int)).toNat = kn := by omega
  rw [h5, e] at h4
  have ha : an < P[kn].length := by omega
  refine ⟨kn, an, rfl, rfl, hk, ha, ?_⟩
  simp [rowAt, List.getD, hk, ha]
end Go.Proofs.YthnppodnjokaoaaDoor
namespace Go.Proofs.YthnppodnjokaoaaDoor
open Go.RowKit

/-- As the program has it. -/
structure Gm where
  parts : (List (List (List Int)))
def Lay.gram : Lay Gm := { cells := fun x => [slD (Lay.list (Lay.list Lay.int)) x.parts], sz := 1, len := fun _ => rfl, pos := by decide, wt := fun x => (Lay.list (Lay.list (Lay.list Lay.int))).wt x.parts, fit := fun x => (Lay.list (Lay.list (Lay.list Lay.int))).fit x.parts }
theorem Lay_gram_wt (x : Gm) : Lay.gram.wt x = (Lay.list (Lay.list (Lay.list Lay.int))).wt x.parts := rfl
theorem Lay_gram_fit (x : Gm) : Lay.gram.fit x = ((Lay.list (Lay.list (Lay.list Lay.int))).fit x.parts) := rfl

section
variable {H : Type} {enc : TypeId × Value → H} {P : Program} {w : World} {base : Nat} {spare : Nat → Bool} {held : Bool}
theorem Opens.gram {t : TypeId} {f0 : Field} (hu : P.underlying t = some (.struct #[f0])) (o0 : f0.offset = 0) (s0 : P.cellsOf f0.type = 1) (h0 : Opens enc P w base spare held f0.type (Lay.list (Lay.list (Lay.list Lay.int)))) (hc : P.cellsOf t = 1) : Opens enc P w base spare held t Lay.gram := by
  intro n cs y h
  obtain ⟨xs, m, _, _, hl, hlen, hf⟩ := DataW.trod_struct hu h
  rw [hc] at hl
  match xs, hlen, cs, hl with
  | [y0], _, [v0], _ =>
    have g0 := hf 0 f0 rfl
    rw [o0, s0] at g0
    obtain ⟨z0, fit0, _, r0⟩ := h0 m _ y0 (by simpa using g0)
    refine ⟨⟨z0⟩, fit0, rfl, fun j hj hj' => ?_⟩
    match j, hj with
    | 0, _ => exact r0 0 (by simp) (by rw [(Lay.list (Lay.list (Lay.list Lay.int))).len]; decide)
end

theorem eqGram_l (x : Gm) (a0 b0 : Option Addr) (c0 d0 : Nat) (w : World) (h0 : RD w (.slice a0 x.parts.length c0) (slD (Lay.list (Lay.list Lay.int)) x.parts)) (g0 : RD w (.slice b0 x.parts.length d0) (slD (Lay.list (Lay.list Lay.int)) x.parts)) (hn : Lay.gram.wt x ≤ 4194304) :
    Calls Tryd.prog 11 #[.agg #[.slice a0 x.parts.length c0], .agg #[.slice b0 x.parts.length d0]] w fun e w' => e = .returned (.bool true) ∧ Below w.heap.size w w' := by
  rw [Lay_gram_wt] at hn
  have B := ((Below.refl w.heap.size w).alloc (Nat.le_refl _) (.cells #[.slice a0 x.parts.length c0] 28)).alloc (by simp) (.cells #[.slice b0 x.parts.length d0] 28)
  have X : Hid (∀ W : World, Below w.heap.size w W → Calls Tryd.prog 25 #[.slice a0 x.parts.length c0, .slice b0 x.parts.length d0] W fun e w' => e = .returned (.bool true) ∧ Below W.heap.size W w') :=
    fun W hW => eqIntSSS_l x.parts a0 b0 c0 d0 W (h0.later hW) (g0.later hW) hn
  clear h0 g0 hn
  generalize x.parts = y at *
  go_enter Tryd.func11, Tryd.ntmps11
  go_wp2_with fail
  refine (X.out _ B).mono ?_
  rintro e w1 ⟨rfl, hb⟩
  go_wp2
  go_ret
  exact ⟨rfl, B.trans (hb.mono B.size)⟩

set_option maxRecDepth 100000 in
theorem szGram_l (x : Gm) (a0 : Option Addr) (c0 : Nat) (l : Int) (w : World) (h0 : RD w (.slice a0 x.parts.length c0) (slD (Lay.list (Lay.list Lay.int)) x.parts)) (hf : Lay.gram.fit x) (hl0 : 0 ≤ l) (hl1 : l ≤ 1048576) :
    Calls Tryd.prog 5 #[.agg #[.slice a0 x.parts.length c0], .int .i64 l] w fun e w' => ∃ r, e = .returned (.int .i64 r) ∧ SzE (Lay.gram.wt x) l r ∧ Below w.heap.size w w' := by
  rw [Lay_gram_wt]
  rw [Lay_gram_fit] at hf
  have B := (Below.refl w.heap.size w).alloc (Nat.le_refl _) (.cells #[.slice a0 x.parts.length c0] 24)
  have X : Hid (∀ W : World, Below w.heap.size w W → Calls Tryd.prog 20 #[.slice a0 x.parts.length c0, .int .i64 l] W fun e w' => ∃ r, e = .returned (.int .i64 r) ∧ SzE ((Lay.list (Lay.list (Lay.list Lay.int))).wt x.parts) l r ∧ Below W.heap.size W w') :=
    fun W hW => szIntSSS_l x.parts a0 c0 l W (h0.later hW) hf hl0 hl1
  clear h0 hf
  generalize (Lay.list (Lay.list (Lay.list Lay.int))).wt x.parts = wk at *
  generalize x.parts = y at *
  go_enter Tryd.func5, Tryd.ntmps5
  go_wp2_with fail
  refine (X.out _ B).mono ?_
  rintro e w1 ⟨r, rfl, hr, hb⟩
  have B1 := B.trans (hb.mono B.size)
  clear X
  rcases hr with rfl | ⟨hr0, hr1⟩
  · go_wp2
    go_ret
    exact ⟨_, rfl, .inl rfl, B1⟩
  · have HR : Hid (r = l - wk) := hr1
    clear hr1
    go_wp2
    go_ret
    exact ⟨_, rfl, .inr ⟨hr0, HR.out⟩, B1⟩

set_option maxRecDepth 100000 in
theorem toGram_l (x : Gm) (a0 : Option Addr) (c0 : Nat) (w : World) (h0 : RD w (.slice a0 x.parts.length c0) (slD (Lay.list (Lay.list Lay.int)) x.parts)) (hn : Lay.gram.wt x ≤ 1048576) :
    Calls Tryd.prog 7 #[.agg #[.slice a0 x.parts.length c0]] w fun e w' => ∃ a1 c1 S, e = .returned (.agg #[.slice a1 x.parts.length c1]) ∧ Cells w' w.heap.size [.slice a1 x.parts.length c1] (Lay.gram.cells x) S ∧ Below w.heap.size w w' := by
  show Calls _ _ _ _ fun e w' => ∃ a1 c1 S, e = .returned (.agg #[.slice a1 x.parts.length c1]) ∧ Cells w' w.heap.size [.slice a1 x.parts.length c1] [slD (Lay.list (Lay.list Lay.int)) x.parts] S ∧ Below w.heap.size w w'
  rw [Lay_gram_wt] at hn
  have X : Hid (∀ W : World, Below w.heap.size w W → Calls Tryd.prog 22 #[.slice a0 x.parts.length c0] W fun e w' => ∃ v S, e = .returned v ∧ OD w' W.heap.size v (slD (Lay.list (Lay.list Lay.int)) x.parts) S ∧ Below W.heap.size W w') :=
    fun W hW => toIntSSS_l x.parts a0 c0 W (h0.later hW) hn
  clear h0 hn
  generalize x.parts = y at *
  have B : Below w.heap.size w (((w.alloc (.cells #[.slice a0 y.length c0] 24)).alloc (.cells #[.slice none 0 0] 28)).alloc (.cells #[.slice none 0 0] 28)) :=
    (((Below.refl _ _).alloc (Nat.le_refl _) _).alloc (by simp) _).alloc (by simp; omega) _
  go_enter Tryd.func7, Tryd.ntmps7
  go_wp2_with fail
  refine (X.out _ B).mono ?_
  rintro e w1 ⟨v, S, rfl, O1, hb1⟩
  obtain ⟨hc, hf⟩ := bcellH hb1
  have hz := hb1.size
  simp only [World.size_alloc] at hc hf hz
  have B1 := B.trans (hb1.mono B.size)
  obtain ⟨a1, c1, rfl, _⟩ := OD.shapeL O1
  clear X B hb1
  go_wp2
  refine bodyPost_ret (v := .agg #[.slice a1 y.length c1]) (by simp [results, Tryd.results7, go_sem, hc]) rfl ⟨a1, c1, S, rfl, ?_, ?_⟩
  · have hW : Within w1 ((w1.setCell ⟨w.heap.size + 1 + 1, 0, none⟩ (.slice a1 y.length c1)).setCell ⟨w.heap.size + 1, 0, none⟩ (.slice a1 y.length c1)) (fun k => k < w.heap.size + 1 + 1 + 1) :=
      ((Within.refl _ _).setCell _ _ (by simp)).setCell _ _ (by simp)
    refine Cells.last [] ((O1.kept hW (fun k hk hk2 => ?_)).base (by simp; omega))
    have := (O1.lt k hk).1
    simp at this
    omega
  · exact (B1.setCell (p := ⟨w.heap.size + 1 + 1, 0, none⟩) (by simp; omega) _).setCell (p := ⟨w.heap.size + 1, 0, none⟩) (by simp) _

end Go.Proofs.YthnppodnjokaoaaDoor
namespace Go.Proofs.YthnppodnjokaoaaDoor
open Go.RowKit

set_option maxRecDepth 100000 in
theorem l9Symbol_any (x : Nd) (a : Option Addr) (c : Nat) (w : World) :
    Calls Tryd.prog 56 #[.agg #[.int .i64 x.kind, .int .i64 x.sym, .int .i64 x.alt, .int .i64 x.pl, .slice a x.kids.length c]] w fun e w' => e = .returned (.int .i64 (symNd x)) ∧ Below w.heap.size w w' := by
  unfold symNd
  generalize x.kind = kd at *
  by_cases h : kd = 1
  · subst h
    go_enter Tryd.func56, Tryd.ntmps56
    go_wp2
    go_ret
    exact ⟨rfl, (Below.refl _ _).alloc (Nat.le_refl _) _⟩
  · have hk : (kd == 1) = false := by simpa using h
    rw [if_neg h]
    go_enter Tryd.func56, Tryd.ntmps56
    go_wp2
    go_ret
    exact ⟨rfl, (Below.refl _ _).alloc (Nat.le_refl _) _⟩
set_option maxRecDepth 100000 in
theorem symbolOf_any (x : Nd) (a : Option Addr) (c : Nat) (w : World) :
    Calls Tryd.prog 86 #[.agg #[.int .i64 x.kind, .int .i64 x.sym, .int .i64 x.alt, .int .i64 x.pl, .slice a x.kids.length c]] w fun e w' => e = .returned (.int .i64 (symNd x)) ∧ Below w.heap.size w w' := by
  unfold symNd
  generalize x.kind = kd at *
  by_cases h : kd = 1
  · subst h
    go_enter Tryd.func86, Tryd.ntmps86
    go_wp2
    go_ret
    exact ⟨rfl, (Below.refl _ _).alloc (Nat.le_refl _) _⟩
  · have hk : (kd == 1) = false := by simpa using h
    rw [if_neg h]
    go_enter Tryd.func86, Tryd.ntmps86
    go_wp2
    go_ret
    exact ⟨rfl, (Below.refl _ _).alloc (Nat.le_refl _) _⟩

set_option maxRecDepth 100000 in
theorem hasAlt_any (P : List (List (List Int))) (a0 : Option Addr) (c0 : Nat) (k al : Int) (w : World) (h0 : RD w (.slice a0 P.length c0) (slD (Lay.list (Lay.list Lay.int)) P)) :
    Calls Tryd.prog 83 #[.agg #[.slice a0 P.length c0], .int .i64 k, .int .i64 al] w fun e w' => e = .returned (.bool (altB P k al)) ∧ Below w.heap.size w w' := by
  have B0 : Below w.heap.size w (w.alloc (.cells #[.slice a0 P.length c0] 28)) := (Below.refl _ _).alloc (Nat.le_refl _) _
  unfold altB
  by_cases h1 : 0 ≤ k
  · obtain ⟨kn, rfl⟩ := Int.eq_ofNat_of_zero_le h1
    by_cases h2 : kn < P.length
    · obtain ⟨b1, o1, rfl, hb1, a1, c1, p1, r1⟩ := h0.listAt h2
      have p1' := (B0.cell (p := ⟨b1, _, none⟩) hb1).trans p1
      have h2I : (kn : Int) < (P.length : Int) := by omega
      have e : P.getD ((kn : Int)).toNat [] = P[kn] := by simp [List.getD, h2]
      rw [e]
      clear r1 p1 h0 e
      generalize P[kn] = Q at *
      by_cases h3 : 0 ≤ al
      · rw [decide_eq_true h1, decide_eq_true h2I, decide_eq_true h3]
        by_cases h4 : al < (Q.length : Int)
        · rw [decide_eq_true h4]
          go_enter Tryd.func83, Tryd.ntmps83
          go_wp2
          go_ret
          exact ⟨rfl, B0⟩
        · rw [decide_eq_false h4]
          go_enter Tryd.func83, Tryd.ntmps83
          go_wp2
          go_ret
          exact ⟨rfl, B0⟩
      · rw [decide_eq_false h3]
        clear p1'
        go_enter Tryd.func83, Tryd.ntmps83
        go_wp2
        go_ret
        exact ⟨by simp, B0⟩
    · have h2I : ¬ (kn : Int) < (P.length : Int) := by omega
      rw [decide_eq_false h2I]
      clear h0
      go_enter Tryd.func83, Tryd.ntmps83
      go_wp2
      go_ret
      exact ⟨by simp, B0⟩
  · rw [decide_eq_false h1]
    clear h0
    go_enter Tryd.func83, Tryd.ntmps83
    go_wp2
    go_ret
    exact ⟨by simp, B0⟩
end Go.Proofs.YthnppodnjokaoaaDoor
namespace Go.Proofs.YthnppodnjokaoaaDoor
open Go.RowKit

set_option maxRecDepth 100000 in
theorem isOneOf1_any (ns : List Nd) (a0 : Option Addr) (c0 : Nat) (k : Nat) (z : Int) (Bt : Nat) (w : World) (h0 : RD w (.slice a0 ns.length c0) (slD Lay.node ns)) (ht : w.cell? ⟨Bt, 0, none⟩ = some (.slice a0 ns.length c0)) (hk : k < ns.length) :
    Calls Tryd.prog 85 #[.int .i64 (k : Int), .int .i64 z, .pointer (some ⟨Bt, 0, none⟩)] w fun e w' => e = .returned (.bool (symNd (ndAt ns k) == z)) ∧ Below w.heap.size w w' := by
  obtain ⟨b1, o1, rfl, hb1, ⟨p0, p1, p2, p3⟩, a1, c1, p4, r1⟩ := h0.atNode hk
  have hkI : (k : Int) < (ns.length : Int) := by omega
  have X := symbolOf_any ns[k] a1 c1 w
  rw [ndAt_get hk]
  clear r1 h0
  generalize ns[k] = y at *
  generalize symNd y = sy at *
  go_enter Tryd.func85, Tryd.ntmps85
  go_wp2_with (go_at_call 86; refine X.mono ?_; rintro e w1 ⟨rfl, hb1⟩)
  go_ret
  exact ⟨rfl, by first | assumption | exact hb1⟩

set_option maxHeartbeats 1000000 in
set_option maxRecDepth 100000 in
theorem equalFunc_any (ns : List Nd) (a0 : Option Addr) (c0 : Nat) (xs ys : List Int) (ax ay : Option Addr) (cx cy : Nat) (Bt : Nat) (w : World) (h0 : RD w (.slice a0 ns.length c0) (slD Lay.node ns)) (ht : w.cell? ⟨Bt, 0, none⟩ = some (.slice a0 ns.length c0)) (hB : Bt < w.heap.size) (hx : Reads w ax xs) (hy : Reads w ay ys) (hl : xs.length ≤ 1048576) (hk : ∀ z ∈ xs, ∃ k : Nat, z = k ∧ k < ns.length) :
    Calls Tryd.prog 84 #[.slice ax xs.length cx, .slice ay ys.length cy, .func (.func 85) #[] #[.pointer (some ⟨Bt, 0, none⟩)]] w fun e w' => e = .returned (.bool (decide (xs.map (fun k => symNd (ndAt ns k.toNat)) = ys))) ∧ Below w.heap.size w w' := by
  have HC : Hid (∀ (k : Nat) (z : Int) (W : World), k < ns.length → Below w.heap.size w W → Calls Tryd.prog 85 #[.int .i64 (k : Int), .int .i64 z, .pointer (some ⟨Bt, 0, none⟩)] W fun e w' => e = .returned (.bool (symNd (ndAt ns k) == z)) ∧ Below W.heap.size W w') := fun k z W hk hW => isOneOf1_any ns a0 c0 k z Bt W (h0.later hW) ((hW.cell (p := ⟨Bt, 0, none⟩) hB).trans ht) hk
  have HX : Hid (Reads w ax xs) := hx
  have HY : Hid (Reads w ay ys) := hy
  have HK : Hid (∀ z ∈ xs, ∃ k : Nat, z = k ∧ k < ns.length) := hk
  obtain ⟨f, hf⟩ : ∃ f : Int → Int, f = fun k => symNd (ndAt ns k.toNat) := ⟨_, rfl⟩
  have HF : Hid (∀ k : Nat, symNd (ndAt ns k) = f k) := fun k => by rw [hf]; simp
  rw [← hf]
  clear hx hy hk h0 ht hf
  by_cases hne : xs.length = ys.length
  · have hneI : ((xs.length : Int) != (ys.length : Int)) = false := by simp; omega
    obtain ⟨R, HR⟩ : ∃ R, Hid (decide (xs.map f = ys) = R) := ⟨_, rfl⟩
    rw [HR.out]
    have HNE : Hid (∀ i (h1 : i < xs.length) (h2 : i < ys.length), f xs[i] ≠ ys[i] → R = false) := fun i h1 h2 h => by
      rw [← HR.out]
      refine decide_eq_false (fun e => h ?_)
      have : (xs.map f)[i]? = ys[i]? := by rw [e]
      rw [List.getElem?_map, List.getElem?_eq_getElem h1, List.getElem?_eq_getElem h2] at this
      simpa using this
    have HEQ : Hid ((∀ i (h1 : i < xs.length) (h2 : i < ys.length), f xs[i] = ys[i]) → R = true) := fun h => by
      rw [← HR.out]
      refine decide_eq_true (List.ext_getElem (by simpa using hne) (fun i h1 h2 => ?_))
      rw [List.getElem_map]
      exact h i (by simpa using h1) h2
    have HI0 : Hid (∀ i (h1 : i < xs.length) (h2 : i < ys.length), i < 0 → f xs[i] = ys[i]) := fun i _ _ h => by omega
    have HLE : Hid (xs.length = ys.length) := hne
    clear HR hne
    go_enter Tryd.func84, Tryd.ntmps84
    go_wp2
    go_loopw [17] (fun u17 wr => ∃ j : Nat, j ≤ xs.length ∧ u17 = .int .i64 (j : Int) ∧ Hid (Below w.heap.size w wr) ∧ Hid (∀ i (h1 : i < xs.length) (h2 : i < ys.length), i < j → f xs[i] = ys[i])) (fun u17 _ => xs.length - (intOf u17).toNat)
    case atStart => exact ⟨0, Nat.zero_le _, rfl, Below.refl _ _, HI0⟩
    case round =>
      obtain ⟨j, hj, rfl, HB, HI⟩ := hrel
      obtain ⟨wA, hwA⟩ : ∃ y, y = wr := ⟨_, rfl⟩
      subst hwA
      clear HI0
      have hsz := HB.out.size
      by_cases hlt : j < xs.length
      · have hlt2 : j < ys.length := by have := HLE.out; omega
        obtain ⟨b1, o1, rfl, hb1, hc1⟩ := HX.out.at hlt
        obtain ⟨b2, o2, rfl, hb2, hc2⟩ := HY.out.at hlt2
        have q1' := hc1 j hlt
        have q2' := hc2 j hlt2
        rw [List.getD_eq_getElem?_getD, List.getElem?_eq_getElem hlt, Option.getD_some] at q1'
        rw [List.getD_eq_getElem?_getD, List.getElem?_eq_getElem hlt2, Option.getD_some] at q2'
        have q1 := (HB.out.cell (p := ⟨b1, o1 + j, none⟩) hb1).trans q1'
        have q2 := (HB.out.cell (p := ⟨b2, o2 + j, none⟩) hb2).trans q2'
        obtain ⟨k, hk, hkn⟩ := HK.out xs[j] (List.getElem_mem hlt)
        have HN := HNE.out j hlt hlt2
        rw [hk] at q1 HN
        have X := HC.out k ys[j] wA hkn HB.out
        have HFk := HF.out k
        rw [HFk] at X
        have hltI : (j : Int) < (xs.length : Int) := by omega
        have hlt2I : (j : Int) < (ys.length : Int) := by omega
        have HST : Hid (f (k : Int) = ys[j] → ∀ i (h1 : i < xs.length) (h2 : i < ys.length), i < j + 1 → f xs[i] = ys[i]) := fun h i h1 h2 hi => by
          by_cases e : i = j
          · subst e; rw [hk]; exact h
          · exact HI.out i h1 h2 (by omega)
        clear q1' q2' hc1 hc2 hk HFk HX HY HNE HEQ HI HC HK HF
        generalize ys[j] = z at *
        generalize f (k : Int) = fk at *
        by_cases he : fk = z
        · have HS := HST.out he
          rw [beq_iff_eq.2 he] at X
          clear HN HST
          have HS2 : Hid (∀ i (h1 : i < xs.length) (h2 : i < ys.length), i < j + 1 → f xs[i] = ys[i]) := HS
          clear HS
          go_wp2_with fail
          refine X.mono ?_
          rintro e w5 ⟨rfl, hb5⟩
          have HB5 : Hid (Below w.heap.size w w5) := HB.out.trans (hb5.mono hsz)
          clear HB hb5 X q1 q2
          go_wp2
          go_roundw
          case rel => exact ⟨j + 1, by omega, by go_num, HB5, HS2⟩
          case measure => simp [intOf]; omega
        · have HR : Hid (R = false) := HN he
          have hbf : (fk == z) = false := by simpa using he
          rw [hbf] at X
          clear HN HST
          go_wp2_with fail
          refine X.mono ?_
          rintro e w5 ⟨rfl, hb5⟩
          have HB5 : Hid (Below w.heap.size w w5) := HB.out.trans (hb5.mono hsz)
          clear HB hb5 X q1 q2
          go_wp2
          go_ret
          rw [HR.out]
          exact ⟨rfl, HB5.out⟩
      · have HR : Hid (R = true) := HEQ.out (fun i h1 h2 => HI.out i h1 h2 (by omega))
        have hltI : ¬ (j : Int) < (xs.length : Int) := by omega
        clear HX HY HNE HEQ HI HC HK HF
        go_wp2
        go_ret
        rw [HR.out]
        exact ⟨rfl, HB.out⟩
  · have hneI : ((xs.length : Int) != (ys.length : Int)) = true := by simp; omega
    have hr : decide (xs.map f = ys) = false := decide_eq_false (fun e => hne (by rw [← e, List.length_map]))
    rw [hr]
    clear HX HY
    go_enter Tryd.func84, Tryd.ntmps84
    go_wp2
    go_ret
    exact ⟨rfl, Below.refl _ _⟩
end Go.Proofs.YthnppodnjokaoaaDoor
namespace Go.Proofs.YthnppodnjokaoaaDoor
open Go.RowKit

/-- What GramOk answers. -/
def resGramOk (x : Gm) : Bool := gramOkB x.parts

set_option maxHeartbeats 1000000 in
set_option maxRecDepth 100000 in
theorem specGramOk_any (x : Gm) (a0 : Option Addr) (c0 : Nat) (w : World) (h0 : RD w (.slice a0 x.parts.length c0) (slD (Lay.list (Lay.list Lay.int)) x.parts)) (hn : Lay.gram.wt x ≤ 1048576) (_ : Lay.gram.fit x) :
    Calls Tryd.prog 51 #[.agg #[.slice a0 x.parts.length c0]] w fun e w' => e = .returned (.bool (resGramOk x)) ∧ Below w.heap.size w w' := by
  unfold resGramOk
  rw [Lay_gram_wt, Lay.wt_list] at hn
  have B := (Below.refl w.heap.size w).alloc (Nat.le_refl _) (.cells #[.slice a0 x.parts.length c0] 28)
  have HR : Hid (RD (w.alloc (.cells #[.slice a0 x.parts.length c0] 28)) (.slice a0 x.parts.length c0) (slD (Lay.list (Lay.list Lay.int)) x.parts)) := h0.later B
  clear h0
  generalize x.parts = P at *
  by_cases hbig : inB P.length 1 20 = true
  · have hb2 := inB_true.1 hbig
    go_enter Tryd.func51, Tryd.ntmps51
    go_wp2_with (first | (go_at_call 41; refine (l1In_any _ _ _ _).mono ?_; rintro e w' ⟨rfl, rfl⟩))
    go_loop [4] (fun s4 => ∃ k : Nat, k ≤ P.length ∧ s4 = .int .i64 k ∧ Hid ((P.take k).all (partOk P.length) = true)) (fun s4 => P.length - (intOf s4).toNat)
    case atStart => exact ⟨0, Nat.zero_le _, rfl, by show _ = _; simp⟩
    case round =>
      obtain ⟨k, hk, rfl, HK⟩ := hrel
      by_cases hlt : k < P.length
      · obtain ⟨b1, o1, rfl, hb1, a1, c1, q0, r1⟩ := HR.out.listAt hlt
        have HR1 : Hid (RD (w.alloc (.cells #[.slice (some ⟨b1, o1, none⟩) P.length c0] 28)) (.slice a1 P[k].length c1) (slD (Lay.list Lay.int) P[k])) := r1
        have hw1 : P[k].length ≤ 4194304 := by have := Lay.sumL_at (Lay.list (Lay.list Lay.int)) hlt; rw [Lay.wt_list] at this; omega
        have HKs : Hid (partOk P.length P[k] = true → (P.take (k + 1)).all (partOk P.length) = true) := fun g => all_step HK.out hlt g
        have HKn : Hid (partOk P.length P[k] = false → gramOkB P = false) := fun g => gramOkB_no (all_no hlt g)
        clear r1 HR HK
        generalize P[k] = Q at *
        by_cases hq : inB Q.length 1 8 = true
        · have hq2 := inB_true.1 hq
          go_wp2_with (first | (go_at_call 41; refine (l1In_any _ _ _ _).mono ?_; rintro e w' ⟨rfl, rfl⟩))
          go_loop [5] (fun s5 => ∃ i : Nat, i ≤ Q.length ∧ s5 = .int .i64 i ∧ Hid ((Q.take i).all (rowOk P.length) = true)) (fun s5 => Q.length - (intOf s5).toNat)
          case atStart => exact ⟨0, Nat.zero_le _, rfl, by show _ = _; simp⟩
          case round =>
            obtain ⟨i, hi, rfl, HI⟩ := hrel
            by_cases hlt2 : i < Q.length
            · obtain ⟨b2, o2, rfl, hb2', a2, c2, q1, r2⟩ := HR1.out.listAt hlt2
              have R2 : Hid (Reads (w.alloc (.cells #[.slice (some ⟨b1, o1, none⟩) P.length c0] 28)) a2 Q[i]) := r2.reads
              have HIs : Hid (rowOk P.length Q[i] = true → (Q.take (i + 1)).all (rowOk P.length) = true) := fun g => all_step HI.out hlt2 g
              have HIn : Hid (rowOk P.length Q[i] = false → gramOkB P = false) := fun g => HKn.out (partOk_no (all_no hlt2 g))
              clear r2 HR1 HI
              generalize Q[i] = R at *
              by_cases hr : R.length ≤ 8
              · go_wp2
                go_loop [7] (fun s7 => ∃ j : Nat, j ≤ R.length ∧ s7 = .int .i64 j ∧ Hid ((R.take j).all (symOk P.length) = true)) (fun s7 => R.length - (intOf s7).toNat)
                case atStart => exact ⟨0, Nat.zero_le _, rfl, by show _ = _; simp⟩
                case round =>
                  obtain ⟨j, hj, rfl, HJ⟩ := hrel
                  by_cases hlt3 : j < R.length
                  · obtain ⟨b3, o3, rfl, hb3, q2'⟩ := R2.out.at hlt3
                    have q2 := q2' j hlt3
                    rw [List.getD_eq_getElem?_getD, List.getElem?_eq_getElem hlt3, Option.getD_some] at q2
                    have HJs : Hid (symOk P.length R[j] = true → (R.take (j + 1)).all (symOk P.length) = true) := fun g => all_step HJ.out hlt3 g
                    have HJn : Hid (symOk P.length R[j] = false → gramOkB P = false) := fun g => HIn.out (rowOk_no (all_no hlt3 g))
                    clear q2' R2 HJ
                    generalize R[j] = z at *
                    by_cases z1 : inB z 0 25 = true
                    · go_wp2_with (first | (go_at_call 41; refine (l1In_any _ _ _ _).mono ?_; rintro e w' ⟨rfl, rfl⟩))
                      go_round
                      case rel => exact ⟨j + 1, by omega, by go_num, HJs.out (by simp [symOk, z1])⟩
                      case measure => simp [intOf]; omega
                    · have z1' : inB z 0 25 = false := by simpa using z1
                      clear z1
                      by_cases z2 : inB z 100 (100 + P.length - 1) = true
                      · go_wp2_with (first | (go_at_call 41; refine (l1In_any _ _ _ _).mono ?_; rintro e w' ⟨rfl, rfl⟩))
                        go_round
                        case rel => exact ⟨j + 1, by omega, by go_num, HJs.out (by simp [symOk, z2])⟩
                        case measure => simp [intOf]; omega
                      · have z2' : inB z 100 (100 + P.length - 1) = false := by simpa using z2
                        clear z2
                        go_wp2_with (first | (go_at_call 41; refine (l1In_any _ _ _ _).mono ?_; rintro e w' ⟨rfl, rfl⟩))
                        go_ret
                        exact ⟨ret_bool (by rw [HJn.out (by simp [symOk, z1', z2'])]), B⟩
                  · have HE : Hid (R.all (symOk P.length) = true) := all_end HJ.out hlt3
                    clear R2 HJ
                    go_wp2
                    go_round
                    case rel => exact ⟨i + 1, by omega, by go_num, HIs.out (rowOk_yes hr HE.out)⟩
                    case measure => simp [intOf]; omega
              · go_wp2
                go_ret
                exact ⟨ret_bool (by rw [HIn.out (rowOk_long hr)]), B⟩
            · have HE : Hid (Q.all (rowOk P.length) = true) := all_end HI.out hlt2
              clear HR1 HI
              go_wp2
              go_round
              case rel => exact ⟨k + 1, by omega, by go_num, HKs.out (partOk_yes hq HE.out)⟩
              case measure => simp [intOf]; omega
        · have hq2 : inB Q.length 1 8 = false := by simpa using hq
          clear hq
          go_wp2_with (first | (go_at_call 41; refine (l1In_any _ _ _ _).mono ?_; rintro e w' ⟨rfl, rfl⟩))
          go_ret
          exact ⟨ret_bool (by rw [HKn.out (partOk_many hq2)]), B⟩
      · have HE : Hid (P.all (partOk P.length) = true) := all_end HK.out hlt
        clear HR HK
        go_wp2
        go_ret
        exact ⟨ret_bool (by rw [gramOkB_yes hbig HE.out]), B⟩
  · have hb2 : inB P.length 1 20 = false := by simpa using hbig
    clear hbig
    go_enter Tryd.func51, Tryd.ntmps51
    go_wp2_with (first | (go_at_call 41; refine (l1In_any _ _ _ _).mono ?_; rintro e w' ⟨rfl, rfl⟩))
    go_ret
    exact ⟨ret_bool (by rw [gramOkB_many hb2]), B⟩
end Go.Proofs.YthnppodnjokaoaaDoor
namespace Go.Proofs.YthnppodnjokaoaaDoor
open Go.RowKit

theorem wf_i64 {z : Int} (h : (Lit.int .i64 z).wf = true) : -9223372036854775808 ≤ z ∧ z ≤ 9223372036854775807 := bounds_i64 h
theorem fit_ints {zs : List Int} (h : (Lay.list Lay.int).fit zs) : ∀ z ∈ zs, -9223372036854775808 ≤ z ∧ z ≤ 9223372036854775807 := fun z hz => wf_i64 (h.2 z hz)
theorem part_upto {n : Nat} {x : Int} : inB x 100 (100 + n - 1) = decide (100 ≤ x ∧ x - 100 < n) := by
  rw [Bool.eq_iff_iff]; simp [inB]; omega

theorem isLetter_any (x : Int) (w : World) : Calls Tryd.prog 79 #[.int .i64 x] w fun e w' => e = .returned (.bool (inB x 0 25)) ∧ w' = w := by
  by_cases h1 : 0 ≤ x
  · by_cases h2 : x ≤ 25
    · go_enter Tryd.func79, Tryd.ntmps79
      go_wp2
      go_ret
      exact ⟨ret_bool (by simp [inB, h1, h2]), rfl⟩
    · go_enter Tryd.func79, Tryd.ntmps79
      go_wp2
      go_ret
      exact ⟨ret_bool (by simp [inB, h1, h2]), rfl⟩
  · go_enter Tryd.func79, Tryd.ntmps79
    go_wp2
    go_ret
    exact ⟨ret_bool (by simp [inB]; omega), rfl⟩

theorem isPartOf_any (n : Nat) (a : Option Addr) (c : Nat) (x : Int) (w : World) (hx : x ≤ 9223372036854775807) (_ : n ≤ 1048576) :
    Calls Tryd.prog 106 #[.agg #[.slice a n c], .int .i64 x] w fun e w' => e = .returned (.bool (inB x 100 (100 + n - 1))) ∧ Below w.heap.size w w' := by
  have B := (Below.refl w.heap.size w).alloc (Nat.le_refl _) (.cells #[.slice a n c] 28)
  rw [part_upto]
  by_cases h1 : 100 ≤ x
  · by_cases h2 : x - 100 < n
    · go_enter Tryd.func106, Tryd.ntmps106
      go_wp2
      go_ret
      exact ⟨ret_bool (decide_eq_true ⟨h1, h2⟩).symm, B⟩
    · go_enter Tryd.func106, Tryd.ntmps106
      go_wp2
      go_ret
      exact ⟨ret_bool (decide_eq_false (fun h => by omega)).symm, B⟩
  · go_enter Tryd.func106, Tryd.ntmps106
    go_wp2
    go_ret
    exact ⟨ret_bool (by simp; intro h; omega), B⟩

set_option maxRecDepth 100000 in
theorem symbolsOf_any (n : Nat) (a : Option Addr) (c : Nat) (zs : List Int) (a1 : Option Addr) (c1 : Nat) (w : World) (h : Reads w a1 zs) (hn : n ≤ 1048576) (hl : zs.length ≤ 1048576) (hz : ∀ z ∈ zs, -9223372036854775808 ≤ z ∧ z ≤ 9223372036854775807) :
    Calls Tryd.prog 96 #[.agg #[.slice a n c], .slice a1 zs.length c1] w fun e w' => e = .returned (.bool (zs.all (symOk n))) ∧ Below w.heap.size w w' := by
  have HZ : Hid (∀ z ∈ zs, -9223372036854775808 ≤ z ∧ z ≤ 9223372036854775807) := hz
  have B0 := (Below.refl w.heap.size w).alloc (Nat.le_refl _) (.cells #[.slice a n c] 28)
  have q0 : (w.alloc (.cells #[.slice a n c] 28)).cell? ⟨w.heap.size, 0, none⟩ = some (.slice a n c) := by simp
  clear hz
  go_enter Tryd.func96, Tryd.ntmps96
  go_wp2
  go_loopw [9] (fun s9 wr => ∃ k : Nat, k ≤ zs.length ∧ s9 = .int .i64 k ∧ Hid ((zs.take k).all (symOk n) = true) ∧ Below w.heap.size w wr ∧ wr.cell? ⟨w.heap.size, 0, none⟩ = some (.slice a n c)) (fun s9 _ => zs.length - (intOf s9).toNat)
  case atStart => exact ⟨0, Nat.zero_le _, rfl, by show _ = _; simp, B0, q0⟩
  case round =>
    obtain ⟨k, hk, rfl, HK, hbel, qk⟩ := hrel
    clear q0 B0
    have hwl : w.heap.size < wr.heap.size := World.block_lt_of_cell? wr _ qk
    by_cases hlt : k < zs.length
    · obtain ⟨b, off, rfl, hb, hc⟩ := (h.below hbel).at hlt
      have q1 := hc k hlt
      rw [List.getD_eq_getElem?_getD, List.getElem?_eq_getElem hlt, Option.getD_some] at q1
      have hr := (HZ.out zs[k] (List.getElem_mem hlt)).2
      have HS : Hid (symOk n zs[k] = true → (zs.take (k + 1)).all (symOk n) = true) := fun g => all_step HK.out hlt g
      have HN : Hid (symOk n zs[k] = false → zs.all (symOk n) = false) := fun g => all_no hlt g
      clear hc h HK
      generalize zs[k] = z at *
      by_cases z1 : inB z 0 25 = true
      · go_wp2_with (go_at_call 79; refine (isLetter_any _ _).mono ?_; rintro e w' ⟨rfl, rfl⟩)
        go_roundw
        case rel => exact ⟨k + 1, by omega, by go_num, HS.out (by simp [symOk, z1]), hbel, qk⟩
        case measure => simp [intOf]; omega
      · have z1' : inB z 0 25 = false := by simpa using z1
        clear z1
        by_cases z2 : inB z 100 (100 + n - 1) = true
        · go_wp2_with (first | (go_at_call 79; refine (isLetter_any _ _).mono ?_; rintro e w' ⟨rfl, rfl⟩) | (go_at_call 106; refine (isPartOf_any n a c _ _ hr hn).mono ?_; rintro e w1 ⟨rfl, hb1⟩))
          go_roundw
          case rel => exact ⟨k + 1, by omega, by go_num, HS.out (by simp [symOk, z2]), hbel.trans (hb1.mono hbel.size), (hb1.cell (p := ⟨w.heap.size, 0, none⟩) hwl).trans qk⟩
          case measure => simp [intOf]; omega
        · have z2' : inB z 100 (100 + n - 1) = false := by simpa using z2
          clear z2
          go_wp2_with (first | (go_at_call 79; refine (isLetter_any _ _).mono ?_; rintro e w' ⟨rfl, rfl⟩) | (go_at_call 106; refine (isPartOf_any n a c _ _ hr hn).mono ?_; rintro e w1 ⟨rfl, hb1⟩))
          go_ret
          exact ⟨ret_bool (by rw [HN.out (by simp [symOk, z1', z2'])]), hbel.trans (hb1.mono hbel.size)⟩
    · have HE : Hid (zs.all (symOk n) = true) := all_end HK.out hlt
      clear h HK
      go_wp2
      go_ret
      exact ⟨ret_bool (by rw [HE.out]), hbel⟩

set_option maxRecDepth 100000 in
theorem altsOk_any (n : Nat) (a : Option Addr) (c : Nat) (Q : List (List Int)) (a1 : Option Addr) (c1 : Nat) (w : World) (h : RD w (.slice a1 Q.length c1) (slD (Lay.list Lay.int) Q)) (hn : n ≤ 1048576) (hl : (Lay.list (Lay.list Lay.int)).wt Q ≤ 1048576) (hf : (Lay.list (Lay.list Lay.int)).fit Q) :
    Calls Tryd.prog 94 #[.agg #[.slice a n c], .slice a1 Q.length c1] w fun e w' => e = .returned (.bool (partOk n Q)) ∧ Below w.heap.size w w' := by
  have HF : Hid ((Lay.list (Lay.list Lay.int)).fit Q) := hf
  have HL : Hid (∀ row ∈ Q, row.length ≤ 1048576) := by
    intro row hrow
    obtain ⟨i, hi, rfl⟩ := List.getElem_of_mem hrow
    have := Lay.sumL_at (Lay.list Lay.int) hi
    rw [Lay.wt_list] at hl
    rw [Lay.wt_ints] at this
    omega
  rw [Lay.wt_list] at hl
  have hq : Q.length ≤ 1048576 := by omega
  clear hf hl
  by_cases hbig : inB Q.length 1 8 = true
  · have hb2 := inB_true.1 hbig
    have B0 := (Below.refl w.heap.size w).alloc (Nat.le_refl _) (.cells #[.slice a n c] 28)
    have q0 : (w.alloc (.cells #[.slice a n c] 28)).cell? ⟨w.heap.size, 0, none⟩ = some (.slice a n c) := by simp
    go_enter Tryd.func94, Tryd.ntmps94
    go_wp2
    go_loopw [17] (fun s wr => ∃ k : Nat, k ≤ Q.length ∧ s = .int .i64 k ∧ Hid ((Q.take k).all (rowOk n) = true) ∧ Below w.heap.size w wr ∧ wr.cell? ⟨w.heap.size, 0, none⟩ = some (.slice a n c)) (fun s _ => Q.length - (intOf s).toNat)
    case atStart => exact ⟨0, Nat.zero_le _, rfl, by show _ = _; simp, B0, q0⟩
    case round =>
      obtain ⟨k, hk, rfl, HK, hbel, qk⟩ := hrel
      clear q0 B0
      have hwl : w.heap.size < wr.heap.size := World.block_lt_of_cell? wr _ qk
      by_cases hlt : k < Q.length
      · obtain ⟨b, off, rfl, hb, a2, c2, q1, r2⟩ := (h.later hbel).listAt hlt
        have hrl := HL.out Q[k] (List.getElem_mem hlt)
        have HS : Hid (rowOk n Q[k] = true → (Q.take (k + 1)).all (rowOk n) = true) := fun g => all_step HK.out hlt g
        have HN : Hid (rowOk n Q[k] = false → partOk n Q = false) := fun g => partOk_no (all_no hlt g)
        have X : Hid (Calls Tryd.prog 96 #[.agg #[.slice a n c], .slice a2 Q[k].length c2] wr fun e w' => e = .returned (.bool (Q[k].all (symOk n))) ∧ Below wr.heap.size wr w') :=
          symbolsOf_any n a c Q[k] a2 c2 wr r2.reads hn hrl (fit_ints (HF.out.2 _ (List.getElem_mem hlt)))
        clear h r2 HK
        generalize Q[k] = R at *
        by_cases hr : R.length ≤ 8
        · by_cases hs : R.all (symOk n) = true
          · rw [hs] at X
            go_wp2_with (go_at_call 96; refine X.out.mono ?_; rintro e w1 ⟨rfl, hb1⟩)
            go_roundw
            case rel => exact ⟨k + 1, by omega, by go_num, HS.out (rowOk_yes hr hs), hbel.trans (hb1.mono hbel.size), (hb1.cell (p := ⟨w.heap.size, 0, none⟩) hwl).trans qk⟩
            case measure => simp [intOf]; omega
          · have hs' : R.all (symOk n) = false := by simpa using hs
            rw [hs'] at X
            clear hs
            go_wp2_with (go_at_call 96; refine X.out.mono ?_; rintro e w1 ⟨rfl, hb1⟩)
            go_ret
            exact ⟨ret_bool (by rw [HN.out (rowOk_no hs')]), hbel.trans (hb1.mono hbel.size)⟩
        · clear X
          go_wp2
          go_ret
          exact ⟨ret_bool (by rw [HN.out (rowOk_long hr)]), hbel⟩
      · have HE : Hid (Q.all (rowOk n) = true) := all_end HK.out hlt
        clear h HK
        go_wp2
        go_ret
        exact ⟨ret_bool (by rw [partOk_yes hbig HE.out]), hbel⟩
  · have hb2 : inB Q.length 1 8 = false := by simpa using hbig
    have hb3 := inB_false.1 hb2
    have B0 := (Below.refl w.heap.size w).alloc (Nat.le_refl _) (.cells #[.slice a n c] 28)
    clear hbig
    by_cases h1 : 1 ≤ Q.length
    · have h2 : 8 < Q.length := by omega
      go_enter Tryd.func94, Tryd.ntmps94
      go_wp2
      go_ret
      exact ⟨ret_bool (by rw [partOk_many hb2]), B0⟩
    · go_enter Tryd.func94, Tryd.ntmps94
      go_wp2
      go_ret
      exact ⟨ret_bool (by rw [partOk_many hb2]), B0⟩

set_option maxRecDepth 100000 in
theorem gramOk_any (x : Gm) (a0 : Option Addr) (c0 : Nat) (w : World) (h0 : RD w (.slice a0 x.parts.length c0) (slD (Lay.list (Lay.list Lay.int)) x.parts)) (hn : Lay.gram.wt x ≤ 1048576) (hf : Lay.gram.fit x) :
    Calls Tryd.prog 71 #[.agg #[.slice a0 x.parts.length c0]] w fun e w' => e = .returned (.bool (resGramOk x)) ∧ Below w.heap.size w w' := by
  unfold resGramOk
  rw [Lay_gram_wt, Lay.wt_list] at hn
  rw [Lay_gram_fit] at hf
  have h := h0
  have HF : Hid ((Lay.list (Lay.list (Lay.list Lay.int))).fit x.parts) := hf
  have hnl : x.parts.length ≤ 1048576 := by omega
  have HL : Hid (∀ alts ∈ x.parts, (Lay.list (Lay.list Lay.int)).wt alts ≤ 1048576) := by
    intro alts hal
    obtain ⟨i, hi, rfl⟩ := List.getElem_of_mem hal
    have := Lay.sumL_at (Lay.list (Lay.list Lay.int)) hi
    omega
  clear h0 hn hf
  generalize x.parts = P at *
  have B0 := (Below.refl w.heap.size w).alloc (Nat.le_refl _) (.cells #[.slice a0 P.length c0] 28)
  by_cases hbig : inB P.length 1 20 = true
  · have hb2 := inB_true.1 hbig
    have q0 : (w.alloc (.cells #[.slice a0 P.length c0] 28)).cell? ⟨w.heap.size, 0, none⟩ = some (.slice a0 P.length c0) := by simp
    go_enter Tryd.func71, Tryd.ntmps71
    go_wp2
    go_loopw [18] (fun s wr => ∃ k : Nat, k ≤ P.length ∧ s = .int .i64 k ∧ Hid ((P.take k).all (partOk P.length) = true) ∧ Below w.heap.size w wr ∧ wr.cell? ⟨w.heap.size, 0, none⟩ = some (.slice a0 P.length c0)) (fun s _ => P.length - (intOf s).toNat)
    case atStart => exact ⟨0, Nat.zero_le _, rfl, by show _ = _; simp, B0, q0⟩
    case round =>
      obtain ⟨k, hk, rfl, HK, hbel, qk⟩ := hrel
      clear q0 B0
      have hwl : w.heap.size < wr.heap.size := World.block_lt_of_cell? wr _ qk
      by_cases hlt : k < P.length
      · obtain ⟨b, off, rfl, hb, a2, c2, q1, r2⟩ := (h.later hbel).listAt hlt
        have HS : Hid (partOk P.length P[k] = true → (P.take (k + 1)).all (partOk P.length) = true) := fun g => all_step HK.out hlt g
        have HN : Hid (partOk P.length P[k] = false → gramOkB P = false) := fun g => gramOkB_no (all_no hlt g)
        have X : Hid (Calls Tryd.prog 94 #[.agg #[.slice (some ⟨b, off, none⟩) P.length c0], .slice a2 P[k].length c2] wr fun e w' => e = .returned (.bool (partOk P.length P[k])) ∧ Below wr.heap.size wr w') :=
          altsOk_any P.length _ c0 P[k] a2 c2 wr r2 hnl (HL.out _ (List.getElem_mem hlt)) (HF.out.2 _ (List.getElem_mem hlt))
        clear h r2 HK
        generalize P[k] = R at *
        by_cases hs : partOk P.length R = true
        · rw [hs] at X
          go_wp2_with (go_at_call 94; refine X.out.mono ?_; rintro e w1 ⟨rfl, hb1⟩)
          go_roundw
          case rel => exact ⟨k + 1, by omega, by go_num, HS.out hs, hbel.trans (hb1.mono hbel.size), (hb1.cell (p := ⟨w.heap.size, 0, none⟩) hwl).trans qk⟩
          case measure => simp [intOf]; omega
        · have hs' : partOk P.length R = false := by simpa using hs
          rw [hs'] at X
          clear hs
          go_wp2_with (go_at_call 94; refine X.out.mono ?_; rintro e w1 ⟨rfl, hb1⟩)
          go_ret
          exact ⟨ret_bool (by rw [HN.out hs']), hbel.trans (hb1.mono hbel.size)⟩
      · have HE : Hid (P.all (partOk P.length) = true) := all_end HK.out hlt
        clear h HK
        go_wp2
        go_ret
        exact ⟨ret_bool (by rw [gramOkB_yes hbig HE.out]), hbel⟩
  · have hb2 : inB P.length 1 20 = false := by simpa using hbig
    have hb3 := inB_false.1 hb2
    clear hbig
    by_cases h1 : 1 ≤ P.length
    · have h2 : 20 < P.length := by omega
      go_enter Tryd.func71, Tryd.ntmps71
      go_wp2
      go_ret
      exact ⟨ret_bool (by rw [gramOkB_many hb2]), B0⟩
    · go_enter Tryd.func71, Tryd.ntmps71
      go_wp2
      go_ret
      exact ⟨ret_bool (by rw [gramOkB_many hb2]), B0⟩
end Go.Proofs.YthnppodnjokaoaaDoor
namespace Go.Proofs.YthnppodnjokaoaaDoor
open Go.RowKit

/-- A letter. -/
def letB (x : Int) : Bool := inB x 0 25
def inputOkB (zs : List Int) : Bool := decide (zs.length ≤ 10) && zs.all letB
/-- What InputOk answers. -/
def resInputOk (zs : List Int) : Bool := inputOkB zs
theorem inputOkB_long {zs : List Int} (h : ¬ zs.length ≤ 10) : inputOkB zs = false := by simp [inputOkB, h]
theorem inputOkB_no {zs : List Int} (h : zs.all letB = false) : inputOkB zs = false := by simp [inputOkB, h]
theorem inputOkB_yes {zs : List Int} (h : zs.length ≤ 10) (g : zs.all letB = true) : inputOkB zs = true := by simp [inputOkB, h, g]
theorem inputOkB_len {zs : List Int} (h : inputOkB zs = true) : zs.length ≤ 10 := by simp [inputOkB] at h; exact h.1
theorem inputOkB_mem {zs : List Int} (h : inputOkB zs = true) : ∀ z ∈ zs, 0 ≤ z ∧ z ≤ 25 := by
  intro z hz; simp only [inputOkB, Bool.and_eq_true, List.all_eq_true] at h
  have := h.2 z hz; unfold letB at this; exact inB_true.1 this

set_option maxRecDepth 100000 in
theorem specInputOk_any (zs : List Int) (a : Option Addr) (c : Nat) (w : World) (h : RD w (.slice a zs.length c) (slD Lay.int zs)) (hl : zs.length ≤ 1048576) (_ : (Lay.list Lay.int).fit zs) :
    Calls Tryd.prog 29 #[.slice a zs.length c] w fun e w' => e = .returned (.bool (resInputOk zs)) ∧ Below w.heap.size w w' := by
  unfold resInputOk
  have hr : Reads w a zs := h.reads
  clear h
  by_cases hlong : zs.length ≤ 10
  · have hb : ¬ (10 : Int) < (zs.length : Int) := by omega
    go_enter Tryd.func29, Tryd.ntmps29
    go_wp2
    go_loopw [3] (fun i wr => ∃ k : Nat, k ≤ zs.length ∧ i = .int .i64 k ∧ Hid ((zs.take k).all letB = true) ∧ Below w.heap.size w wr) (fun i _ => zs.length - (intOf i).toNat)
    case atStart => exact ⟨0, Nat.zero_le _, rfl, by show _ = _; simp, Below.refl _ _⟩
    case round =>
      obtain ⟨k, hk, rfl, HK, hbel⟩ := hrel
      by_cases hlt : k < zs.length
      · obtain ⟨b, off, rfl, hb1, hc⟩ := (hr.below hbel).at hlt
        have q1 := hc k hlt
        rw [List.getD_eq_getElem?_getD, List.getElem?_eq_getElem hlt, Option.getD_some] at q1
        have HS : Hid (letB zs[k] = true → (zs.take (k + 1)).all letB = true) := fun g => all_step HK.out hlt g
        have HN : Hid (letB zs[k] = false → inputOkB zs = false) := fun g => inputOkB_no (all_no hlt g)
        clear hc hr HK
        generalize zs[k] = z at *
        by_cases z1 : inB z 0 25 = true
        · go_wp2_with (go_at_call 41; refine (l1In_any _ _ _ _).mono ?_; rintro e w' ⟨rfl, rfl⟩)
          go_roundw
          case rel => exact ⟨k + 1, by omega, by go_num, HS.out z1, hbel⟩
          case measure => simp [intOf]; omega
        · have z1' : inB z 0 25 = false := by simpa using z1
          clear z1
          go_wp2_with (go_at_call 41; refine (l1In_any _ _ _ _).mono ?_; rintro e w' ⟨rfl, rfl⟩)
          go_ret
          exact ⟨ret_bool (by rw [HN.out z1']), hbel⟩
      · have HE : Hid (inputOkB zs = true) := inputOkB_yes hlong (all_end HK.out hlt)
        clear hr HK
        go_wp2
        go_ret
        exact ⟨ret_bool (by rw [HE.out]), hbel⟩
  · have hb : (10 : Int) < (zs.length : Int) := by omega
    rw [inputOkB_long hlong]
    go_enter Tryd.func29, Tryd.ntmps29
    go_wp2
    go_ret
    exact ⟨rfl, Below.refl _ _⟩
set_option maxRecDepth 100000 in
theorem inputOk_any (zs : List Int) (a : Option Addr) (c : Nat) (w : World) (h : RD w (.slice a zs.length c) (slD Lay.int zs)) (hl : zs.length ≤ 1048576) (_ : (Lay.list Lay.int).fit zs) :
    Calls Tryd.prog 59 #[.slice a zs.length c] w fun e w' => e = .returned (.bool (resInputOk zs)) ∧ Below w.heap.size w w' := by
  unfold resInputOk
  have hr : Reads w a zs := h.reads
  clear h
  by_cases hlong : zs.length ≤ 10
  · have hb : ¬ (10 : Int) < (zs.length : Int) := by omega
    go_enter Tryd.func59, Tryd.ntmps59
    go_wp2
    go_loopw [10] (fun i wr => ∃ k : Nat, k ≤ zs.length ∧ i = .int .i64 k ∧ Hid ((zs.take k).all letB = true) ∧ Below w.heap.size w wr) (fun i _ => zs.length - (intOf i).toNat)
    case atStart => exact ⟨0, Nat.zero_le _, rfl, by show _ = _; simp, Below.refl _ _⟩
    case round =>
      obtain ⟨k, hk, rfl, HK, hbel⟩ := hrel
      by_cases hlt : k < zs.length
      · obtain ⟨b, off, rfl, hb1, hc⟩ := (hr.below hbel).at hlt
        have q1 := hc k hlt
        rw [List.getD_eq_getElem?_getD, List.getElem?_eq_getElem hlt, Option.getD_some] at q1
        have HS : Hid (letB zs[k] = true → (zs.take (k + 1)).all letB = true) := fun g => all_step HK.out hlt g
        have HN : Hid (letB zs[k] = false → inputOkB zs = false) := fun g => inputOkB_no (all_no hlt g)
        clear hc hr HK
        generalize zs[k] = z at *
        by_cases z1 : inB z 0 25 = true
        · go_wp2_with (go_at_call 79; refine (isLetter_any _ _).mono ?_; rintro e w' ⟨rfl, rfl⟩)
          go_roundw
          case rel => exact ⟨k + 1, by omega, by go_num, HS.out z1, hbel⟩
          case measure => simp [intOf]; omega
        · have z1' : inB z 0 25 = false := by simpa using z1
          clear z1
          go_wp2_with (go_at_call 79; refine (isLetter_any _ _).mono ?_; rintro e w' ⟨rfl, rfl⟩)
          go_ret
          exact ⟨ret_bool (by rw [HN.out z1']), hbel⟩
      · have HE : Hid (inputOkB zs = true) := inputOkB_yes hlong (all_end HK.out hlt)
        clear hr HK
        go_wp2
        go_ret
        exact ⟨ret_bool (by rw [HE.out]), hbel⟩
  · have hb : (10 : Int) < (zs.length : Int) := by omega
    rw [inputOkB_long hlong]
    go_enter Tryd.func59, Tryd.ntmps59
    go_wp2
    go_ret
    exact ⟨rfl, Below.refl _ _⟩
end Go.Proofs.YthnppodnjokaoaaDoor
