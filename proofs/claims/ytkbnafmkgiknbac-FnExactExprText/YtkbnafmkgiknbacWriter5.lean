/-
  Contracts of the project's writer: write, and of ExprText, over this translation. No statement is proved here.
-/
import Derived.Test.YtkbnafmkgiknbacWriter4
namespace Go.Proofs.Ytkbnafmkgiknbac
open Go.RowKit

theorem kidsStr_join (sep : UInt8) (ks : List Ex) : kidsStr [sep] ks = joinTo sep (ks.map Ex.str) ks.length := by
  cases ks with
  | nil => rfl
  | cons y ys => rw [joinTo_flat]; rfl
theorem row_wrote {W0 w' : World} {b : Nat} {bs : List UInt8} {L N : List Pc} {ty : TypeId} {a : Option Addr} {n c : Nat} {x : Ex} {sep : UInt8} (h : Wr W0 w' b (bs ++ [40]) (L ++ [Pc.plain ⟨#[41]⟩] ++ N)) (h1 : wtP N ≤ 3 * Ex.nodesL x.kids) (h2 : restP N = kidsStr [sep] x.kids)
    (hx : x.str = [40] ++ joinTo sep (x.kids.map Ex.str) x.kids.length ++ [41]) : Wrote W0 w' b bs L (.row ty a n c) x := by
  refine ⟨[40], _, h, ?_, ?_⟩
  · rw [restP_append, restP_snoc, h2, kidsStr_join, hx]
    simp [Pc.plain, Ex.noText_str]
  · have := Ex.nodes_eq x
    rw [wtP_append, wtP_append, wtP_one, Pc.plain_wt]
    show _ ≤ wtP L + 3 * x.nodes
    omega
theorem sign_wrote {W0 w' : World} {b : Nat} {bs : List UInt8} {L : List Pc} {m : Mv} {ty : TypeId} {kd : Int} {tx : ByteArray} {a : Option Addr} {n c : Nat} {x y : Ex} {s : ByteArray} {sg : UInt8} (h : Wr W0 w' b bs (L ++ [Pc.plain s] ++ [⟨⟨#[]⟩, m, y⟩])) (hk : x.kids = [y]) (hs : s.data.toList = [sg])
    (hx : x.str = y.str ++ [sg]) : Wrote W0 w' b bs L (.sign ty kd tx a n c) x := by
  refine ⟨[], (L ++ [Pc.plain s]) ++ [⟨⟨#[]⟩, m, y⟩], by rw [List.append_nil]; exact h, ?_, ?_⟩
  · rw [restP_snoc, restP_snoc, hx]
    simp [Pc.plain, Ex.noText_str, hs]
  · have h1 := Ex.nodes_eq x
    have h2 := Pc.wt_le ⟨⟨#[]⟩, m, y⟩
    rw [hk] at h1
    simp only [Ex.nodesL, Nat.add_zero] at h1
    rw [wtP_append, wtP_append, wtP_one, wtP_one, Pc.plain_wt]
    simp only at h2
    show _ ≤ wtP L + 3 * x.nodes
    omega

set_option maxHeartbeats 1000000 in
set_option maxRecDepth 100000 in
theorem write_seqExpr (W0 : World) (b : Nat) (bs : List UInt8) (L : List Pc) (a : Option Addr) (c : Nat) (x : Ex) (w : World) (h : Wr W0 w b bs L) (hk : x.kind = 2) (hr : RD W0 (.slice a x.kids.length c) (exD x.kids)) (hbs : bs.length + 1 ≤ 140737488355328) (hlen : L.length + x.kids.length + 1 ≤ 1099511627776) :
    Calls Try.prog 48 #[.pointer (some ⟨b, 0, none⟩), .iface 119 (.agg #[.slice a x.kids.length c])] w fun e w' => e = .returned (.tuple #[]) ∧ Wrote W0 w' b bs L (.row 119 a x.kids.length c) x := by
  have HX : Hid (∀ W, Below w.heap.size w W → Calls Try.prog 59 #[.pointer (some ⟨b, 0, none⟩), .slice a x.kids.length c, .string ⟨#[32]⟩] W fun e w' => e = .returned (.tuple #[]) ∧ Wrote W0 w' b bs L (.row 119 a x.kids.length c) x) := by
    intro W hW
    refine (row_any W0 b bs L x.kids a c ⟨#[32]⟩ W (h.later hW) hr hlen hbs).mono ?_
    rintro e w1 ⟨N, rfl, h1, h2, h3, _⟩
    exact ⟨rfl, row_wrote h1 h2 h3 (str_seq hk)⟩
  clear h hr hk
  have n0 := no_letterExpr w 119 (.agg #[.slice a x.kids.length c]) (by decide)
  have n1 := no_nameExpr w 119 (.agg #[.slice a x.kids.length c]) (by decide)
  have y2 := yes_seqExpr w (.agg #[.slice a x.kids.length c])
  go_enter Try.func48, Try.ntmps48
  go_wp2_with fail
  refine (HX.out _ ((Below.refl _ _).alloc (Nat.le_refl _) _)).mono ?_
  rintro e w1 ⟨rfl, hw1⟩
  go_wp2
  go_end0
  exact ⟨rfl, hw1⟩

set_option maxHeartbeats 1000000 in
set_option maxRecDepth 100000 in
theorem write_altExpr (W0 : World) (b : Nat) (bs : List UInt8) (L : List Pc) (a : Option Addr) (c : Nat) (x : Ex) (w : World) (h : Wr W0 w b bs L) (hk : x.kind = 3) (hr : RD W0 (.slice a x.kids.length c) (exD x.kids)) (hbs : bs.length + 1 ≤ 140737488355328) (hlen : L.length + x.kids.length + 1 ≤ 1099511627776) :
    Calls Try.prog 48 #[.pointer (some ⟨b, 0, none⟩), .iface 120 (.agg #[.slice a x.kids.length c])] w fun e w' => e = .returned (.tuple #[]) ∧ Wrote W0 w' b bs L (.row 120 a x.kids.length c) x := by
  have HX : Hid (∀ W, Below w.heap.size w W → Calls Try.prog 59 #[.pointer (some ⟨b, 0, none⟩), .slice a x.kids.length c, .string ⟨#[124]⟩] W fun e w' => e = .returned (.tuple #[]) ∧ Wrote W0 w' b bs L (.row 120 a x.kids.length c) x) := by
    intro W hW
    refine (row_any W0 b bs L x.kids a c ⟨#[124]⟩ W (h.later hW) hr hlen hbs).mono ?_
    rintro e w1 ⟨N, rfl, h1, h2, h3, _⟩
    exact ⟨rfl, row_wrote h1 h2 h3 (str_alt hk)⟩
  clear h hr hk
  have n0 := no_letterExpr w 120 (.agg #[.slice a x.kids.length c]) (by decide)
  have n1 := no_nameExpr w 120 (.agg #[.slice a x.kids.length c]) (by decide)
  have n2 := no_seqExpr w 120 (.agg #[.slice a x.kids.length c]) (by decide)
  have y3 := yes_altExpr w (.agg #[.slice a x.kids.length c])
  go_enter Try.func48, Try.ntmps48
  go_wp2_with fail
  refine (HX.out _ ((Below.refl _ _).alloc (Nat.le_refl _) _)).mono ?_
  rintro e w1 ⟨rfl, hw1⟩
  go_wp2
  go_end0
  exact ⟨rfl, hw1⟩

set_option maxHeartbeats 1000000 in
set_option maxRecDepth 100000 in
theorem write_optExpr (W0 : World) (b : Nat) (bs : List UInt8) (L : List Pc) (a : Option Addr) (c : Nat) (x y : Ex) (w : World) (h : Wr W0 w b bs L) (hk : x.kind = 4) (hy : x.kids = [y]) (hr : RD W0 (.slice a y.kids.length c) (exD y.kids)) (hlen : L.length + 2 ≤ 1099511627776) :
    Calls Try.prog 48 #[.pointer (some ⟨b, 0, none⟩), .iface 122 (.agg #[.int .i64 y.kind, .string y.text, .slice a y.kids.length c])] w fun e w' => e = .returned (.tuple #[]) ∧ Wrote W0 w' b bs L (.sign 122 y.kind y.text a y.kids.length c) x := by
  have HX : Hid (∀ W, Below w.heap.size w W → Calls Try.prog 60 #[.pointer (some ⟨b, 0, none⟩), .agg #[.int .i64 y.kind, .string y.text, .slice a y.kids.length c], .string ⟨#[63]⟩] W fun e w' => e = .returned (.tuple #[]) ∧ Wrote W0 w' b bs L (.sign 122 y.kind y.text a y.kids.length c) x) := by
    intro W hW
    refine (sign_any W0 b bs L y a c ⟨#[63]⟩ W (h.later hW) hr hlen).mono ?_
    rintro e w1 ⟨m, rfl, h1, _⟩
    refine ⟨rfl, sign_wrote (sg := 63) h1 hy rfl ?_⟩
    have h0 : 0 < x.kids.length := by simp [hy]
    have e0 : x.kids[0]'h0 = y := by simp [hy]
    rw [str_rep (by omega) (by rw [hy]; rfl) h0, e0, hk]
    rfl
  clear h hr hk hy
  have n0 := no_letterExpr w 122 (.agg #[.int .i64 y.kind, .string y.text, .slice a y.kids.length c]) (by decide)
  have n1 := no_nameExpr w 122 (.agg #[.int .i64 y.kind, .string y.text, .slice a y.kids.length c]) (by decide)
  have n2 := no_seqExpr w 122 (.agg #[.int .i64 y.kind, .string y.text, .slice a y.kids.length c]) (by decide)
  have n3 := no_altExpr w 122 (.agg #[.int .i64 y.kind, .string y.text, .slice a y.kids.length c]) (by decide)
  have y4 := yes_optExpr w (.agg #[.int .i64 y.kind, .string y.text, .slice a y.kids.length c])
  go_enter Try.func48, Try.ntmps48
  go_wp2_with fail
  refine (HX.out _ ((Below.refl _ _).alloc (Nat.le_refl _) _)).mono ?_
  rintro e w1 ⟨rfl, hw1⟩
  go_wp2
  go_end0
  exact ⟨rfl, hw1⟩

set_option maxHeartbeats 1000000 in
set_option maxRecDepth 100000 in
theorem write_starExpr (W0 : World) (b : Nat) (bs : List UInt8) (L : List Pc) (a : Option Addr) (c : Nat) (x y : Ex) (w : World) (h : Wr W0 w b bs L) (hk : x.kind = 5) (hy : x.kids = [y]) (hr : RD W0 (.slice a y.kids.length c) (exD y.kids)) (hlen : L.length + 2 ≤ 1099511627776) :
    Calls Try.prog 48 #[.pointer (some ⟨b, 0, none⟩), .iface 123 (.agg #[.int .i64 y.kind, .string y.text, .slice a y.kids.length c])] w fun e w' => e = .returned (.tuple #[]) ∧ Wrote W0 w' b bs L (.sign 123 y.kind y.text a y.kids.length c) x := by
  have HX : Hid (∀ W, Below w.heap.size w W → Calls Try.prog 60 #[.pointer (some ⟨b, 0, none⟩), .agg #[.int .i64 y.kind, .string y.text, .slice a y.kids.length c], .string ⟨#[42]⟩] W fun e w' => e = .returned (.tuple #[]) ∧ Wrote W0 w' b bs L (.sign 123 y.kind y.text a y.kids.length c) x) := by
    intro W hW
    refine (sign_any W0 b bs L y a c ⟨#[42]⟩ W (h.later hW) hr hlen).mono ?_
    rintro e w1 ⟨m, rfl, h1, _⟩
    refine ⟨rfl, sign_wrote (sg := 42) h1 hy rfl ?_⟩
    have h0 : 0 < x.kids.length := by simp [hy]
    have e0 : x.kids[0]'h0 = y := by simp [hy]
    rw [str_rep (by omega) (by rw [hy]; rfl) h0, e0, hk]
    rfl
  clear h hr hk hy
  have n0 := no_letterExpr w 123 (.agg #[.int .i64 y.kind, .string y.text, .slice a y.kids.length c]) (by decide)
  have n1 := no_nameExpr w 123 (.agg #[.int .i64 y.kind, .string y.text, .slice a y.kids.length c]) (by decide)
  have n2 := no_seqExpr w 123 (.agg #[.int .i64 y.kind, .string y.text, .slice a y.kids.length c]) (by decide)
  have n3 := no_altExpr w 123 (.agg #[.int .i64 y.kind, .string y.text, .slice a y.kids.length c]) (by decide)
  have n4 := no_optExpr w 123 (.agg #[.int .i64 y.kind, .string y.text, .slice a y.kids.length c]) (by decide)
  have y5 := yes_starExpr w (.agg #[.int .i64 y.kind, .string y.text, .slice a y.kids.length c])
  go_enter Try.func48, Try.ntmps48
  go_wp2_with fail
  refine (HX.out _ ((Below.refl _ _).alloc (Nat.le_refl _) _)).mono ?_
  rintro e w1 ⟨rfl, hw1⟩
  go_wp2
  go_end0
  exact ⟨rfl, hw1⟩

set_option maxHeartbeats 1000000 in
set_option maxRecDepth 100000 in
theorem write_plusExpr (W0 : World) (b : Nat) (bs : List UInt8) (L : List Pc) (a : Option Addr) (c : Nat) (x y : Ex) (w : World) (h : Wr W0 w b bs L) (hk : x.kind = 6) (hy : x.kids = [y]) (hr : RD W0 (.slice a y.kids.length c) (exD y.kids)) (hlen : L.length + 2 ≤ 1099511627776) :
    Calls Try.prog 48 #[.pointer (some ⟨b, 0, none⟩), .iface 124 (.agg #[.int .i64 y.kind, .string y.text, .slice a y.kids.length c])] w fun e w' => e = .returned (.tuple #[]) ∧ Wrote W0 w' b bs L (.sign 124 y.kind y.text a y.kids.length c) x := by
  have HX : Hid (∀ W, Below w.heap.size w W → Calls Try.prog 60 #[.pointer (some ⟨b, 0, none⟩), .agg #[.int .i64 y.kind, .string y.text, .slice a y.kids.length c], .string ⟨#[43]⟩] W fun e w' => e = .returned (.tuple #[]) ∧ Wrote W0 w' b bs L (.sign 124 y.kind y.text a y.kids.length c) x) := by
    intro W hW
    refine (sign_any W0 b bs L y a c ⟨#[43]⟩ W (h.later hW) hr hlen).mono ?_
    rintro e w1 ⟨m, rfl, h1, _⟩
    refine ⟨rfl, sign_wrote (sg := 43) h1 hy rfl ?_⟩
    have h0 : 0 < x.kids.length := by simp [hy]
    have e0 : x.kids[0]'h0 = y := by simp [hy]
    rw [str_rep (by omega) (by rw [hy]; rfl) h0, e0, hk]
    rfl
  clear h hr hk hy
  have n0 := no_letterExpr w 124 (.agg #[.int .i64 y.kind, .string y.text, .slice a y.kids.length c]) (by decide)
  have n1 := no_nameExpr w 124 (.agg #[.int .i64 y.kind, .string y.text, .slice a y.kids.length c]) (by decide)
  have n2 := no_seqExpr w 124 (.agg #[.int .i64 y.kind, .string y.text, .slice a y.kids.length c]) (by decide)
  have n3 := no_altExpr w 124 (.agg #[.int .i64 y.kind, .string y.text, .slice a y.kids.length c]) (by decide)
  have n4 := no_optExpr w 124 (.agg #[.int .i64 y.kind, .string y.text, .slice a y.kids.length c]) (by decide)
  have n5 := no_starExpr w 124 (.agg #[.int .i64 y.kind, .string y.text, .slice a y.kids.length c]) (by decide)
  have y6 := yes_plusExpr w (.agg #[.int .i64 y.kind, .string y.text, .slice a y.kids.length c])
  go_enter Try.func48, Try.ntmps48
  go_wp2_with fail
  refine (HX.out _ ((Below.refl _ _).alloc (Nat.le_refl _) _)).mono ?_
  rintro e w1 ⟨rfl, hw1⟩
  go_wp2
  go_end0
  exact ⟨rfl, hw1⟩

theorem write_any (W0 : World) (b : Nat) (bs : List UInt8) (L : List Pc) (m : Mv) (x : Ex) (w : World) (h : Wr W0 w b bs L) (hm : Means W0 m x) (hbs : bs.length + x.str.length + 1 ≤ 140737488355328) (hlen : m ≠ .nil → L.length + (x.nodes + 2) ≤ 1099511627776) :
    Calls Try.prog 48 #[.pointer (some ⟨b, 0, none⟩), m.val] w fun e w' => e = .returned (.tuple #[]) ∧ Wrote W0 w' b bs L m x := by
  have hnd := Ex.nodes_eq x
  have hkl := Ex.length_le x.kids
  cases m with
  | nil => exact write_nil W0 b bs L x w h hm
  | text ty t =>
    obtain ⟨hty, hs⟩ := hm
    rcases hty with rfl | rfl
    · exact write_letterExpr W0 b bs L t x w h ⟨.inl rfl, hs⟩ (by omega)
    · exact write_nameExpr W0 b bs L t x w h ⟨.inr rfl, hs⟩ (by omega)
  | row ty a n c =>
    have hlen := hlen (by simp)
    obtain ⟨hty, rfl, hr⟩ := hm
    rcases hty with ⟨rfl, hk⟩ | ⟨rfl, hk⟩
    · exact write_seqExpr W0 b bs L a c x w h hk hr (by omega) (by omega)
    · exact write_altExpr W0 b bs L a c x w h hk hr (by omega) (by omega)
  | sign ty kd tx a n c =>
    have hlen := hlen (by simp)
    obtain ⟨hty, y, hy, rfl, rfl, rfl, hr⟩ := hm
    rcases hty with ⟨rfl, hk⟩ | ⟨rfl, hk⟩ | ⟨rfl, hk⟩
    · exact write_optExpr W0 b bs L a c x y w h hk hy hr (by omega)
    · exact write_starExpr W0 b bs L a c x y w h hk hy hr (by omega)
    · exact write_plusExpr W0 b bs L a c x y w h hk hy hr (by omega)
end Go.Proofs.Ytkbnafmkgiknbac
