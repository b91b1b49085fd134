/-
  Lists that are the same, element by element. Plain mathematics. No statement is proved here.
-/
import Derived.Test.YthnppodnjokaoabHRun
namespace Go.Proofs.Ythnppodnjokaoab
open Go.RowKit

section
variable {α : Type} (f : α → α → Bool)
def eqLB : List α → List α → Bool
  | [], [] => true
  | x :: xs, y :: ys => f x y && eqLB xs ys
  | [], _ :: _ => false
  | _ :: _, [] => false
theorem eqLB_len : ∀ {xs ys : List α}, xs.length ≠ ys.length → eqLB f xs ys = false
  | [], [], h => absurd rfl h
  | x :: xs, y :: ys, h => by
    have := eqLB_len (xs := xs) (ys := ys) (by simpa using h)
    simp [eqLB, this]
  | [], _ :: _, _ => rfl
  | _ :: _, [], _ => rfl
theorem eqLB_at : ∀ {xs ys : List α} (i : Nat) (h1 : i < xs.length) (h2 : i < ys.length), f xs[i] ys[i] = false → eqLB f xs ys = false
  | x :: xs, y :: ys, 0, _, _, h => by
    simp only [List.getElem_cons_zero] at h
    simp [eqLB, h]
  | x :: xs, y :: ys, i + 1, h1, h2, h => by
    simp only [List.getElem_cons_succ] at h
    have := eqLB_at (xs := xs) (ys := ys) i (by simpa using h1) (by simpa using h2) h
    simp [eqLB, this]
theorem eqLB_all : ∀ {xs ys : List α}, xs.length = ys.length → (∀ i (h1 : i < xs.length) (h2 : i < ys.length), f xs[i] ys[i] = true) → eqLB f xs ys = true
  | [], [], _, _ => rfl
  | x :: xs, y :: ys, hl, h => by
    have h0 := h 0 (by simp) (by simp)
    simp only [List.getElem_cons_zero] at h0
    have ih := eqLB_all (xs := xs) (ys := ys) (by simpa using hl) (fun i h1 h2 => by
      have := h (i + 1) (by simpa using h1) (by simpa using h2)
      simpa only [List.getElem_cons_succ] using this)
    simp [eqLB, h0, ih]
  | [], _ :: _, h, _ => by simp at h
  | _ :: _, [], h, _ => by simp at h
end
def sameSl (a b : Sl) : Bool := decide (a.sym = b.sym) && decide (a.up = b.up)
def sameEr (a b : Er) : Bool := decide (a.kind = b.kind) && (decide (a.pl = b.pl) && decide (a.sym = b.sym))
def sameNd (a b : Nd) : Bool := decide (a.kind = b.kind) && (decide (a.sym = b.sym) && (decide (a.alt = b.alt) && (decide (a.pl = b.pl) && decide (a.kids = b.kids))))
/-- What RunSame answers. -/
def resRunSame (a b : Rn) : Bool := decide (a.code = b.code) && (decide (a.pl = b.pl) && (decide (a.look = b.look) && (decide (a.cost = b.cost) && (eqLB sameSl a.slots b.slots && (eqLB sameEr a.errs b.errs && eqLB sameNd a.tree.nodes b.tree.nodes)))))
end Go.Proofs.Ythnppodnjokaoab
