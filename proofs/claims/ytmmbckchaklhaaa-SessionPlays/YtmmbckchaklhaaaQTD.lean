/-
  The reference's reader: answers.
-/
import Derived.Test.YtmmbckchaklhaaaQTC
namespace Go.Proofs.Ytmmbckchaklhaaa
open Go.RowKit

/-- An entry. -/
structure EntD where
  id : Int
  er : Int
  l : List Int
  nm : ByteArray
  xs : List Int

/-- What is left of an entry behind its id. -/
def an2 (t : Sx) : Sx × Int := errnoS .pr t 0

def an3 (t : Sx) : Sx × List Int := numsS .pr (an2 t).1 (List.replicate 3 0)

def an4 (t : Sx) : Sx × Bool := flagS .pr (an3 t).1 false

def an5 (t : Sx) : Sx × ByteArray × List Int := tiS .pr (an4 t).1 ByteArray.empty (List.replicate 8 0)

def anS (t : Sx) : Sx × EntD :=
  if (an4 t).2 then (if (an5 t).2.2.headD 0 = 0 then refuseS (an5 t).1 11 else (an5 t).1, ⟨0, (an2 t).2, (an3 t).2, (an5 t).2.1, (an5 t).2.2⟩)
  else ((an4 t).1, ⟨0, (an2 t).2, (an3 t).2, ByteArray.empty, List.replicate 8 0⟩)

/-- What ReadAnswer answers. -/
def AnsP (w : World) (r : Nat) (a : Option Addr) (cap : Nat) (B : List Nat) (t : Sx) (e : Ending) (w' : World) : Prop := ∃ (nm : ByteArray), e = .returned (.agg (Value.int .i64 (anS t).2.er :: (intC (anS t).2.l ++ Value.string nm :: intC (anS t).2.xs)).toArray) ∧ Rdr w' r a cap B (anS t).1 ∧ ((anS t).1.e = 0 → nm = (anS t).2.nm) ∧ Turn [r] w w'

theorem numS_fault {s : Sx} (h : s.e ≠ 0) (x : Int) : (numS .pr s x).1 = s := by show (takeS s 8).1 = s; rw [takeS_fault h]

theorem numsS_fault : ∀ (l : List Int) {s : Sx} (_ : s.e ≠ 0), (numsS .pr s l).1 = s
  | [], _, _ => rfl
  | x :: l, s, h => by
    show (numsS .pr (numS .pr s x).1 l).1 = s
    rw [numS_fault h]
    exact numsS_fault l h

theorem tiS_text {t : Sx} {nm : ByteArray} {l : List Int} (h : (tiS .pr t nm l).1.e = 0) : (textS .pr t nm).1.e = 0 := by
  refine Classical.byContradiction fun k => ?_
  have : (tiS .pr t nm l).1 = (textS .pr t nm).1 := numsS_fault l k
  rw [this] at h
  exact k h