/- csv's file: the file of a tree that fits. Conditions: as the tree's and the file's bounds say (PutOk); MaxLen's cell. -/
import Derived.Test.YtapgaglkkgbgkaaGreatDoorMwNmMath
import Derived.Test.YtapgaglkkgbgkaaGreatDoorMwClClone
import Derived.Test.YtapgaglkkgbgkaaGreatDoorMwRcRows
import Derived.Test.YtapgaglkkgbgkaaGreatDoorMwCvGrow
import Derived.Deep.RegionHeld3
import Derived.Deep.RegionWith
import Derived.Deep.CutRange
namespace Go.Proofs.YtapgaglkkgbgkaaGreatDoor.Cv
open Go.RowKit Go.Proofs.YtapgaglkkgbgkaaGreatDoor.Jd Go.Proofs.YtapgaglkkgbgkaaGreatDoor.Li Go.Proofs.YtapgaglkkgbgkaaGreatDoor.Pt
set_option maxRecDepth 100000

def mkB (l : Bs) : ByteArray := ⟨l.toArray⟩
def colsP (xl : List Ln) (t : Tr) : List ByteArray := mns xl ++ (lessF (colsF t) (mns xl)).map mkB
def Tx (m : ByteArray) : Prop := m.size ≤ 4000 ∧ Pl m
structure PutOk (hd : Rw) (x0 : Ln) (xl : List Ln) (rs : List Rw) (t : Tr) : Prop where
  head : hd.fs = x0 :: xl
  len : rs.length ≤ 5000 ∧ xl.length ≤ 5000 ∧ t.size ≤ 90000
  fs : ∀ r ∈ hd :: rs, r.fs.length = xl.length + 1 ∧ ∀ x ∈ r.fs, x.1.length ≤ 4000
  asc : AscD t
  full : ∀ name, (getT t [name]).2 = true → Full (getT t [name]).1
  vals : ∀ name c, Tx (valF (getT t [name]).1 c)
  nms : (∀ r ∈ rs, Tx (nm r)) ∧ ∀ s ∈ t.names, Tx s
  cols : ∀ m ∈ colsP xl t, Tx m
  few : (colsP xl t).length ≤ 90000
abbrev kB : ByteArray := ⟨#[107, 101, 121]⟩
theorem get_asc {t : Tr} {p : ByteArray} (h : AscD t) : AscD (getT t [p]).1 := by
  rw [getT]
  split
  · exact kidT_asc h
  · trivial
theorem get_size {t : Tr} {p : ByteArray} : (getT t [p]).1.size ≤ t.size := by
  rw [getT]
  split
  · exact kidT_size t p
  · exact Nat.zero_le _
def stayF (cols : List ByteArray) (t : Tr) (r : Rw) : Option Ln := if (getT t [nm r]).2 = true then some (sayF (recF (nm r) cols (getT t [nm r]).1) r) else none
theorem ended_size (e : Bs) : ∀ l : List Ln, (ended e l).length = l.length
  | [] => rfl
  | [_] => rfl
  | x :: y :: r => by
    rw [ended, List.length_cons, ended_size e (y :: r)]
    rfl
def freshB (cols : List ByteArray) (t : Tr) (l : Bs) : Bs := Lib.join (fieldF (recF (mkB l) cols (getT t [mkB l]).1) []) [44]
def stayL (hd : Rw) (xl : List Ln) (rs : List Rw) (t : Tr) : List Ln := [sayF ([kB] ++ colsP xl t) hd] ++ rs.filterMap (stayF (colsP xl t) t)
def putB (hd : Rw) (xl : List Ln) (rs : List Rw) (t : Tr) : Bs := join (insert (stayL hd xl rs t) (stayL hd xl rs t).length ((lessF (namesOf t.names) (rs.map nm)).map (freshB (colsP xl t) t)))
end Go.Proofs.YtapgaglkkgbgkaaGreatDoor.Cv
