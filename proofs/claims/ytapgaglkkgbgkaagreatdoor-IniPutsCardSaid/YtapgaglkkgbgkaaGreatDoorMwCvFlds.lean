/- csv's fields of a line. Conditions: at most 4000 bytes; MaxLen's cell. · csv's rows: what their fields mean; names; all of texts; the head. Conditions: texts of ASCII bytes where it is asked what they may be. · csv's head: all of a row of texts; what is wrong with a head. Conditions: texts of ASCII bytes. · csv's rows in memory; is a row's name there already. Conditions: each row has a field. · csv: what is wrong with a row behind others. Conditions: texts of ASCII bytes; each row ahead has a field. -/
import Derived.Test.YtapgaglkkgbgkaaGreatDoorMwLiSplit
import Derived.Test.YtapgaglkkgbgkaaGreatDoorMwInOne
import Derived.Outline
import Derived.Test.YtapgaglkkgbgkaaGreatDoorMwClHold
import Derived.Deep.RegionHeld3
namespace Go.Proofs.YtapgaglkkgbgkaaGreatDoor.Cv
open Go.RowKit Go.Proofs.YtapgaglkkgbgkaaGreatDoor.Jd Go.Proofs.YtapgaglkkgbgkaaGreatDoor.Li
set_option maxRecDepth 100000

def flds : Nat → Bs → Option (List Ln)
  | 0, _ => none
  | F + 1, l =>
    if (unq (l.take (wid false l))).2 = false then none else
    if wid false l = l.length then some [(l.take (wid false l), (unq (l.take (wid false l))).1)] else
    (flds F (l.drop (wid false l + 1))).map (fun r => (l.take (wid false l), (unq (l.take (wid false l))).1) :: r)
def fldsL (l : Bs) : List Ln := (flds (l.length + 1) l).getD []
end Go.Proofs.YtapgaglkkgbgkaaGreatDoor.Cv
namespace Go.Proofs.YtapgaglkkgbgkaaGreatDoor.Cv
open Go.RowKit Go.Proofs.YtapgaglkkgbgkaaGreatDoor.Jd Go.Proofs.YtapgaglkkgbgkaaGreatDoor.Li
set_option maxRecDepth 100000

set_option maxHeartbeats 1000000 in
def meanV (ls : List Ln) : List Value := ls.map fun x => encs x.2
def part (ls : List Ln) (n k : Nat) : Array Value := (meanV (ls.take k) ++ List.replicate (n - k) (Value.string ⟨#[]⟩)).toArray
end Go.Proofs.YtapgaglkkgbgkaaGreatDoor.Cv
namespace Go.Proofs.YtapgaglkkgbgkaaGreatDoor.Cv
open Go.RowKit Go.Proofs.YtapgaglkkgbgkaaGreatDoor.Jd Go.Proofs.YtapgaglkkgbgkaaGreatDoor.Li
set_option maxRecDepth 100000

def mns (ls : List Ln) : List ByteArray := ls.map fun x => ⟨x.2.toArray⟩
set_option maxHeartbeats 4000000 in
def dupF : List ByteArray → List ByteArray → Bool
  | _, [] => false
  | a, x :: r => Lib.containsS a x || dupF (a ++ [x]) r
def headF : List ByteArray → Int
  | [] => 0
  | m :: cols => if (m.toList == [107, 101, 121]) = false then 6 else if cols.all cB = false then 6 else if dupF [] cols = true then 7 else 0
end Go.Proofs.YtapgaglkkgbgkaaGreatDoor.Cv
namespace Go.Proofs.YtapgaglkkgbgkaaGreatDoor.Cv
open Go.RowKit Go.Proofs.YtapgaglkkgbgkaaGreatDoor.Jd Go.Proofs.YtapgaglkkgbgkaaGreatDoor.Li
set_option maxRecDepth 100000

structure Rw where
  fs : List Ln
  en : ByteArray
def nm (r : Rw) : ByteArray := (mns r.fs).headD ⟨#[]⟩
structure SeesR (w : World) (B : Nat) (A : Option Addr) (n : Nat) (rs : List Rw) : Prop where
  len : n = rs.length
  at_ : ∀ (k : Nat) (r : Rw), rs[k]? = some r → ∃ b o Af nf cf, A = some ⟨b, o, none⟩ ∧ b < B ∧ w.cell? ⟨b, o + k * 2, none⟩ = some (.slice Af nf cf) ∧ w.cell? ⟨b, o + k * 2 + 1, none⟩ = some (.string r.en) ∧ SeesL w B Af nf r.fs ∧ nf ≤ cf ∧ cf ≤ maxLen
section
variable {w w' : World} {B B' n : Nat} {A : Option Addr} {rs : List Rw}
theorem SeesR.below (h : SeesR w B A n rs) (hb : Below B w w') : SeesR w' B A n rs :=
  ⟨h.len, fun k r hr => by
    obtain ⟨b, o, Af, nf, cf, h1, h2, h3, h4, h5, h6, h7⟩ := h.at_ k r hr
    exact ⟨b, o, Af, nf, cf, h1, h2, (hb.cell (p := ⟨b, o + k * 2, none⟩) h2).trans h3, (hb.cell (p := ⟨b, o + k * 2 + 1, none⟩) h2).trans h4, h5.below hb, h6, h7⟩⟩
theorem SeesR.more (h : SeesR w B A n rs) (hB : B ≤ B') : SeesR w B' A n rs :=
  ⟨h.len, fun k r hr => by
    obtain ⟨b, o, Af, nf, cf, h1, h2, h3, h4, h5, h6, h7⟩ := h.at_ k r hr
    exact ⟨b, o, Af, nf, cf, h1, Nat.lt_of_lt_of_le h2 hB, h3, h4, h5.more hB, h6, h7⟩⟩
theorem SeesR.tail {b o : Nat} {r : Rw} (h : SeesR w B (some ⟨b, o, none⟩) n (r :: rs)) : SeesR w B (some ⟨b, o + 2, none⟩) (n - 1) rs :=
  ⟨by have := h.len; simp at this; omega, fun k x hx => by
    obtain ⟨b', o', Af, nf, cf, h1, h2, h3, h4, h5⟩ := h.at_ (k + 1) x (by simpa using hx)
    injection h1 with h1
    injection h1 with e1 e2
    subst e1; subst e2
    exact ⟨_, _, Af, nf, cf, rfl, h2, by rw [show o + 2 + k * 2 = o + (k + 1) * 2 by omega]; exact h3, by rw [show o + 2 + k * 2 + 1 = o + (k + 1) * 2 + 1 by omega]; exact h4, h5⟩⟩
end

end Go.Proofs.YtapgaglkkgbgkaaGreatDoor.Cv
namespace Go.Proofs.YtapgaglkkgbgkaaGreatDoor.Cv
open Go.RowKit Go.Proofs.YtapgaglkkgbgkaaGreatDoor.Jd Go.Proofs.YtapgaglkkgbgkaaGreatDoor.Li
set_option maxRecDepth 100000

def faultF (ahead : List Rw) (r : Rw) : Int :=
  if r.fs = [] then 6 else
  match ahead with
  | [] => headF (mns r.fs)
  | h :: t => if r.fs.length ≠ h.fs.length then 6 else if nB (nm r) = false then 6 else if (mns r.fs).all vB = false then 6 else if (t.any fun x => (nm x).toList == (nm r).toList) = true then 7 else 0
theorem mns_len (ls : List Ln) : (mns ls).length = ls.length := by simp [mns]

end Go.Proofs.YtapgaglkkgbgkaaGreatDoor.Cv
