/- csv's fields of a line. Conditions: at most 4000 bytes; MaxLen's cell. · csv's rows: what their fields mean; names; all of texts; the head. Conditions: texts of ASCII bytes where it is asked what they may be. · csv's head: all of a row of texts; what is wrong with a head. Conditions: texts of ASCII bytes. · csv's rows in memory; is a row's name there already. Conditions: each row has a field. · csv: what is wrong with a row behind others. Conditions: texts of ASCII bytes; each row ahead has a field. -/
import Derived.Test.YtgefoehpdiiomaaGreatDoorMwLiSplit
import Derived.Test.YtgefoehpdiiomaaGreatDoorMwLiMath
import Derived.Outline
import Derived.Test.YtgefoehpdiiomaaGreatDoorMwJudge
import Derived.Deep.RegionHeld3
namespace Go.Proofs.YtgefoehpdiiomaaGreatDoor.Cv
open Go.RowKit Go.Proofs.YtgefoehpdiiomaaGreatDoor.Jd Go.Proofs.YtgefoehpdiiomaaGreatDoor.Li
set_option maxRecDepth 100000

/-- The fields: what is written, what it means. -/
def flds : Nat → Bs → Option (List Ln)
  | 0, _ => none
  | F + 1, l =>
    if (unq (l.take (wid false l))).2 = false then none else
    if wid false l = l.length then some [(l.take (wid false l), (unq (l.take (wid false l))).1)] else
    (flds F (l.drop (wid false l + 1))).map (fun r => (l.take (wid false l), (unq (l.take (wid false l))).1) :: r)
def fldsL (l : Bs) : List Ln := (flds (l.length + 1) l).getD []
/-- A row of fields of the call's own. -/
theorem ext_take (b : ByteArray) (k : Nat) : (b.extract 0 k).data.toList = b.data.toList.take k := by
  simp [ByteArray.data_extract]
theorem ext_drop (b : ByteArray) (k : Nat) : (b.extract k b.size).data.toList = b.data.toList.drop k := by
  have hs : b.size = b.data.toList.length := rfl
  rw [ByteArray.data_extract, Array.toList_extract, List.extract_eq_take_drop, List.take_of_length_le (by rw [List.length_drop]; omega)]
theorem flds_fuel : ∀ (F : Nat) (l : Bs), l.length < F → flds F l = flds (l.length + 1) l := by
  intro F
  induction F using Nat.strongRecOn with
  | _ F ih =>
    intro l hl
    obtain ⟨G, rfl⟩ : ∃ G, F = G + 1 := ⟨F - 1, by omega⟩
    rw [flds, flds]
    by_cases h1 : (unq (l.take (wid false l))).2 = false
    · rw [if_pos h1, if_pos h1]
    · rw [if_neg h1, if_neg h1]
      by_cases h2 : wid false l = l.length
      · rw [if_pos h2, if_pos h2]
      · rw [if_neg h2, if_neg h2]
        have hw := wid_le l false
        have hd : (l.drop (wid false l + 1)).length < l.length := by rw [List.length_drop]; omega
        have e : flds G (l.drop (wid false l + 1)) = flds l.length (l.drop (wid false l + 1)) := by
          rw [ih G (by omega) _ (by omega)]
          exact (ih l.length (by omega) _ hd).symm
        rw [e]
/-- The length of a text. -/
def tlen : Value → Nat
  | .string b => b.size
  | _ => 0
end Go.Proofs.YtgefoehpdiiomaaGreatDoor.Cv
namespace Go.Proofs.YtgefoehpdiiomaaGreatDoor.Cv
open Go.RowKit Go.Proofs.YtgefoehpdiiomaaGreatDoor.Jd Go.Proofs.YtgefoehpdiiomaaGreatDoor.Li
set_option maxRecDepth 100000

set_option maxHeartbeats 1000000 in
def meanV (ls : List Ln) : List Value := ls.map fun x => encs x.2
/-- So many of a row of texts are made. -/
def part (ls : List Ln) (n k : Nat) : Array Value := (meanV (ls.take k) ++ List.replicate (n - k) (Value.string ⟨#[]⟩)).toArray
theorem part_zero (ls : List Ln) (n : Nat) : madeCells #[Value.string ⟨#[]⟩] n = part ls n 0 := by
  apply Array.ext
  · simp [madeCells, part, meanV]
  · intro i h1 h2
    simp [madeCells, part, meanV, Nat.mod_one]
theorem part_set {ls : List Ln} {n k : Nat} {x : Ln} (hn : n = ls.length) (h : ls[k]? = some x) : (part ls n k).setIfInBounds k (encs x.2) = part ls n (k + 1) := by
  have hk : k < ls.length := (List.getElem?_eq_some_iff.1 h).1
  unfold part meanV
  rw [List.setIfInBounds_toArray]
  congr 1
  rw [List.take_add_one, h]
  obtain ⟨j, hj⟩ : ∃ j, n - k = j + 1 := ⟨n - k - 1, by omega⟩
  rw [hj, show n - (k + 1) = j by omega, List.replicate_succ]
  have hl : ((ls.take k).map fun x => encs x.2).length = k := by rw [List.length_map, List.length_take]; omega
  rw [List.set_append_right _ _ (by omega), hl, Nat.sub_self]
  simp
theorem part_all {ls : List Ln} {n : Nat} (hn : n = ls.length) : part ls n n = (meanV ls).toArray := by
  unfold part
  rw [hn, List.take_length, Nat.sub_self]
  simp
/-- A new row of what they mean. -/
def MnP (w : World) (ls : List Ln) (n : Nat) (en : Ending) (w' : World) : Prop := ∃ g, en = .returned (.slice (some ⟨g, 0, none⟩) n n) ∧ w.heap.size ≤ g ∧ w'.heap[g]? = some (.cells (meanV ls).toArray 9 (0, 0)) ∧ Below w.heap.size w w'

end Go.Proofs.YtgefoehpdiiomaaGreatDoor.Cv
namespace Go.Proofs.YtgefoehpdiiomaaGreatDoor.Cv
open Go.RowKit Go.Proofs.YtgefoehpdiiomaaGreatDoor.Jd Go.Proofs.YtgefoehpdiiomaaGreatDoor.Li
set_option maxRecDepth 100000

/-- Texts of fields: what they mean. -/
def mns (ls : List Ln) : List ByteArray := ls.map fun x => ⟨x.2.toArray⟩
theorem mean_strs (ls : List Ln) : meanV ls = (mns ls).map Value.string := by simp [meanV, mns, encs]
theorem mn_sees {w : World} {g n : Nat} {ls : List Ln} (hn : n = ls.length) (h : w.heap[g]? = some (.cells (meanV ls).toArray 9 (0, 0))) : SeesV w w.heap.size (some ⟨g, 0, none⟩) n ((mns ls).map Value.string) := by
  rw [← mean_strs]
  refine ⟨by simp [meanV]; omega, fun j u hu => ⟨g, 0, rfl, (Array.getElem?_eq_some_iff.1 h).1, ?_⟩⟩
  rw [cell_of_row _ _ _ _ _ _ h, Nat.zero_add]
  simpa using hu
theorem strs_at {w : World} {B n k : Nat} {A : Option Addr} {zs : List ByteArray} (h : SeesV w B A n (zs.map Value.string)) (hk : k < n) : ∃ b o z, A = some ⟨b, o, none⟩ ∧ b < B ∧ zs[k]? = some z ∧ w.cell? ⟨b, o + k, none⟩ = some (.string z) := by
  have hl := h.len
  rw [List.length_map] at hl
  obtain ⟨z, hz⟩ : ∃ z, zs[k]? = some z := ⟨_, List.getElem?_eq_getElem (by omega)⟩
  obtain ⟨b, o, ha, hb, hc⟩ := h.cell k (.string z) (by rw [List.getElem?_map, hz]; rfl)
  exact ⟨b, o, z, ha, hb, hz, hc⟩

set_option maxHeartbeats 4000000 in
set_option maxHeartbeats 4000000 in
/-- Is one of these there ahead already? -/
def dupF : List ByteArray → List ByteArray → Bool
  | _, [] => false
  | a, x :: r => Lib.containsS a x || dupF (a ++ [x]) r
/-- What is wrong with a head. -/
def headF : List ByteArray → Int
  | [] => 0
  | m :: cols => if (m.toList == [107, 101, 121]) = false then 6 else if cols.all cB = false then 6 else if dupF [] cols = true then 7 else 0
theorem sees_tail {w : World} {B n : Nat} {b o : Nat} {z : ByteArray} {zs : List ByteArray} (h : SeesV w B (some ⟨b, o, none⟩) n ((z :: zs).map Value.string)) : SeesV w B (some ⟨b, o + 1, none⟩) (n - 1) (zs.map Value.string) := by
  have hl := h.len
  refine ⟨by simp at hl ⊢; omega, fun j u hu => ?_⟩
  obtain ⟨b', o', e, hb, hc⟩ := h.cell (j + 1) u (by simpa using hu)
  injection e with e
  injection e with e1 e2
  subst e1; subst e2
  exact ⟨_, _, rfl, hb, by rw [show o + 1 + j = o + (j + 1) by omega]; exact hc⟩

end Go.Proofs.YtgefoehpdiiomaaGreatDoor.Cv
namespace Go.Proofs.YtgefoehpdiiomaaGreatDoor.Cv
open Go.RowKit Go.Proofs.YtgefoehpdiiomaaGreatDoor.Jd Go.Proofs.YtgefoehpdiiomaaGreatDoor.Li
set_option maxRecDepth 100000

/-- A row: its fields, how it ends. -/
structure Rw where
  fs : List Ln
  en : ByteArray
/-- What its first field means. -/
def nm (r : Rw) : ByteArray := (mns r.fs).headD ⟨#[]⟩
theorem nm_enc {r : Rw} {x : Ln} {ls : List Ln} (h : r.fs = x :: ls) : encs x.2 = .string (nm r) := by rw [nm, h]; rfl
/-- The slice holds these rows. -/
structure SeesR (w : World) (B : Nat) (A : Option Addr) (n : Nat) (rs : List Rw) : Prop where
  len : n = rs.length
  at_ : ∀ (k : Nat) (r : Rw), rs[k]? = some r → ∃ b o Af nf cf, A = some ⟨b, o, none⟩ ∧ b < B ∧ w.cell? ⟨b, o + k * 2, none⟩ = some (.slice Af nf cf) ∧ w.cell? ⟨b, o + k * 2 + 1, none⟩ = some (.string r.en) ∧ SeesL w B Af nf r.fs ∧ nf ≤ cf ∧ cf ≤ maxLen
section
variable {w w' : World} {B B' n : Nat} {A : Option Addr} {rs : List Rw}
theorem SeesR.below (h : SeesR w B A n rs) (hb : Below B w w') : SeesR w' B A n rs :=
  ⟨h.len, fun k r hr => by
    obtain ⟨b, o, Af, nf, cf, h1, h2, h3, h4, h5, h6, h7⟩ := h.at_ k r hr
    exact ⟨b, o, Af, nf, cf, h1, h2, (hb.cell (p := ⟨b, o + k * 2, none⟩) h2).trans h3, (hb.cell (p := ⟨b, o + k * 2 + 1, none⟩) h2).trans h4, h5.below hb, h6, h7⟩⟩
theorem SeesR.more (h : SeesR w B A n rs) (hB : B ≤ B') : SeesR w B' A n rs :=
  ⟨h.len, fun k r hr => by
    obtain ⟨b, o, Af, nf, cf, h1, h2, h3, h4, h5, h6, h7⟩ := h.at_ k r hr
    exact ⟨b, o, Af, nf, cf, h1, Nat.lt_of_lt_of_le h2 hB, h3, h4, h5.more hB, h6, h7⟩⟩
theorem SeesR.tail {b o : Nat} {r : Rw} (h : SeesR w B (some ⟨b, o, none⟩) n (r :: rs)) : SeesR w B (some ⟨b, o + 2, none⟩) (n - 1) rs :=
  ⟨by have := h.len; simp at this; omega, fun k x hx => by
    obtain ⟨b', o', Af, nf, cf, h1, h2, h3, h4, h5⟩ := h.at_ (k + 1) x (by simpa using hx)
    injection h1 with h1
    injection h1 with e1 e2
    subst e1; subst e2
    exact ⟨_, _, Af, nf, cf, rfl, h2, by rw [show o + 2 + k * 2 = o + (k + 1) * 2 by omega]; exact h3, by rw [show o + 2 + k * 2 + 1 = o + (k + 1) * 2 + 1 by omega]; exact h4, h5⟩⟩
end

end Go.Proofs.YtgefoehpdiiomaaGreatDoor.Cv
namespace Go.Proofs.YtgefoehpdiiomaaGreatDoor.Cv
open Go.RowKit Go.Proofs.YtgefoehpdiiomaaGreatDoor.Jd Go.Proofs.YtgefoehpdiiomaaGreatDoor.Li
set_option maxRecDepth 100000

/-- What is wrong with a row behind these. -/
def faultF (ahead : List Rw) (r : Rw) : Int :=
  if r.fs = [] then 6 else
  match ahead with
  | [] => headF (mns r.fs)
  | h :: t => if r.fs.length ≠ h.fs.length then 6 else if nB (nm r) = false then 6 else if (mns r.fs).all vB = false then 6 else if (t.any fun x => (nm x).toList == (nm r).toList) = true then 7 else 0
theorem mns_len (ls : List Ln) : (mns ls).length = ls.length := by simp [mns]

end Go.Proofs.YtgefoehpdiiomaaGreatDoor.Cv
