/- vfs: Names: in order, each once. No conditions but that there is no more than 2^40 of anything. -/
import Derived.Test.YtpaaafdnkehmfaaVfCrash
import Derived.Test.YtpaaafdnkehmfaaNamesLay
namespace Go.Proofs.Ytpaaafdnkehmfaa.Vf
open Go.RowKit Go.Maps Go.Sort Go.Shelf
set_option maxRecDepth 100000

theorem sortsA (m : Nat) : AnyZ.SortsIn Try.prog Try.sortedA_ren Fence.wide m :=
  ⟨fun blk off cap ss W hH hblk hsz => callsIn_wide.2 (AnyM.slices_Sort_string Try.sortA blk off cap ss W hH hblk hsz),
   fun p cap W => callsIn_wide.2 (AnyM.slices_Sort_string_none Try.sortA p cap W)⟩
theorem keys_any (mb : Option Nat) (W : World) : Calls Try.prog 60 #[.map mb] W fun e w' => e = .returned (.func (.func 79) #[] #[.pointer (some ⟨W.heap.size, 0, none⟩)]) ∧ w' = W.alloc (.cells #[.map mb] 67) :=
  callsIn_wide.1 (AnyZ.keys_in Try.keysA Fence.wide 5 trivial rfl mb W)

abbrev strL (l : List BS) : List Value := l.map encStr
/-- Names in a row of its own. -/
def NamesP (l : List BS) (w : World) (e : Ending) (w' : World) : Prop :=
  ∃ A c, e = .returned (.slice A l.length c) ∧ w'.ownsRow w.heap.size 9 1 (.slice A l.length c) l.length (strL l) ∧ Below w.heap.size w w'
theorem namesP_of {l : List BS} {w w0 w' : World} {v : Value} (hr : w'.ownsRow w0.heap.size 9 1 v l.length (strL l)) (hb : Below w0.heap.size w0 w') (h0 : Below w.heap.size w w0) : NamesP l w (.returned v) w' := by
  have hbb := h0.trans (hb.mono h0.size)
  rcases hr with ⟨h1, h2⟩
  rcases h2 with ⟨e, hn⟩ | ⟨g, cap, cur, e, hg, rest⟩
  · subst e
    obtain rfl : l = [] := List.eq_nil_of_length_eq_zero hn
    exact ⟨none, 0, rfl, ⟨rfl, .inl ⟨rfl, rfl⟩⟩, hbb⟩
  · subst e
    exact ⟨_, _, rfl, ⟨h1, .inr ⟨g, cap, cur, rfl, Nat.le_trans h0.size hg, rest⟩⟩, hbb⟩

section
variable {V : Vm} {w : World} {B p N : Nat}
set_option maxHeartbeats 1000000 in
theorem names_any (h : Vp w B p V) (hl : Lim V N) (hN : N ≤ 1099511627776) : Calls Try.prog 32 #[.pointer (some ⟨p, 0, none⟩)] w (NamesP (V.now.map (·.1)) w) := by
  obtain ⟨m1, m2, A, n, c, vs, h⟩ := h
  have c0 : w.cell? ⟨p, 0, none⟩ = some m1 := h.box.cells 0
  have hF := h.f1
  have hlen := hl.now
  have hasc := hl.ascNow
  clear h
  rcases hF with ⟨rfl, hnil⟩ | ⟨b, D, rfl, hB, ho, hFD⟩
  · rw [hnil]
    have hseq : SeqGives Fence.wide 2 Try.prog 79 #[.pointer (some ⟨w.heap.size, 0, none⟩)] encStr (fun ss : List (List UInt8) => ss = []) 0 (w.alloc (.cells #[.map none] 67)) :=
      AnyZ.keys_gives_nil (ρ := Try.keysA_ren) { Try.keysA with } Fence.wide _ trivial rfl w.heap.size _ (by simp) (by simp)
    have cS := AnyZ.sorted_in Try.sortedA Fence.wide 5 trivial trivial trivial trivial rfl (by omega) (sortsA _) (enters_of Try.func78 (by kernel_rfl) rfl) 79 #[.pointer (some ⟨w.heap.size, 0, none⟩)] trivial (enters_of Try.func79 (by kernel_rfl) rfl) _ 0 (Nat.zero_le _) (by omega) _ hseq
    have cS2 := callsIn_wide.1 cS
    change Calls Try.prog 59 _ _ _ at cS2
    have HCS := Lib.hid cS2
    clear cS cS2 hseq hnil
    go_enter Try.func32, Try.ntmps32
    go_wp2_with (first
      | (go_at_call 60; (with_reducible refine (keys_any _ _).mono ?_); rintro e w' ⟨rfl, rfl⟩)
      | (go_at_call 59; refine HCS.out.mono ?_; rintro e w' ⟨v, ss, rfl, rfl, hrow, hnil, hb⟩))
    go_ret
    rw [List.mergeSort_nil] at hrow
    exact namesP_of (l := []) hrow hb ((Below.refl _ _).alloc (Nat.le_refl _) _)
  · have hsz := hFD.size ho hasc
    have hsort := fun (ss : List BS) (hp : ss.Perm (strKeys D)) => hFD.sorted ho hasc hp
    have hbl := World.ownsMap.lt ho
    have hseq : SeqGives Fence.wide 2 Try.prog 79 #[.pointer (some ⟨w.heap.size, 0, none⟩)] encStr (fun ss => ss.Perm (strKeys D)) (Maps.size D) (w.alloc (.cells #[.map (some b)] 67)) :=
      AnyZ.keys_gives (ρ := Try.keysA_ren) { Try.keysA with } Fence.wide _ trivial rfl (by omega) w.heap.size b _ D _ (by simp) (by simp) (ho.eq (heap_alloc_old w _ hbl))
    have cS := AnyZ.sorted_in Try.sortedA Fence.wide 5 trivial trivial trivial trivial rfl (by omega) (sortsA _) (enters_of Try.func78 (by kernel_rfl) rfl) 79 #[.pointer (some ⟨w.heap.size, 0, none⟩)] trivial (enters_of Try.func79 (by kernel_rfl) rfl) _ (Maps.size D) (by rw [hsz]; unfold maxLen; omega) (by rw [hsz]; omega) _ hseq
    have cS2 := callsIn_wide.1 cS
    change Calls Try.prog 59 _ _ _ at cS2
    have HCS := Lib.hid cS2
    have HSO := Lib.hid hsort
    clear cS cS2 hseq hsort hsz hlen hasc hFD ho hbl
    go_enter Try.func32, Try.ntmps32
    go_wp2_with (first
      | (go_at_call 60; (with_reducible refine (keys_any _ _).mono ?_); rintro e w' ⟨rfl, rfl⟩)
      | (go_at_call 59; refine HCS.out.mono ?_; rintro e w' ⟨v, ss, rfl, hperm, hrow, hnil, hb⟩))
    go_ret
    rw [HSO.out ss hperm] at hrow
    have hls : ss.length = (V.now.map (·.1)).length := by rw [← HSO.out ss hperm, List.length_mergeSort]
    rw [hls] at hrow
    exact namesP_of hrow hb ((Below.refl _ _).alloc (Nat.le_refl _) _)
end
end Go.Proofs.Ytpaaafdnkehmfaa.Vf
