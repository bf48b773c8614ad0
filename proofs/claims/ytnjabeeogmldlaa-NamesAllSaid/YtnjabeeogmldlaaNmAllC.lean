/- What NamesAll's calls tell of two sets: names' functions and the document's own. Conditions: fewer than 4,096 names in each. -/
import Derived.Test.YtnjabeeogmldlaaNmRefBoth
import Derived.Test.YtnjabeeogmldlaaNmRefSame
import Derived.Test.YtnjabeeogmldlaaNmHas
namespace Go.Proofs.Ytnjabeeogmldlaa.Nm
open Go.RowKit
set_option maxRecDepth 100000

/-- A set is told, one that was told ahead is seen still. -/
def At2 (W1 : World) (s : St) (A1 : Option Addr) (e : Ending) (w' : World) : Prop := ∃ A' c', e = .returned (.agg #[.bool s.all, .slice A' s.l.length c']) ∧ In w' s A1 s.l.length ∧ In w' s A' s.l.length ∧ Below W1.heap.size W1 w'
theorem told_at2 {W1 W : World} {s : St} {A1 : Option Addr} {f : Nat} {args : Array Value} (hb : Below W1.heap.size W1 W) (hi : In W s A1 s.l.length) (h : Calls Try.prog f args W (Told s W)) : Calls Try.prog f args W (At2 W1 s A1) := by
  refine h.mono ?_
  rintro e w' ⟨A', c', rfl, hs, hb'⟩
  exact ⟨A', c', rfl, hi.below hb', ⟨hs⟩, hb.trans (hb'.mono hb.size)⟩
theorem is_of {W1 W : World} {d : Bool} {f : Nat} {args : Array Value} (hb : Below W1.heap.size W1 W) (h : Calls Try.prog f args W fun e w' => e = .returned (.bool d) ∧ Below W.heap.size W w') : Calls Try.prog f args W (Is W1 d) :=
  h.mono fun _ _ h => ⟨h.1, hb.trans (h.2.mono hb.size)⟩

structure AllC (x y s1 s4 s7 : St) (d e f : Bool) (q : ByteArray) (A A2 : Option Addr) (n c n2 c2 : Nat) (W1 : World) : Prop where
  h1 : ∀ W, Below W1.heap.size W1 W → Calls Try.prog 49 #[.agg #[.bool x.all, .slice A n c], .agg #[.bool y.all, .slice A2 n2 c2]] W (At W1 s1)
  h2 : ∀ W A3, Below W1.heap.size W1 W → In W s1 A3 s1.l.length → Calls Try.prog 50 #[.agg #[.bool x.all, .slice A n c], .agg #[.bool y.all, .slice A2 n2 c2]] W (At2 W1 s1 A3)
  h3 : ∀ W A3 c3 A4 c4, Below W1.heap.size W1 W → In W s1 A3 s1.l.length → In W s1 A4 s1.l.length → Calls Try.prog 48 #[.agg #[.bool s1.all, .slice A3 s1.l.length c3], .agg #[.bool s1.all, .slice A4 s1.l.length c4]] W (Is W1 true)
  h4 : ∀ W, Below W1.heap.size W1 W → Calls Try.prog 51 #[.agg #[.bool x.all, .slice A n c], .agg #[.bool y.all, .slice A2 n2 c2]] W (At W1 s4)
  h5 : ∀ W A3, Below W1.heap.size W1 W → In W s4 A3 s4.l.length → Calls Try.prog 52 #[.agg #[.bool x.all, .slice A n c], .agg #[.bool y.all, .slice A2 n2 c2]] W (At2 W1 s4 A3)
  h6 : ∀ W A3 c3 A4 c4, Below W1.heap.size W1 W → In W s4 A3 s4.l.length → In W s4 A4 s4.l.length → Calls Try.prog 48 #[.agg #[.bool s4.all, .slice A3 s4.l.length c3], .agg #[.bool s4.all, .slice A4 s4.l.length c4]] W (Is W1 true)
  h7 : ∀ W, Below W1.heap.size W1 W → Calls Try.prog 53 #[.agg #[.bool x.all, .slice A n c]] W (At W1 s7)
  h8 : ∀ W A3, Below W1.heap.size W1 W → In W s7 A3 s7.l.length → Calls Try.prog 54 #[.agg #[.bool x.all, .slice A n c]] W (At2 W1 s7 A3)
  h9 : ∀ W A3 c3 A4 c4, Below W1.heap.size W1 W → In W s7 A3 s7.l.length → In W s7 A4 s7.l.length → Calls Try.prog 48 #[.agg #[.bool s7.all, .slice A3 s7.l.length c3], .agg #[.bool s7.all, .slice A4 s7.l.length c4]] W (Is W1 true)
  h10 : ∀ W, Below W1.heap.size W1 W → Calls Try.prog 55 #[.agg #[.bool x.all, .slice A n c], .agg #[.bool y.all, .slice A2 n2 c2]] W (Is W1 d)
  h11 : ∀ W, Below W1.heap.size W1 W → Calls Try.prog 56 #[.agg #[.bool x.all, .slice A n c], .agg #[.bool y.all, .slice A2 n2 c2]] W (Is W1 d)
  h12 : ∀ W, Below W1.heap.size W1 W → Calls Try.prog 57 #[.agg #[.bool x.all, .slice A n c]] W (Is W1 e)
  h13 : ∀ W, Below W1.heap.size W1 W → Calls Try.prog 58 #[.agg #[.bool x.all, .slice A n c]] W (Is W1 e)
  h14 : ∀ W, Below W1.heap.size W1 W → Calls Try.prog 59 #[.agg #[.bool x.all, .slice A n c], .string q] W (Is W1 f)
  h15 : ∀ W, Below W1.heap.size W1 W → Calls Try.prog 60 #[.agg #[.bool x.all, .slice A n c], .string q] W (Is W1 f)

theorem all_calls (x y : St) (q : ByteArray) (A A2 : Option Addr) (n c n2 c2 : Nat) (hn : n ≤ 4096) (hn2 : n2 ≤ 4096) (hxl : x.l.length = n) (hyl : y.l.length = n2) : ∃ s1 s4 s7 d e f, ∀ W1, In W1 x A n → In W1 y A2 n2 → AllC x y s1 s4 s7 d e f q A A2 n c n2 c2 W1 := by
  have h1 : (both x y).l.length ≤ 8192 := by have := both_le x y; omega
  have h4 : (either x y).l.length ≤ 8192 := by have := either_le x y; omega
  have h7 : (nott x).l.length ≤ 8192 := by have := nott_le x; omega
  refine ⟨both x y, either x y, nott x, same x y, x.none, x.mem q.data.toList, fun W1 hx hy => ⟨?_, ?_, ?_, ?_, ?_, ?_, ?_, ?_, ?_, ?_, ?_, ?_, ?_, ?_, ?_⟩⟩
  · exact fun W hb => both_at x y A A2 n c n2 c2 hn hn2 W hb (hx.below hb) (hy.below hb)
  · exact fun W A3 hb hi => told_at2 hb hi (rboth_any x y A A2 n c n2 c2 W (hx.below hb) (hy.below hb) (by omega) (by omega))
  · exact fun W A3 c3 A4 c4 hb hi hj => is_of hb (exact_yes (both x y) (both x y) A3 A4 _ c3 _ c4 W hi hj rfl rfl (by omega))
  · exact fun W hb => either_at x y A A2 n c n2 c2 hn hn2 W hb (hx.below hb) (hy.below hb)
  · exact fun W A3 hb hi => told_at2 hb hi (reither_any x y A A2 n c n2 c2 W (hx.below hb) (hy.below hb) (by omega) (by omega))
  · exact fun W A3 c3 A4 c4 hb hi hj => is_of hb (exact_yes (either x y) (either x y) A3 A4 _ c3 _ c4 W hi hj rfl rfl (by omega))
  · exact fun W hb => not_at x A n c hn W hb (hx.below hb)
  · exact fun W A3 hb hi => told_at2 hb hi (rnot_any x A n c W (hx.below hb) (by omega))
  · exact fun W A3 c3 A4 c4 hb hi hj => is_of hb (exact_yes (nott x) (nott x) A3 A4 _ c3 _ c4 W hi hj rfl rfl (by omega))
  · exact fun W hb => same_at x y A A2 n c n2 c2 hn hn2 W hb (hx.below hb) (hy.below hb)
  · exact fun W hb => is_of hb (rsame_any x y A A2 n c n2 c2 W (hx.below hb) (hy.below hb) (by omega) (by omega))
  · exact fun W hb => is_of hb (by have := none_any x.all A n c W; rw [← hxl] at this ⊢; exact this)
  · exact fun W hb => is_of hb (by have := rnone_any x.all A n c W; rw [← hxl] at this ⊢; exact this)
  · exact fun W hb => is_of hb (has_name x A n c q W (hx.below hb) (by omega))
  · exact fun W hb => is_of hb (rhas_any x A n c q W (hx.below hb) (by omega))
end Go.Proofs.Ytnjabeeogmldlaa.Nm
