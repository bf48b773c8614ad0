/- The reference's put of csv: what its loops make is the file. No conditions. -/
import Derived.Test.YtkgpjohfkfbfhaaGreatDoorRpEnd
import Derived.Test.YtkgpjohfkfbfhaaGreatDoorMwRtPutR
namespace Go.Proofs.YtkgpjohfkfbfhaaGreatDoor.Cv
open Go.RowKit Go.Sort Go.Proofs.YtkgpjohfkfbfhaaGreatDoor.Jd Go.Proofs.YtkgpjohfkfbfhaaGreatDoor.Li Go.Proofs.YtkgpjohfkfbfhaaGreatDoor.Cl Go.Proofs.YtkgpjohfkfbfhaaGreatDoor.Pt
set_option maxRecDepth 100000

def NmsOf (M : Tr) (P : ByteArray → Prop) : Prop := M.Asc ∧ ∀ q : ByteArray, M.atIs q = true ↔ P q
theorem nms_nil : NmsOf .nil (fun _ => False) := ⟨nil_asc, fun q => by simp [Tr.atIs, Tr.atN, dropT_zero, Tr.headIs]⟩
theorem nms_with {M : Tr} {P Q : ByteArray → Prop} {m : ByteArray} (h : NmsOf M P) (hQ : ∀ q, Q q ↔ q = m ∨ P q) : NmsOf (M.withT m .nil) Q := by
  have ha := withT_asc (name := m) (x := .nil) h.1
  refine ⟨ha, fun q => ?_⟩
  rw [mem_atIs ha, with_bn_mem h.1, ← mem_atIs h.1, h.2, hQ]
  constructor
  · rintro (e | e)
    · exact .inl (by apply ByteArray.ext; apply Array.ext'; exact e)
    · exact .inr e
  · rintro (rfl | e)
    · exact .inl rfl
    · exact .inr e
theorem nms_congr {M : Tr} {P Q : ByteArray → Prop} (h : NmsOf M P) (hQ : ∀ q, Q q ↔ P q) : NmsOf M Q := ⟨h.1, fun q => by rw [h.2, hQ]⟩
theorem names_bn : ∀ t : Tr, t.names.map (·.data.toList) = t.bn
  | .nil => rfl
  | .cons s k r => by rw [Tr.names, List.map_cons, names_bn r, bn_cons]
theorem mem_data {L : List ByteArray} {q : ByteArray} : q.data.toList ∈ L.map (·.data.toList) ↔ q ∈ L := by
  rw [List.mem_map]
  constructor
  · rintro ⟨x, hx, e⟩
    have : x = q := by apply ByteArray.ext; apply Array.ext'; exact e
    rwa [this] at hx
  · exact fun h => ⟨q, h, rfl⟩
theorem more_names {M t : Tr} {xs : List ByteArray} (h : NmsOf M fun q => q ∈ (kidsL t).flatMap Tr.names ∧ q ∉ xs) : (lessF (colsF t) xs).map mkB = M.names := by
  have e : M.bn = lessF (colsF t) xs := by
    refine (asc_eq (l := lessF (colsF t) xs) (m := M.bn) ?_ h.1 fun x => ?_).symm
    · rw [lessF]; exact (namesOf_pair _).filter _
    · have e1 : x = (mkB x).data.toList := rfl
      rw [lessF, List.mem_filter, colsF, namesOf_mem]
      rw [e1, mem_data, ← names_bn, mem_data, ← mem_data (L := M.names), names_bn, ← mem_atIs h.1, h.2]
      have e2 : (Lib.containsS xs (mkB x) = true) ↔ mkB x ∈ xs := Lib.containsS_iff _ _
      constructor
      · rintro ⟨h1, h2⟩
        refine ⟨h1, fun h3 => ?_⟩
        rw [← e2] at h3
        simp only [Bool.not_eq_true'] at h2
        have h4 : Lib.containsS xs ⟨(mkB x).data.toList.toArray⟩ = Lib.containsS xs (mkB x) := rfl
        rw [h4, h3] at h2
        cases h2
      · rintro ⟨h1, h2⟩
        refine ⟨h1, ?_⟩
        simp only [Bool.not_eq_true']
        have h4 : Lib.containsS xs ⟨(mkB x).data.toList.toArray⟩ = Lib.containsS xs (mkB x) := rfl
        rw [h4, Bool.eq_false_iff]
        exact fun h5 => h2 (e2.1 h5)
  rw [← e, ← names_bn, List.map_map]
  have : (mkB ∘ fun x : ByteArray => x.data.toList) = id := by funext s; exact mkB_list s
  rw [this, List.map_id]
def moreF (ms : List ByteArray) : Bs := ms.flatMap fun m => 44 :: qF m.data.toList
theorem more_snoc (ms : List ByteArray) (m : ByteArray) : moreF (ms ++ [m]) = moreF ms ++ 44 :: qF m.data.toList := by
  simp [moreF]
theorem field_raw : ∀ (fs : List Ln) (ms : List ByteArray), fieldF (mns fs ++ ms) fs = fs.map (·.1) ++ ms.map (fun m => qF m.data.toList)
  | [], [] => rfl
  | [], m :: ms => by
    have := field_raw [] ms
    simp only [mns, List.map_nil, List.nil_append] at this ⊢
    rw [fieldF, this]
    rfl
  | x :: fs, ms => by
    have := field_raw fs ms
    simp only [mns, List.map_cons, List.cons_append] at this ⊢
    rw [fieldF, this, if_pos (by simp)]
theorem tail_more : ∀ ms : List ByteArray, Lib.joinTail [44] (ms.map fun m => qF m.data.toList) = moreF ms
  | [] => rfl
  | m :: ms => by
    have := tail_more ms
    simp only [Lib.joinTail, List.map_cons, List.flatten_cons, moreF, List.flatMap_cons] at this ⊢
    rw [this]
    rfl
theorem join_app {f : Bs} {r B : List Bs} : Lib.join (f :: r ++ B) [44] = Lib.join (f :: r) [44] ++ Lib.joinTail [44] B := by
  rw [List.cons_append, Lib.join_cons, Lib.join_cons, List.append_assoc]
  congr 1
  simp [Lib.joinTail]
theorem head_line {y : Ln} {x0 : Ln} {xl : List Ln} {N : List ByteArray} (hy : (rowF y).fs = x0 :: xl) (hk : mns (x0 :: xl) = kB :: mns xl) : sayF ([kB] ++ (mns xl ++ N)) (rowF y) = (y.1 ++ moreF N, y.2) := by
  have e1 : [kB] ++ (mns xl ++ N) = mns (x0 :: xl) ++ N := by rw [hk]; rfl
  have he : (rowF y).en.data.toList = y.2 := rfl
  rw [sayF, hy, e1, field_raw, List.map_cons, join_app, tail_more, he]
  have ht : Lib.join ((x0 :: xl).map (·.1)) [44] = y.1 := by
    have hf : fldsL y.1 = x0 :: xl := hy
    rw [fldsL, ← fldsR_eq] at hf
    cases hq : fldsR (y.1.length + 1) y.1 with
    | none => rw [hq] at hf; cases hf
    | some fs =>
      rw [hq] at hf
      have h1 := flds_text _ _ _ hq
      have h2 : fs = x0 :: xl := hf
      rw [h2] at h1
      exact h1
  rw [List.map_cons] at ht
  rw [ht]
def freshL (cols : List ByteArray) (T : Tr) (E : Bs) (e : ByteArray × Tr) : Option Ln := if T.atIs e.1 = true then none else some (lineF e.1 cols e.2 [], E)
theorem fresh_same {t T : Tr} {cols : List ByteArray} {E : Bs} {rs : List Rw} (ha : t.Asc) (hT : ∀ q, T.atIs q = true ↔ q ∈ rs.map nm) :
    (eds t).filterMap (freshL cols T E) = ((lessF (namesOf t.names) (rs.map nm)).map (freshB cols t)).map fun x => (x, E) := by
  have e0 : namesOf t.names = (eds t).map fun e => e.1.data.toList := by
    rw [← eds_bn]
    exact asc_eq (namesOf_pair _) ha fun x => by rw [namesOf_mem, names_bn]
  rw [e0, lessF, List.filter_map, List.map_map, List.map_map]
  have key : ∀ es : List (ByteArray × Tr), (∀ e ∈ es, (getT t [e.1]).1 = e.2) → es.filterMap (freshL cols T E) = (es.filter ((fun l => !(Lib.containsS (rs.map nm) ⟨l.toArray⟩)) ∘ fun e => e.1.data.toList)).map (((fun x => (x, E)) ∘ freshB cols t) ∘ fun e => e.1.data.toList) := by
    intro es
    induction es with
    | nil => intro _; rfl
    | cons e es ih =>
      intro hg
      have ih := ih fun x hx => hg x (List.mem_cons_of_mem _ hx)
      have he := hg e (List.mem_cons_self ..)
      have hm : (ByteArray.mk e.1.data.toList.toArray) = e.1 := mkB_list e.1
      rw [List.filterMap_cons, List.filter_cons, ih]
      unfold freshL
      by_cases h1 : T.atIs e.1 = true
      · have h2 : Lib.containsS (rs.map nm) e.1 = true := (Lib.containsS_iff _ _).2 ((hT _).1 h1)
        rw [if_pos h1]
        simp only [Function.comp, hm, h2, Bool.not_true, Bool.false_eq_true, if_false]
      · have h2 : Lib.containsS (rs.map nm) e.1 = false := by
          rw [Bool.eq_false_iff]
          exact fun h3 => h1 ((hT _).2 ((Lib.containsS_iff _ _).1 h3))
        rw [if_neg h1]
        simp only [Function.comp, hm, h2, Bool.not_false, if_true, List.map_cons]
        congr 1
        rw [freshB, lineF, show mkB e.1.data.toList = e.1 from mkB_list _, he]
  refine key _ fun e he => ?_
  have := (mem_eds ha e.1 e.2).1 he
  rw [getT_one, if_pos this.1, this.2]
theorem put_same {hd : Rw} {xl : List Ln} {rs : List Rw} {t T : Tr} {E : Bs} {top : Ln} (ha : t.Asc) (hT : ∀ q, T.atIs q = true ↔ q ∈ rs.map nm) (htop : sayF ([kB] ++ colsP xl t) hd = top) (hE : endOf [top] = E) :
    join (ended E (top :: rs.filterMap (stayF (colsP xl t) t) ++ (eds t).filterMap (freshL (colsP xl t) T E))) = putB hd xl rs t := by
  have e1 : stayL hd xl rs t = top :: rs.filterMap (stayF (colsP xl t) t) := by rw [stayL, htop]; rfl
  have e2 : endOf (stayL hd xl rs t) = E := by rw [e1, ← hE]; rfl
  rw [putB, Li.insert, e2, List.take_length, List.drop_length, List.append_nil, fresh_same ha hT, e1]
end Go.Proofs.YtkgpjohfkfbfhaaGreatDoor.Cv
