/-
  Series in a row of their own, sorted by their labels.
-/
import Derived.Test.YtnbfbnhiikliaaaGreatHcmp
import Derived.Test.YtnbfbnhiikliaaaGreatSort
namespace Go.Proofs.YtnbfbnhiikliaaaGreat.Hd
open Go.RowKit Go.Proofs.Lys Go.Sort Go.Shelf Go.Proofs.YtnbfbnhiikliaaaGreat.N
set_option linter.unusedVariables false
set_option linter.unusedSimpArgs false

/-- A series that is told. -/
structure SV where
  lv : Value
  sv : Value
  labs : Labs
  smps : Smps
def SV.has (x : SV) (k : Nat) : Prop := x.lv.ownBlock = some k ∨ x.sv.ownBlock = some k
def serV (x : SV) : Ser := (x.labs, x.smps)
def svL : List SV → List Value
  | [] => []
  | x :: r => x.lv :: x.sv :: svL r
theorem svL_len (l : List SV) : (svL l).length = l.length * 2 := by
  induction l with
  | nil => rfl
  | cons p r ih => rw [svL, List.length_cons, List.length_cons, ih, List.length_cons]; omega
theorem svL_app (l r : List SV) : svL (l ++ r) = svL l ++ svL r := by
  induction l with
  | nil => rfl
  | cons p l ih => rw [List.cons_append, svL, ih, svL]; rfl
theorem svL_at (l : List SV) (i : Nat) (h : i < l.length) : (svL l)[i * 2]? = some l[i].lv ∧ (svL l)[i * 2 + 1]? = some l[i].sv := by
  induction l generalizing i with
  | nil => simp at h
  | cons p r ih =>
    cases i with
    | zero => exact ⟨rfl, rfl⟩
    | succ i =>
      have := ih i (by simpa using h)
      rw [show (i + 1) * 2 = i * 2 + 2 by omega]
      exact this
theorem Tryz.infoSer : (Tryz.prog.info? 56).map (fun i => (i.zero, i.size, i.bytes)) = some (some (.agg #[.slice none 0 0, .slice none 0 0]), 2, 48) := by kernel_rfl
/-- Series that lie in blocks of their own, from B on. -/
structure SerAt (w : World) (B : Nat) (v : Value) (xs : List SV) : Prop where
  row : w.ownsRow B 56 2 v xs.length (svL xs)
  lab : ∀ x ∈ xs, LabAt w B x.lv x.labs
  smp : ∀ x ∈ xs, SmpAt w B x.sv x.smps
  apart : xs.Pairwise (fun a b => ∀ k, a.has k → ¬ b.has k)
theorem SerAt.only {w w' : World} {B : Nat} {v : Value} {xs : List SV} {O : Nat → Prop} (h : SerAt w B v xs) (k : Only O w w') (hO : ∀ j, B ≤ j → j < w.heap.size → ¬ O j) : SerAt w' B v xs :=
  ⟨ownN_only h.row k (fun b hb => hO b (ownN_lt h.row hb).1 (ownN_lt h.row hb).2), fun x hx => ownN_only (h.lab x hx) k (fun b hb => hO b (ownN_lt (h.lab x hx) hb).1 (ownN_lt (h.lab x hx) hb).2), fun x hx => ownN_only (h.smp x hx) k (fun b hb => hO b (ownN_lt (h.smp x hx) hb).1 (ownN_lt (h.smp x hx) hb).2), h.apart⟩
theorem SerAt.stay {w w' : World} {B : Nat} {v : Value} {xs : List SV} (h : SerAt w B v xs) (k : Kept w w') : SerAt w' B v xs := h.only k (fun _ _ _ f => f)
theorem SerAt.nil (w : World) (B : Nat) : SerAt w B (.slice none 0 0) [] := ⟨World.ownsRow_nil _ _ _ _, (fun x hx => by cases hx), (fun x hx => by cases hx), .nil⟩
theorem svL_one {xs : List SV} {w : World} {B : Nat} (hl : ∀ x ∈ xs, LabAt w B x.lv x.labs) (hs : ∀ x ∈ xs, SmpAt w B x.sv x.smps) : ∀ u ∈ svL xs, u.oneCell' = true := by
  induction xs with
  | nil => intro u hu; cases hu
  | cons p r ih =>
    intro u hu
    rw [svL] at hu
    simp only [List.mem_cons] at hu
    rcases hu with rfl | rfl | hu
    · obtain ⟨a, c, e⟩ := ownN_slice (hl p (List.mem_cons_self ..))
      rw [e]; rfl
    · obtain ⟨a, c, e⟩ := ownN_slice (hs p (List.mem_cons_self ..))
      rw [e]; rfl
    · exact ih (fun x hx => hl x (List.mem_cons_of_mem _ hx)) (fun x hx => hs x (List.mem_cons_of_mem _ hx)) u hu

theorem only_sortK {α : Type} [Inhabited α] (enc : α → List Value) (k : Nat) (w : World) (blk off m : Nat) (dk : Array α) (os : Array Obj) : Only (fun j => j = blk) w (sortWorldK enc k w blk off m dk os) := by
  refine ⟨rfl, rfl, rfl, ?_, fun j hj hn => ?_⟩
  · unfold sortWorldK
    rw [size_grow, size_putRowK]
    exact Nat.le_add_right _ _
  · unfold sortWorldK
    rw [heap_grow_old _ _ (by rw [size_putRowK]; exact hj)]
    show ((Go.Sort.ahead w m).heap.modify blk _)[j]? = _
    rw [Array.getElem?_modify, if_neg (fun e => hn e.symm)]
    rfl

set_option maxHeartbeats 800000 in
theorem clos_ser (w : World) (x y : SV) (hx : LabSrc w x.lv x.labs) (hy : LabSrc w y.lv y.labs) (hlx : x.labs.length ≤ 1000000) (hly : y.labs.length ≤ 1000000) (hsx : ∃ a n c, x.sv = .slice a n c) (hsy : ∃ a n c, y.sv = .slice a n c) :
    Calls Tryz.prog 63 #[.agg #[x.lv, x.sv], .agg #[y.lv, y.sv]] w fun e w' => e = .returned (.int .i64 (cmpL x.labs y.labs)) ∧ Grew w w' := by
  have k2 : Kept w ((w.alloc (.cells #[x.lv, x.sv] 56)).alloc (.cells #[y.lv, y.sv] 56)) := ((Only.refl _ w).alloc _).alloc _
  have g2 : Grew w ((w.alloc (.cells #[x.lv, x.sv] 56)).alloc (.cells #[y.lv, y.sv] 56)) := ((Grew.refl w).alloc _).alloc _
  have H := hid (cmp_any _ _ _ x.labs y.labs (hx.stay k2) (hy.stay k2) hlx hly)
  have b1 := (Blk.new w [x.lv, x.sv] 56).alloc (.cells #[y.lv, y.sv] 56)
  have b2 := Blk.new (w.alloc (.cells #[x.lv, x.sv] 56)) [y.lv, y.sv] 56
  simp only [World.size_alloc] at b2
  have c0 := b1.cell 0 rfl
  have c1 := b1.cell 1 rfl
  have c2 := b2.cell 0 rfl
  have c3 := b2.cell 1 rfl
  have G := hid g2
  obtain ⟨a1, q1, e1⟩ := hx.len
  obtain ⟨a2, q2, e2⟩ := hy.len
  obtain ⟨a3, n3, q3, e3⟩ := hsx
  obtain ⟨a4, n4, q4, e4⟩ := hsy
  rw [e1, e2, e3, e4] at H c0 c1 c2 c3 G ⊢
  clear hx hy k2 g2 b1 b2 e1 e2 e3 e4
  generalize cmpL x.labs y.labs = r at *
  generalize x.labs.length = n1 at *
  generalize y.labs.length = n2 at *
  go_enter Tryz.func63, Tryz.ntmps63
  go_wp2_with fail
  refine H.out.mono ?_
  rintro e w1 ⟨rfl, g1⟩
  have G1 := hid (G.out.trans g1)
  clear g1 H
  go_wp2
  go_ret
  exact ⟨rfl, G1.out⟩

abbrev El (xs : List SV) := { x : SV // x ∈ xs }
def encE {xs : List SV} (x : El xs) : List Value := [x.1.lv, x.1.sv]
def cmpE {xs : List SV} (x y : El xs) : Int := cmpL x.1.labs y.1.labs
theorem ltE {xs : List SV} (x y : El xs) : ltOf cmpE x y = decide (cmpL x.1.labs y.1.labs = -1) := by
  unfold ltOf cmpE
  have := cmpL_good.rng x.1.labs y.1.labs
  rcases this with e | e | e <;> rw [e] <;> rfl
theorem swoE {xs : List SV} : SWO (ltOf (cmpE (xs := xs))) where
  irrefl x := by
    rw [ltE]
    have := cmpL_good.self x.1.labs
    simp [this]
  trans x y z h1 h2 := by
    rw [ltE] at *
    simp only [decide_eq_true_eq] at *
    exact cmpL_good.trans _ _ _ h1 h2
  ntrans x y z h1 h2 := by
    rw [ltE] at *
    simp only [decide_eq_false_iff_not] at *
    have r1 := cmpL_good.rng x.1.labs y.1.labs
    have r2 := cmpL_good.rng y.1.labs z.1.labs
    have a1 := cmpL_good.anti x.1.labs y.1.labs
    have a2 := cmpL_good.anti y.1.labs z.1.labs
    have a3 := cmpL_good.anti x.1.labs z.1.labs
    have := cmpL_good.trans_le (x := z.1.labs) (y := y.1.labs) (z := x.1.labs) (by omega) (by omega)
    omega
theorem flat_E {xs : List SV} : ∀ (l : List (El xs)), svL (l.map (·.1)) = (l.map encE).flatten
  | [] => rfl
  | x :: r => by
    rw [List.map_cons, svL, flat_E r]
    rfl

set_option maxRecDepth 100000 in
theorem sort_ser (w : World) (B : Nat) (v : Value) (xs : List SV) (h : SerAt w B v xs) (hd : xs.Pairwise (fun a b => a.labs ≠ b.labs)) (hl : ∀ x ∈ xs, x.labs.length ≤ 1000000) (hlen : xs.length ≤ 1000000) :
    Calls Tryz.prog 62 #[v, .func (.func 63) #[] #[]] w fun e w' => e = .returned (.tuple #[]) ∧ Only (fun k => v.ownBlock = some k) w w' ∧ ∃ qs : List SV, qs.Perm xs ∧ (qs.Pairwise fun a b => cmpL a.labs b.labs = -1) ∧ SerAt w' B v qs := by
  rcases h.row.2 with ⟨rfl, h0⟩ | ⟨g, cap, cur, rfl, hb, hg, hnc, hcm, hcs, htake⟩
  · have hx0 : xs = [] := List.length_eq_zero_iff.1 h0
    subst hx0
    refine (AnyF.slices_SortFunc_none Tryz.sortP none 0 _ w).mono ?_
    rintro e w' ⟨rfl, rfl⟩
    exact ⟨rfl, Only.refl _ _, [], .refl _, .nil, h⟩
  · by_cases hx0 : xs.length = 0
    · have hx1 : xs = [] := List.length_eq_zero_iff.1 hx0
      subst hx1
      refine (AnyF.slices_SortFunc_none Tryz.sortP (some ⟨g, 0, none⟩) cap _ w).mono ?_
      rintro e w' ⟨rfl, rfl⟩
      exact ⟨rfl, Only.refl _ _, [], .refl _, .nil, h⟩
    have hinh : Inhabited (El xs) := ⟨⟨xs[0]'(by omega), List.getElem_mem _⟩⟩
    have hsz : (xs.attach.toArray).size = xs.length := by simp
    have hglt := (Array.getElem?_eq_some_iff.1 hg).1
    have hcell : ∀ j u, (svL xs)[j]? = some u → cur[j]? = some u := fun j u hj => by
      have hj2 := (List.getElem?_eq_some_iff.1 hj).1
      rw [svL_len] at hj2
      rw [← htake, List.getElem?_take, if_pos (by omega)] at hj
      simpa using hj
    have hflat : ∀ (ys : List (El xs)) (t : Nat) (ht : t < ys.length * 2), (encE (ys.toArray[t / 2]!))[t % 2]! = ((svL (ys.map (·.1)))[t]?).getD undef := fun ys t ht => by
      have hlt : t / 2 < ys.length := by omega
      have e1 : ys.toArray[t / 2]! = ys[t / 2] := by rw [getElem!_pos _ _ (by simpa using hlt)]; simp
      rw [e1]
      have h2 := svL_at (ys.map (·.1)) (t / 2) (by simpa using hlt)
      rcases (show t % 2 = 0 ∨ t % 2 = 1 by omega) with e | e
      · rw [e]
        have h3 := h2.1
        rw [show t / 2 * 2 = t by omega] at h3
        rw [h3]
        simp [encE]
      · rw [e]
        have h3 := h2.2
        rw [show t / 2 * 2 + 1 = t by omega] at h3
        rw [h3]
        simp [encE]
    have hH : HoldsK (encE (xs := xs)) 2 w g 0 xs.attach.toArray := by
      intro t ht
      rw [size_flatK, hsz] at ht
      refine ⟨?_, by simp [World.frozen?, hg]⟩
      rw [get_flatK encE 2 _ t (by rw [hsz]; exact ht)]
      have h3 := hflat xs.attach t (by simpa using ht)
      simp only [List.attach_map_subtype_val] at h3
      show w.cell? ⟨g, 0 + t, none⟩ = some (id _)
      rw [id, h3, Nat.zero_add]
      have h4 : t < (svL xs).length := by rw [svL_len]; exact ht
      have h5 := hcell t _ (List.getElem?_eq_getElem h4)
      simp only [World.cell?, hg]
      rw [List.getElem?_eq_getElem h4]
      simpa using h5
    have hne : ∀ x ∈ xs, ∀ j, x.lv.ownBlock = some j → j ≠ g := fun x hx j hj => (ownN_typed (h.lab x hx) hj).ne ⟨_, _, hg⟩ (by decide)
    have hne2 : ∀ x ∈ xs, ∀ j, x.sv.ownBlock = some j → j ≠ g := fun x hx j hj => (ownN_typed (h.smp x hx) hj).ne ⟨_, _, hg⟩ (by decide)
    have eg : ∀ args w, (callFunc 63 args).run Tryz.prog w = .ok (.enter 63 args) w := enters_of Tryz.func63 (by kernel_rfl) rfl
    have hcmp : CmpLays Tryz.prog 63 #[] (encE (xs := xs)) 2 cmpE g 0 xs.attach.toArray.size w := fun m os dk hdk x y => by
      have ko := only_sortK (encE (xs := xs)) 2 w g 0 m dk os
      have lx := LabAt.src (ownN_only (h.lab x.1 x.2) ko (hne x.1 x.2))
      have ly := LabAt.src (ownN_only (h.lab y.1 y.2) ko (hne y.1 y.2))
      obtain ⟨a3, c3, e3⟩ := ownN_slice (h.smp x.1 x.2)
      obtain ⟨a4, c4, e4⟩ := ownN_slice (h.smp y.1 y.2)
      exact clos_ser _ x.1 y.1 lx ly (hl x.1 x.2) (hl y.1 y.2) ⟨_, _, _, e3⟩ ⟨_, _, _, e4⟩
    have hT : ∀ x y : El xs, (ltOf cmpE) x y = false → (ltOf cmpE) y x = false → x = y := fun x y h1 h2 => by
      rw [ltE] at h1 h2
      simp only [decide_eq_false_iff_not] at h1 h2
      have r1 := cmpL_good.rng x.1.labs y.1.labs
      have a1 := cmpL_good.anti x.1.labs y.1.labs
      have h0 := cmpL_good.zero x.1.labs y.1.labs (by omega)
      have hin : ∀ (l : List SV), l.Pairwise (fun a b => a.labs ≠ b.labs) → ∀ {a b : SV}, a ∈ l → b ∈ l → a.labs = b.labs → a = b := fun l => by
        induction l with
        | nil => intro _ a b ha; cases ha
        | cons z r ih =>
          intro hp a b ha hb e
          have hz := List.pairwise_cons.1 hp
          rcases List.mem_cons.1 ha with e1 | ha'
          · rcases List.mem_cons.1 hb with e2 | hb'
            · rw [e1, e2]
            · exact absurd (by rw [← e1]; exact e) (hz.1 b hb')
          · rcases List.mem_cons.1 hb with e2 | hb'
            · exact absurd (by rw [← e2]; exact e.symm) (hz.1 a ha')
            · exact ih hz.2 ha' hb' e
      exact Subtype.ext (hin xs hd x.2 y.2 h0)
    have hcon := AnyQ.slices_SortFunc_total Tryz.sortP 2 (fun w => by kernel_rfl) (fun w => by kernel_rfl) (encE (xs := xs)) (fun _ => rfl) (fun x u hu => by
        simp [encE] at hu
        rcases hu with rfl | rfl
        · obtain ⟨a, c, e⟩ := ownN_slice (h.lab x.1 x.2)
          rw [e]; rfl
        · obtain ⟨a, c, e⟩ := ownN_slice (h.smp x.1 x.2)
          rw [e]; rfl) cmpE swoE 63 #[] g 0 cap xs.attach.toArray w eg hcmp hH hglt (by rw [hsz]; omega) hT
    rw [hsz] at hcon
    refine hcon.mono ?_
    rintro e w' ⟨rfl, n, os, rfl⟩
    generalize hys : (List.mergeSort xs.attach.toArray.toList fun x y => !ltOf cmpE y x) = ys
    have hperm : ys.Perm xs.attach := by
      rw [← hys]
      exact List.mergeSort_perm _ _
    have hsorted : ys.Pairwise (fun a b => (!ltOf cmpE b a) = true) := by
      rw [← hys]
      refine List.pairwise_mergeSort (fun a b c h1 h2 => ?_) (fun a b => ?_) _
      · rw [ltE] at *
        simp only [Bool.not_eq_true', decide_eq_false_iff_not] at *
        have a1 := cmpL_good.anti a.1.labs b.1.labs
        have a2 := cmpL_good.anti b.1.labs c.1.labs
        have a3 := cmpL_good.anti a.1.labs c.1.labs
        have r1 := cmpL_good.rng a.1.labs b.1.labs
        have r2 := cmpL_good.rng b.1.labs c.1.labs
        have := cmpL_good.trans_le (x := a.1.labs) (y := b.1.labs) (z := c.1.labs) (by omega) (by omega)
        omega
      · rw [ltE, ltE]
        have a1 := cmpL_good.anti a.1.labs b.1.labs
        by_cases c1 : cmpL b.1.labs a.1.labs = -1
        · have : ¬ cmpL a.1.labs b.1.labs = -1 := by omega
          simp [this]
        · simp [c1]
    have hyl : ys.length = xs.length := by have := hperm.length_eq; simpa using this
    have hpq : (ys.map (·.1)).Perm xs := by
      have := hperm.map (·.1)
      simpa using this
    have hqd : (ys.map (·.1)).Pairwise (fun a b => a.labs ≠ b.labs) := (hpq.pairwise_iff (fun {_ _} hne => Ne.symm hne)).2 hd
    have ko := only_sortK (encE (xs := xs)) 2 w g 0 n ys.toArray os
    have hblk : (sortWorldK (encE (xs := xs)) 2 w g 0 n ys.toArray os).heap[g]? = some (.cells (putCells id 0 (flatK encE 2 ys.toArray) cur) 56 (0, 0)) := by
      unfold sortWorldK
      rw [heap_grow_old _ _ (by rw [size_putRowK]; exact hglt)]
      show ((Go.Sort.ahead w n).heap.modify g _)[g]? = _
      rw [Array.getElem?_modify, if_pos rfl]
      show Option.map _ (w.heap[g]?) = _
      rw [hg]
      rfl
    refine ⟨rfl, ko.mono (fun k _ e => by rw [e]; rfl), ys.map (·.1), hpq, ?_, ⟨⟨svL_len _, .inr ⟨g, cap, _, by rw [List.length_map, hyl], hb, hblk, by rw [List.length_map, hyl]; exact hnc, hcm, by simp only [putCells, Array.size_mapIdx]; exact hcs, ?_⟩⟩, ?_, ?_, ?_⟩⟩
    · rw [List.pairwise_map]
      rw [List.pairwise_map] at hqd
      refine (hsorted.and hqd).imp ?_
      rintro a b ⟨h1, h2⟩
      rw [ltE] at h1
      simp only [Bool.not_eq_true', decide_eq_false_iff_not] at h1
      have a1 := cmpL_good.anti a.1.labs b.1.labs
      have r1 := cmpL_good.rng a.1.labs b.1.labs
      rcases r1 with e | e | e
      · exact e
      · exact absurd (cmpL_good.zero _ _ e) h2
      · omega
    · rw [List.length_map, hyl]
      refine List.ext_getElem? (fun j => ?_)
      have hys2 : (svL (ys.map (·.1))).length = xs.length * 2 := by rw [svL_len, List.length_map, hyl]
      by_cases hj : j < xs.length * 2
      · rw [List.getElem?_take, if_pos hj, Array.getElem?_toList]
        simp only [putCells, Array.getElem?_mapIdx]
        rw [Array.getElem?_eq_getElem (by omega)]
        simp only [Option.map_some]
        have hsy : ys.toArray.size = ys.length := by simp
        rw [if_pos ⟨by omega, by rw [size_flatK, hsy]; omega⟩, show j - 0 = j by omega, id, get_flatK encE 2 _ j (by rw [hsy]; omega), hflat ys j (by omega), List.getElem?_eq_getElem (show j < (svL (ys.map (·.1))).length by rw [hys2]; exact hj)]
        rfl
      · rw [List.getElem?_take, if_neg hj, List.getElem?_eq_none (by omega)]
    · intro x hx
      have hx' := hpq.mem_iff.1 hx
      exact ownN_only (h.lab x hx') ko (hne x hx')
    · intro x hx
      have hx' := hpq.mem_iff.1 hx
      exact ownN_only (h.smp x hx') ko (hne2 x hx')
    · exact (hpq.pairwise_iff (fun {a b} hab k h1 h2 => hab k h2 h1)).2 h.apart
end Go.Proofs.YtnbfbnhiikliaaaGreat.Hd
