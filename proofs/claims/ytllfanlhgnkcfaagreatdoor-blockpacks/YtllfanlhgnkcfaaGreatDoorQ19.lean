/-
  Nbuild, Nwrite, Nhex.
-/
import Derived.Test.YtllfanlhgnkcfaaGreatDoorQ17
import Derived.Test.YtllfanlhgnkcfaaGreatDoorQ18
import Derived.Lib.OthersKept
import Derived.Lib.FrozenHead2
import Derived.Lib.Builder
namespace Go.Proofs.YtllfanlhgnkcfaaGreatDoor.N
open Go.RowKit Go.Proofs.Lys
set_option linter.unusedVariables false
abbrev Bld (w : World) (B b : Nat) (l : List UInt8) : Prop := Lib.IsBuilderF 139 5 B b (Lib.byteCells l) w
structure Wrote (B b : Nat) (w w' : World) : Prop where
 below : Below B w w'
 others : Lib.OthersKept 5 (some b) w w'
theorem Wrote.refl (B b : Nat) (w : World) : Wrote B b w w := ⟨Below.refl B w, Lib.OthersKept.refl _ _ w⟩
theorem Wrote.trans {B b : Nat} {w w1 w2 : World} (h : Wrote B b w w1) (k : Wrote B b w1 w2) : Wrote B b w w2 := ⟨h.below.trans k.below, h.others.trans k.others⟩
theorem Wrote.size {B b : Nat} {w w1 : World} (h : Wrote B b w w1) : w.heap.size ≤ w1.heap.size := h.below.size
theorem Tryz.infoByteN : (Tryz.prog.info? 5).map (fun i => (i.zero, i.size, i.bytes)) = some (some (.int .u8 0), 1, 1) := by kernel_rfl
theorem Tryz.sizeBuilderN : (Tryz.prog.info? 139).map (fun i => i.size) = some 2 := by kernel_rfl
theorem Tryz.liesBuilderN : liesAt Tryz.prog Tryz.prog.depth 139 (2 / Tryz.prog.cellsOf 139) 0 139 1 = true := by kernel_rfl
set_option maxHeartbeats 1000000 in
set_option maxRecDepth 100000 in
theorem check_used (b : Nat) (w : World) (h0 : w.cell? ⟨b, 0, none⟩ = some (.pointer (some ⟨b, 0, none⟩))) :
  Calls Tryz.prog 112 #[.pointer (some ⟨b, 0, none⟩)] w fun e w' => e = .returned (.tuple #[]) ∧ w' = w := by
 obtain ⟨j, hj, _⟩ := Option.map_eq_some_iff.1 Tryz.sizeBuilderN
 go_enter Tryz.func112, Tryz.ntmps112
 go_wp2
 rw [Lib.run_neq_ptr_same w _ Tryz.underlying137 hj]
 go_wp2
 go_end0
 exact ⟨rfl, rfl⟩
set_option maxHeartbeats 1000000 in
set_option maxRecDepth 100000 in
theorem check_fresh (b : Nat) (w : World) (h0 : w.cell? ⟨b, 0, none⟩ = some (.pointer none)) (hsh : w.shape? b = some (139, 2)) (hfz : w.frozen? ⟨b, 0, none⟩ = false) :
  Calls Tryz.prog 112 #[.pointer (some ⟨b, 0, none⟩)] w fun e w' => e = .returned (.tuple #[]) ∧ w' = w.setCell ⟨b, 0, none⟩ (.pointer (some ⟨b, 0, none⟩)) := by
 obtain ⟨j, hj, hjs⟩ := Option.map_eq_some_iff.1 Tryz.sizeBuilderN
 go_enter Tryz.func112, Tryz.ntmps112
 go_wp2
 rw [Lib.run_to_unsafe w ⟨b, 0, none⟩ Tryz.underlying137 Tryz.underlying124 hj (by rw [hjs]; decide) hsh (Nat.zero_lt_succ 1)]
 simp only [Result.andThen]
 rw [Oper.upon_value]
 go_wp2
 rw [run_callFunc_extern Tryz.func127 (by kernel_rfl) (by kernel_rfl) (by kernel_rfl) (e := Extern.AbiNoEscape.same) (by kernel_rfl)]
 rw [Lib.run_noEscape]
 simp only [Result.andThen]
 rw [Oper.upon_value]
 go_wp2
 rw [Lib.run_from_unsafe w ⟨b, 0, none⟩ Tryz.underlying124 Tryz.underlying137 hj hsh Tryz.liesBuilderN]
 simp only [Result.andThen]
 rw [Oper.upon_value]
 go_wp2
 go_end0
 exact ⟨rfl, rfl⟩
theorem check_any {B b : Nat} {l : List UInt8} {w : World} (h : Bld w B b l) :
  Calls Tryz.prog 112 #[.pointer (some ⟨b, 0, none⟩)] w fun e w' => e = .returned (.tuple #[]) ∧ Lib.BuilderAtF 139 5 B b (.pointer (some ⟨b, 0, none⟩)) (Lib.byteCells l) w' ∧ Wrote B b w w' := by
 rcases h with h | h
 ·refine (check_fresh b w h.cell0 h.shape h.frozen0).mono ?_
  rintro e w' ⟨rfl, rfl⟩
  exact ⟨rfl, h.used _, (Below.refl B w).setCell (p := ⟨b, 0, none⟩) h.1 _, (Lib.OthersKept.refl _ _ w).setCell ⟨b, 0, none⟩ rfl _⟩
 ·refine (check_used b w h.cell0).mono ?_
  rintro e w' ⟨rfl, rfl⟩
  exact ⟨rfl, h, Wrote.refl _ _ _⟩
set_option maxHeartbeats 1000000 in
set_option maxRecDepth 100000 in
theorem wbyte_any {B b : Nat} {l : List UInt8} {w : World} (h : Bld w B b l) (c : UInt8) (hlen : l.length < 1000000000) (hBw : B ≤ w.heap.size) :
  Calls Tryz.prog 96 #[.pointer (some ⟨b, 0, none⟩), .int .u8 c.toNat] w fun e w' => e = .returned .nilIface ∧ Bld w' B b (l ++ [c]) ∧ Wrote B b w w' := by
 obtain ⟨i0, hi, hz0, hz1, hz2⟩ := info_parts Tryz.infoByteN
 have hcl := Lib.byteCells_length l
 have hcc : Lib.byteCells (l ++ [c]) = Lib.byteCells l ++ [.int .u8 c.toNat] := by rw [Lib.byteCells_append]; rfl
 go_enter Tryz.func96, Tryz.ntmps96
 go_wp2_with (go_at_call 112; refine (check_any h).mono ?_)
 rintro e w1 ⟨rfl, h1, k1⟩
 obtain ⟨hB, v, hbk, hown, hne⟩ := h1
 have hsz := k1.size
 have c0 : w1.cell? ⟨b, 0, none⟩ = some (.pointer (some ⟨b, 0, none⟩)) := by rw [Lib.cell_of_heap hbk]; rfl
 have c1 : w1.cell? ⟨b, 1, none⟩ = some v := by rw [Lib.cell_of_heap hbk]; rfl
 go_wp2_with (at_builtin; refine wpList_append_ownF _ rfl _ _ 28 rfl B 5 i0 (.int .u8 0) 1 1 Tryz.underlying28 hi hz0 hz1 hz2 rfl (by decide) _ _ _ rfl (hown.alloc _) ⟨w1.heap.size, 0, none⟩ 1 1 [.int .u8 c.toNat] rfl rfl ?c1 ?c2 ?c3 ?c4 ?c5 ?_)
 case c1 =>
  intro j u hj
  match j, hj with
  | 0, hj => simp at hj; subst hj; simp [Addr.add]
 case c2 => intro u hu; simp at hu; subst hu; rfl
 case c3 => unfold maxLen; omega
 case c4 => omega
 case c5 => simp; omega
 intro v' w2 hown' hgrow _
 have hlt : b < w1.heap.size := (Array.getElem?_eq_some_iff.1 hbk).1
 have hb2 : w2.heap[b]? = some (.cells #[.pointer (some ⟨b, 0, none⟩), v] 139 (0, 0)) := by
  rw [hgrow.block b (by simp; omega) (fun e => hne e.symm), Lib.alloc_old w1 _ b hlt]
  exact hbk
 have d0 : w2.cell? ⟨b, 0, none⟩ = some (.pointer (some ⟨b, 0, none⟩)) := by rw [Lib.cell_of_heap hb2]; rfl
 have d1 : w2.cell? ⟨b, 1, none⟩ = some v := by rw [Lib.cell_of_heap hb2]; rfl
 have f1 : w2.frozen? ⟨b, 1, none⟩ = false := Lib.frozen_of_heap hb2 1
 obtain ⟨g, cap, rfl⟩ : ∃ g cap, v' = .slice (some ⟨g, 0, none⟩) (l.length + 1) cap := by
  rcases hown'.2 with ⟨_, h0⟩ | ⟨g, cap, cur, fz, hv, _⟩
  ·omega
  ·exact ⟨g, cap, hv⟩
 go_wp2
 go_ret
 refine ⟨rfl, .inr ?_, ?_, ((k1.others.alloc _).grown hgrow (Lib.ownsRowF_kind (hown.alloc _))).setCell ⟨b, 1, none⟩ rfl _⟩
 ·rw [hcc]
  exact Lib.BuilderAtF.put (T := 139) (e := 5) hB hb2 (bs' := Lib.byteCells l ++ [.int .u8 c.toNat]) (by simpa [hcl] using hown') (by decide)
 ·exact ((k1.below.alloc (by omega) _).grown hgrow (by simp; omega) (fun k hk => (hown.lt k hk).1)).setCell (p := ⟨b, 1, none⟩) hB _
set_option maxHeartbeats 1000000 in
set_option maxRecDepth 100000 in
theorem wstring_any {B b : Nat} {l : List UInt8} {w : World} (h : Bld w B b l) (s : ByteArray) (hlen : l.length + s.size < 1000000000) (hBw : B ≤ w.heap.size) :
  Calls Tryz.prog 94 #[.pointer (some ⟨b, 0, none⟩), .string s] w fun e w' => e = .returned (.tuple #[.int .i64 s.size, .nilIface]) ∧ Bld w' B b (l ++ s.data.toList) ∧ Wrote B b w w' := by
 obtain ⟨i0, hi, hz0, hz1, hz2⟩ := info_parts Tryz.infoByteN
 have hcl := Lib.byteCells_length l
 have hcc : Lib.byteCells (l ++ s.data.toList) = Lib.byteCells l ++ Lib.strCells s := by rw [Lib.byteCells_append]; rfl
 go_enter Tryz.func94, Tryz.ntmps94
 go_wp2_with (go_at_call 112; refine (check_any h).mono ?_)
 rintro e w1 ⟨rfl, h1, k1⟩
 obtain ⟨hB, v, hbk, hown, hne⟩ := h1
 have hsz := k1.size
 have c0 : w1.cell? ⟨b, 0, none⟩ = some (.pointer (some ⟨b, 0, none⟩)) := by rw [Lib.cell_of_heap hbk]; rfl
 have c1 : w1.cell? ⟨b, 1, none⟩ = some v := by rw [Lib.cell_of_heap hbk]; rfl
 go_wp2_with (at_builtin; refine Lib.wpList_append_own_stringF _ rfl _ _ 28 9 rfl B 5 i0 Tryz.underlying28 Tryz.underlying9 hi hz0 hz1 hz2 _ _ _ rfl hown s rfl ?c3 ?c4 ?c5 ?_)
 case c3 => unfold maxLen; omega
 case c4 => omega
 case c5 => omega
 intro v' w2 hown' hgrow _
 have hlt : b < w1.heap.size := (Array.getElem?_eq_some_iff.1 hbk).1
 have hb2 : w2.heap[b]? = some (.cells #[.pointer (some ⟨b, 0, none⟩), v] 139 (0, 0)) := by
  rw [hgrow.block b hlt (fun e => hne e.symm)]
  exact hbk
 have d0 : w2.cell? ⟨b, 0, none⟩ = some (.pointer (some ⟨b, 0, none⟩)) := by rw [Lib.cell_of_heap hb2]; rfl
 have d1 : w2.cell? ⟨b, 1, none⟩ = some v := by rw [Lib.cell_of_heap hb2]; rfl
 have f1 : w2.frozen? ⟨b, 1, none⟩ = false := Lib.frozen_of_heap hb2 1
 obtain ⟨ao, n', cap, rfl⟩ : ∃ ao n' cap, v' = .slice ao n' cap := by
  rcases hown'.2 with ⟨hv, _⟩ | ⟨g, cap, cur, fz, hv, _⟩
  ·exact ⟨_, _, _, hv⟩
  ·exact ⟨_, _, _, hv⟩
 go_wp2
 go_ret2
 refine ⟨rfl, .inr ?_, ?_, (k1.others.grown hgrow (Lib.ownsRowF_kind hown)).setCell ⟨b, 1, none⟩ rfl _⟩
 ·rw [hcc]
  exact Lib.BuilderAtF.put (T := 139) (e := 5) hB hb2 (bs' := Lib.byteCells l ++ Lib.strCells s) (by simpa [Lib.strCells_length, hcl] using hown') (by decide)
 ·exact (k1.below.grown hgrow (by omega) (fun k hk => (hown.lt k hk).1)).setCell (p := ⟨b, 1, none⟩) hB _
theorem bstring_any {B b : Nat} {l : List UInt8} {w : World} (h : Bld w B b l) (hBw : B ≤ w.heap.size) :
  Calls Tryz.prog 97 #[.pointer (some ⟨b, 0, none⟩)] w fun e w' => e = .returned (.string (mkB l)) ∧ Below B w w' :=
 (Tryz.Builder_String_any_k B b l w h hBw).mono (fun e w' ⟨h1, h2, h3, h4⟩ => ⟨h1, h3⟩)
end Go.Proofs.YtllfanlhgnkcfaaGreatDoor.N
namespace Go.Proofs.YtllfanlhgnkcfaaGreatDoor.N
open Go.RowKit Go.Proofs.Lys
set_option linter.unusedVariables false
set_option linter.unusedSimpArgs false
def shownI (r : Int) : Bool := decide (32 ≤ r) && decide (r ≤ 126) && decide (r ≠ 34) && decide (r ≠ 92)
set_option maxRecDepth 100000 in
theorem isShown_any (w : World) (r : Int) : Calls Tryz.prog 113 #[.int .i32 r] w fun e w' => e = .returned (.bool (shownI r)) ∧ w' = w := by
 go_enter Tryz.func113, Tryz.ntmps113
 go_wp2
 all_goals go_ret
 all_goals refine ⟨?_, rfl⟩
 all_goals simp only [shownI]
 all_goals congr 1
 all_goals (simp_all; try omega)
 all_goals (rw [Bool.eq_iff_iff]; simp; omega)
theorem shownI_byte (c : UInt8) : shownI (c.toNat : Int) = shownB c := by
 unfold shownI shownB
 have e1 : decide ((32 : Int) ≤ (c.toNat : Int)) = decide (32 ≤ c.toNat) := by congr 1; exact propext (by omega)
 have e2 : decide ((c.toNat : Int) ≤ 126) = decide (c.toNat ≤ 126) := by congr 1; exact propext (by omega)
 have e3 : decide ((c.toNat : Int) ≠ 34) = decide (c.toNat ≠ 34) := by congr 1; exact propext (by omega)
 have e4 : decide ((c.toNat : Int) ≠ 92) = decide (c.toNat ≠ 92) := by congr 1; exact propext (by omega)
 rw [e1, e2, e3, e4]
theorem take_snoc (s : ByteArray) (k : Nat) (h : k < s.size) : s.data.toList.take (k + 1) = s.data.toList.take k ++ [s[k]'h] := by
 have hl : k < s.data.toList.length := by rw [← Lib.size_eq]; exact h
 rw [← List.take_append_getElem hl]
 rfl
theorem hide_len (l : List UInt8) : (l.flatMap hideB).length = 3 * l.length := by
 induction l with
 | nil => rfl
 | cons c l ih => rw [List.flatMap_cons, List.length_append, ih, List.length_cons]; simp [hideB]; omega
theorem and15 (c : Nat) (h : c < 256) : bits .and .u8 (c : Int) 15 = ((c % 16 : Nat) : Int) := by
 have : ∀ c, c < 256 → bits .and .u8 ((c : Nat) : Int) 15 = ((c % 16 : Nat) : Int) := by decide +kernel
 exact this c h
theorem digits_at (n : Nat) (h : n < 16) : (⟨#[48, 49, 50, 51, 52, 53, 54, 55, 56, 57, 97, 98, 99, 100, 101, 102]⟩ : ByteArray)[n]'h = hexD n := by
 revert n
 decide
set_option maxRecDepth 100000 in
set_option maxHeartbeats 1600000 in
theorem hidden_any {B b : Nat} {l : List UInt8} {w : World} (h : Bld w B b l) (s : ByteArray) (hlen : l.length + 3 * s.size < 100000000) (hBw : B ≤ w.heap.size) :
  Calls Tryz.prog 114 #[.pointer (some ⟨b, 0, none⟩), .string s] w fun e w' => e = .returned (.tuple #[]) ∧ Bld w' B b (l ++ s.data.toList.flatMap hideB) ∧ Wrote B b w w' := by
 have H := hid h
 clear h
 go_enter Tryz.func114, Tryz.ntmps114
 go_wp2
 go_loopw [7] (fun i wr => ∃ (k : Nat), k ≤ s.size ∧ i = .int .i64 (k : Int) ∧ Bld wr B b (l ++ (s.data.toList.take k).flatMap hideB) ∧ Wrote B b w wr) (fun i _ => s.size - (intOf i).toNat)
 case atStart => exact ⟨0, by omega, rfl, by simpa using H.out, Wrote.refl _ _ _⟩
 case round =>
  obtain ⟨k, hk, rfl, hb, hw⟩ := hrel
  have HB := hid hb
  have HW := hid hw
  have hsz := hw.size
  have hlk : ((s.data.toList.take k).flatMap hideB).length ≤ 3 * k := by rw [hide_len, List.length_take]; omega
  clear hb hw
  by_cases hlt : k < s.size
  ·have Hs : Hid (∀ acc, l ++ (s.data.toList.take k).flatMap hideB = acc → l ++ (s.data.toList.take (k + 1)).flatMap hideB = acc ++ [92] ++ [hexD ((s[k]'hlt).toNat / 16)] ++ [hexD ((s[k]'hlt).toNat % 16)]) := fun acc e => by
    rw [take_snoc s k hlt, List.flatMap_append, ← List.append_assoc, e]
    simp [hideB]
   have hcl := (s[k]'hlt).toNat_lt
   have hla : (l ++ (s.data.toList.take k).flatMap hideB).length < 100000000 := by rw [List.length_append]; omega
   generalize hac : l ++ (s.data.toList.take k).flatMap hideB = acc at HB hla
   have Hs2 := hid (Hs.out acc hac)
   have ea := and15 (s[k]'hlt).toNat hcl
   clear Hs hac hlk
   have H1 := hid (wbyte_any HB.out 92 (by omega) (by omega))
   go_wp2_with (go_at_call 96; refine H1.out.mono ?_)
   rintro e w1 ⟨rfl, hb1, hk1⟩
   have HK1 := hid hk1
   have hs1 := hk1.size
   have H2 := hid (fun c => wbyte_any hb1 c (by rw [List.length_append]; simp; omega) (by omega))
   clear hb1 hk1 H1
   go_wp2_with (go_at_call 96; refine (H2.out _).mono ?_)
   rintro e w2 ⟨rfl, hb2, hk2⟩
   rw [digits_at _ (by omega)] at hb2
   have HK2 := hid hk2
   have hs2 := hk2.size
   have H3 := hid (fun c => wbyte_any hb2 c (by rw [List.length_append, List.length_append]; simp; omega) (by omega))
   clear hb2 hk2 H2
   go_wp2_with (go_at_call 96; refine (H3.out _).mono ?_)
   rintro e w3 ⟨rfl, hb3, hk3⟩
   rw [digits_at _ (by omega), ← Hs2.out] at hb3
   have HB3 := hid hb3
   clear hb3 H3
   go_wp2
   refine ⟨⟨k + 1, by omega, by go_num, HB3.out, HW.out.trans (HK1.out.trans (HK2.out.trans hk3))⟩, ?_⟩
   simp [intOf]
   omega
  ·have e : k = s.size := by omega
   subst e
   go_wp2
   go_end0
   refine ⟨rfl, ?_, HW.out⟩
   have := HB.out
   rw [List.take_of_length_le (by rw [← Lib.size_eq]; omega)] at this
   exact this
theorem iterPos_at {w : World} {k : Nat} {s : ByteArray} {pos : Nat} (h : w.heap[k]? = some (.stringIter s pos)) : w.iterPos k = pos := by
 unfold World.iterPos
 rw [h]
theorem Wrote.iterAt {B b IT : Nat} {w wr : World} (h : Wrote B b w wr) (hI : w.heap.size ≤ IT) (hB : B ≤ w.heap.size) (s : ByteArray) (pos : Nat) : Wrote B b w (wr.iterAt IT s pos) :=
 ⟨Lib.below_iterAt h.below (Nat.le_trans hB hI) s pos, fun k o hk hb ho => by
  have hlt := (Array.getElem?_eq_some_iff.1 hk).1
  rw [Lib.iterAt_other _ _ _ _ _ (by omega)]
  exact h.others k o hk hb ho⟩
theorem quote_len (l : List UInt8) : (quoteL l).length ≤ 3 * l.length := by
 induction l with
 | nil => simp [quoteL]
 | cons c l ih =>
  unfold quoteL at ih ⊢
  rw [List.flatMap_cons, List.length_append, List.length_cons]
  have : (quoteB c).length ≤ 3 := by unfold quoteB; split <;> simp [hideB]
  omega
def Hide (s : ByteArray) (a b : Nat) : Prop := ∀ k (h : k < s.size), a ≤ k → k < b → shownB (s[k]'h) = false
theorem hide_quote {s : ByteArray} {a b : Nat} (h : Hide s a b) (hb : b ≤ s.size) : ((s.data.toList.take b).drop a).flatMap hideB = quoteL ((s.data.toList.take b).drop a) := by
 have key : ∀ m : List UInt8, (∀ c ∈ m, hideB c = quoteB c) → m.flatMap hideB = quoteL m := fun m hm => by
  induction m with
  | nil => rfl
  | cons x m ih =>
   unfold quoteL at ih ⊢
   rw [List.flatMap_cons, List.flatMap_cons, hm x (List.mem_cons_self ..), ih (fun c hc => hm c (List.mem_cons_of_mem _ hc))]
 refine key _ (fun c hc => ?_)
 obtain ⟨i, hi, rfl⟩ := List.getElem_of_mem hc
 have hi2 := hi
 rw [List.length_drop, List.length_take, ← Lib.size_eq] at hi2
 have := h (a + i) (by omega) (by omega) (by omega)
 have e : ((s.data.toList.take b).drop a)[i] = s[a + i]'(by omega) := by
  rw [List.getElem_drop, List.getElem_take]
  rfl
 rw [e]
 unfold quoteB
 rw [this]
 simp
theorem take_cut (l : List UInt8) {a b : Nat} (h : a ≤ b) : l.take b = l.take a ++ (l.take b).drop a := by
 have := List.take_append_drop a (l.take b)
 rw [List.take_take, Nat.min_eq_left h] at this
 exact this.symm
theorem quote_cut (l : List UInt8) {a b : Nat} (h : a ≤ b) : quoteL (l.take a) ++ quoteL ((l.take b).drop a) = quoteL (l.take b) := by
 rw [← quoteL_app, ← take_cut l h]
theorem sub_bytes (s : ByteArray) (a b : Nat) : (s.extract a b).data.toList = (s.data.toList.take b).drop a := by
 rw [← ByteArray.toList_eq]
 simp [ByteArray.toList_eq]
 rw [List.drop_take]
set_option maxRecDepth 100000 in
set_option maxHeartbeats 1600000 in
theorem quoted_any {B b : Nat} {l : List UInt8} {w : World} (h : Bld w B b l) (s : ByteArray) (hlen : l.length + 3 * s.size < 10000000) (hBw : B ≤ w.heap.size) (hbB : b < w.heap.size) :
  Calls Tryz.prog 95 #[.pointer (some ⟨b, 0, none⟩), .string s] w fun e w' => e = .returned (.tuple #[]) ∧ Bld w' B b (l ++ quoteL s.data.toList) ∧ Wrote B b w w' := by
 have H := hid h
 clear h
 have hS : Hid (Bld (w.iter s 0) B b (l ++ quoteL (s.data.toList.take 0)) ∧ Wrote B b w (w.iter s 0)) := by
  refine ⟨?_, (Below.refl B w).alloc hBw _, (Lib.OthersKept.refl _ _ w).alloc _⟩
  have : l ++ quoteL (s.data.toList.take 0) = l := by simp [quoteL]
  rw [this]
  exact Lib.IsBuilderF.alloc H.out _
 go_enter Tryz.func95, Tryz.ntmps95
 go_wp2
 go_loopw [4] (fun d wr => ∃ (pos dn : Nat), dn ≤ pos ∧ pos ≤ s.size ∧ d = .int .i64 (dn : Int) ∧ wr.heap[w.heap.size]? = some (.stringIter s pos) ∧ Bld wr B b (l ++ quoteL (s.data.toList.take dn)) ∧ Wrote B b w wr ∧ Hide s dn pos) (fun _ wr => s.size - wr.iterPos w.heap.size)
 case atStart => exact ⟨0, 0, by omega, by omega, rfl, World.iter_heap w s 0, hS.out.1, hS.out.2, fun k _ _ h => absurd h (by omega)⟩
 case round =>
  obtain ⟨pos, dn, hdp, hps, rfl, hit, hb, hw, hh⟩ := hrel
  have hsz := hw.size
  have hpm := iterPos_at hit
  have HIT := hid hit
  have HB := hid hb
  have HW := hid hw
  have HH := hid hh
  have hla : (l ++ quoteL (s.data.toList.take dn)).length ≤ l.length + 3 * dn := by
   rw [List.length_append]
   have := quote_len (s.data.toList.take dn)
   rw [List.length_take] at this
   omega
  clear hb hw hh
  by_cases hp : pos < s.size
  ·by_cases ha : (s[pos]'hp).toNat < 128
   ·have hnx : ∀ ty, (Instr.next (.pointer (some ⟨w.heap.size, 0, none⟩)) true ty).run Tryz.prog wr = _ := fun ty => Lib.run_next_ascii_at wr w.heap.size s pos ty hit hp ha
    have HB2 := hid (Lib.IsBuilderF.iterAt HB.out hit (pos + 1))
    have HW2 := hid (HW.out.iterAt (IT := w.heap.size) (Nat.le_refl _) hBw s (pos + 1))
    have hit2 := Lib.iterAt_heap wr w.heap.size s pos (pos + 1) hit
    have hpm2 := iterPos_at hit2
    have hsz2 := HW2.out.size
    have HS := hid (fun W => isShown_any W ((s[pos]'hp).toNat : Int))
    rw [shownI_byte] at HS
    cases hsh : shownB (s[pos]'hp) with
    | false =>
     rw [hsh] at HS
     have HH2 : Hid (Hide s dn (pos + 1)) := fun k hk h1 h2 => by
      by_cases e : k < pos
      ·exact HH.out k hk h1 e
      ·have : k = pos := by omega
       subst this
       exact hsh
     go_wp2_with (go_at_call 113; refine (HS.out _).mono ?_)
     rintro e w1 ⟨rfl, hq⟩
     replace hq := hq.symm
     subst hq
     go_wp2
     refine ⟨⟨pos + 1, dn, by omega, by omega, rfl, hit2, HB2.out, HW2.out, HH2.out⟩, ?_⟩
     rw [hpm, hpm2]
     omega
    | true =>
     rw [hsh] at HS
     have hcl := (s[pos]'hp).toNat_lt
     have hcw : IntKind.u8.wrap ((s[pos]'hp).toNat : Int) = ((s[pos]'hp).toNat : Int) := by simp [IntKind.wrap, IntKind.bits, IntKind.signed]; omega
     have Hq : Hid (l ++ quoteL (s.data.toList.take dn) ++ (s.extract dn pos).data.toList.flatMap hideB ++ [s[pos]'hp] = l ++ quoteL (s.data.toList.take (pos + 1))) := by
      refine hid ?_
      rw [sub_bytes, hide_quote HH.out hps, take_snoc s pos hp, quoteL_app, ← quote_cut s.data.toList hdp]
      have : quoteL [s[pos]'hp] = [s[pos]'hp] := by simp [quoteL, quoteB, hsh]
      rw [this]
      simp only [List.append_assoc]
     have H1 := hid (hidden_any HB2.out (s.extract dn pos) (by rw [ByteArray.size_extract]; omega) (by omega))
     have hlh : (l ++ quoteL (s.data.toList.take dn) ++ (s.extract dn pos).data.toList.flatMap hideB).length < 100000000 := by
      rw [List.length_append, hide_len, ← Lib.size_eq, ByteArray.size_extract]
      omega
     have hdp' : (dn : Int) ≤ (pos : Int) := by omega
     have hps' : (pos : Int) ≤ (s.size : Int) := by omega
     go_wp2_with (go_at_call 113; refine (HS.out _).mono ?_)
     rintro e w1 ⟨rfl, hq⟩
     replace hq := hq.symm
     subst hq
     go_wp2_with (go_at_call 114; refine H1.out.mono ?_)
     rintro e w1 ⟨rfl, hb1, hk1⟩
     have hs1 := hk1.size
     have hit3 := hk1.others.iter hit2 (by omega)
     have H2 := hid (wbyte_any hb1 (s[pos]'hp) (by omega) (by omega))
     have HK1 := hid hk1
     clear hb1 hk1 H1
     go_wp2_with (go_at_call 96; refine H2.out.mono ?_)
     rintro e w2 ⟨rfl, hb2, hk2⟩
     have hit4 := hk2.others.iter hit3 (by omega)
     have HB3 := hid hb2
     have hpm4 := iterPos_at hit4
     clear hb2 H2
     go_wp2
     refine ⟨⟨pos + 1, pos + 1, by omega, by omega, by go_num, hit4, ?_, HW2.out.trans (HK1.out.trans hk2), fun k _ h1 h2 => absurd h2 (by omega)⟩, ?_⟩
     ·rw [← Hq.out]
      exact HB3.out
     ·rw [hpm, hpm4]
      omega
   ·have hdw := decode_wide s pos hp (by omega)
    have hdh := decode_high s pos hp (by omega)
    have hm := decode_le s pos
    have hnx : ∀ ty, (Instr.next (.pointer (some ⟨w.heap.size, 0, none⟩)) true ty).run Tryz.prog wr = _ := fun ty => Lib.run_next_any_at wr w.heap.size s pos ty hit hp
    have HB2 := hid (Lib.IsBuilderF.iterAt HB.out hit (pos + (Utf8.decode s pos).2))
    have HW2 := hid (HW.out.iterAt (IT := w.heap.size) (Nat.le_refl _) hBw s (pos + (Utf8.decode s pos).2))
    have hit2 := Lib.iterAt_heap wr w.heap.size s pos (pos + (Utf8.decode s pos).2) hit
    have hpm2 := iterPos_at hit2
    have HS := hid (fun W => isShown_any W ((Utf8.decode s pos).1 : Int))
    have hsh : shownI ((Utf8.decode s pos).1 : Int) = false := by
     unfold shownI
     rw [show decide (((Utf8.decode s pos).1 : Int) ≤ 126) = false by simp; omega]
     simp
    rw [hsh] at HS
    have HH2 : Hid (Hide s dn (pos + (Utf8.decode s pos).2)) := fun k hk h1 h2 => by
     by_cases e : k < pos
     ·exact HH.out k hk h1 e
     ·have h3 := hdw.2 (k - pos) (by omega)
      rw [show pos + (k - pos) = k + 0 by omega, get_at s k hk] at h3
      cases e2 : shownB (s[k]'hk) with
      | false => rfl
      | true => simp only [shownB, Bool.and_eq_true, decide_eq_true_eq] at e2; omega
    have hw1 := hdh.2
    have hw2 := hdw.1
    clear hdw hdh hsh ha
    generalize (Utf8.decode s pos).1 = r at hnx HS hm
    generalize (Utf8.decode s pos).2 = n at hnx HB2 HW2 hit2 hpm2 HH2 hw1 hw2
    go_wp2_with (go_at_call 113; refine (HS.out _).mono ?_)
    rintro e w1 ⟨rfl, hq⟩
    replace hq := hq.symm
    subst hq
    go_wp2
    refine ⟨⟨pos + n, dn, by omega, by omega, rfl, hit2, HB2.out, HW2.out, HH2.out⟩, ?_⟩
    rw [hpm, hpm2]
    omega
  ·have e : pos = s.size := by omega
   subst e
   have hnx : ∀ ty, (Instr.next (.pointer (some ⟨w.heap.size, 0, none⟩)) true ty).run Tryz.prog wr = _ := fun ty => Lib.run_next_end_at wr w.heap.size s s.size ty hit hp
   have Hq : Hid (l ++ quoteL (s.data.toList.take dn) ++ (s.extract dn s.size).data.toList.flatMap hideB = l ++ quoteL s.data.toList) := by
    refine hid ?_
    rw [sub_bytes, hide_quote HH.out hps, List.append_assoc, quote_cut s.data.toList hdp, List.take_of_length_le (by rw [← Lib.size_eq]; omega)]
   have H1 := hid (hidden_any HB.out (s.extract dn s.size) (by rw [ByteArray.size_extract]; omega) (by omega))
   have hdp' : (dn : Int) ≤ (s.size : Int) := by omega
   go_wp2_with (go_at_call 114; refine H1.out.mono ?_)
   rintro e w1 ⟨rfl, hb1, hk1⟩
   have HB3 := hid hb1
   clear hb1
   go_wp2
   go_end0
   refine ⟨rfl, ?_, HW.out.trans hk1⟩
   rw [← Hq.out]
   exact HB3.out
end Go.Proofs.YtllfanlhgnkcfaaGreatDoor.N
namespace Go.Proofs.YtllfanlhgnkcfaaGreatDoor.N
open Go.RowKit Go.Proofs.Lys
set_option linter.unusedVariables false
set_option linter.unusedSimpArgs false
set_option maxRecDepth 100000 in
theorem digit_any (w : World) (c : UInt8) : Calls Tryz.prog 158 #[.int .u8 c.toNat] w fun e w' => e = .returned (.tuple #[.int .u8 (((hexV c).getD 0 : Nat) : Int), .bool (hexV c).isSome]) ∧ w' = w := by
 have hcl := c.toNat_lt
 by_cases h1 : 48 ≤ c.toNat ∧ c.toNat ≤ 57
 ·have HV : Hid (hexV c = some (c.toNat - 48)) := by refine hid ?_; unfold hexV; rw [if_pos h1]
  obtain ⟨p1, p2⟩ := h1
  have q1 : (48 : Int) ≤ (c.toNat : Int) := by omega
  have q2 : (c.toNat : Int) ≤ 57 := by omega
  go_enter Tryz.func158, Tryz.ntmps158
  go_wp2
  go_ret2
  refine ⟨?_, rfl⟩
  rw [HV.out]
  simp
  omega
 ·by_cases h2 : 97 ≤ c.toNat ∧ c.toNat ≤ 102
  ·have HV : Hid (hexV c = some (c.toNat - 87)) := by refine hid ?_; unfold hexV; rw [if_neg h1, if_pos h2]
   obtain ⟨p1, p2⟩ := h2
   have q1 : (97 : Int) ≤ (c.toNat : Int) := by omega
   have q2 : (c.toNat : Int) ≤ 102 := by omega
   go_enter Tryz.func158, Tryz.ntmps158
   go_wp2
   all_goals try (exfalso; omega)
   all_goals go_ret2
   all_goals refine ⟨?_, rfl⟩
   all_goals rw [HV.out]
   all_goals simp
   all_goals omega
  ·have HV : Hid (hexV c = none) := by refine hid ?_; unfold hexV; rw [if_neg h1, if_neg h2]
   go_enter Tryz.func158, Tryz.ntmps158
   go_wp2
   all_goals try (exfalso; omega)
   all_goals go_ret2
   all_goals refine ⟨?_, rfl⟩
   all_goals rw [HV.out]
   all_goals simp
theorem two_digits : ∀ a b : Nat, a < 16 → b < 16 → bits .or .u8 ((a : Int) * 16) (b : Int) = ((16 * a + b : Nat) : Int) := by
 have : ∀ a, a < 16 → ∀ b, b < 16 → bits .or .u8 (((a : Nat) : Int) * 16) ((b : Nat) : Int) = ((16 * a + b : Nat) : Int) := by decide +kernel
 exact fun a b ha hb => this a ha b hb
theorem list_two (s : ByteArray) (h : 2 ≤ s.size) : s.data.toList = s[0] :: s[1] :: s.data.toList.drop 2 := by
 have hl : 2 ≤ s.data.toList.length := by rw [← Lib.size_eq]; exact h
 have e1 := List.drop_eq_getElem_cons (l := s.data.toList) (i := 0) (by omega)
 have e2 := List.drop_eq_getElem_cons (l := s.data.toList) (i := 1) (by omega)
 rw [List.drop_zero] at e1
 rw [e1, e2]
 rfl
set_option maxRecDepth 100000 in
set_option maxHeartbeats 1600000 in
theorem hex_any (w : World) (s : ByteArray) (hs : s.size ≤ 1000000) : Calls Tryz.prog 153 #[.string s] w fun e w' => (∃ v : Int, e = .returned (.tuple #[.int .u8 v, .bool (hex2 s.data.toList).isSome]) ∧ ∀ x, hex2 s.data.toList = some x → v = x.toNat) ∧ w' = w := by
 by_cases h2 : s.size < 2
 ·have HN : Hid (hex2 s.data.toList = none) := by
   refine hid ?_
   have hl : s.data.toList.length < 2 := by rw [← Lib.size_eq]; exact h2
   match hh : s.data.toList, hl with
   | [], _ => rfl
   | [a], _ => rfl
  go_enter Tryz.func153, Tryz.ntmps153
  go_wp2
  go_ret2
  refine ⟨⟨0, ?_, ?_⟩, rfl⟩
  ·rw [HN.out]; rfl
  ·intro x hx; rw [HN.out] at hx; cases hx
 ·have hl2 := list_two s (by omega)
  have D0 := hid (fun W => digit_any W (s[0]'(by omega)))
  have D1 := hid (fun W => digit_any W (s[1]'(by omega)))
  have HX : Hid (hex2 s.data.toList = match hexV (s[0]'(by omega)), hexV (s[1]'(by omega)) with | some a, some b => some (UInt8.ofNat (16 * a + b)) | _, _ => none) := by
   refine hid ?_
   rw [hl2]
   rfl
  clear hl2
  have h0' : 0 < s.size := by omega
  have h1' : 1 < s.size := by omega
  have hv0 : ∀ n, hexV (s[0]'(by omega)) = some n → n < 16 := fun n h => (hexV_lt h).1
  have hv1 : ∀ n, hexV (s[1]'(by omega)) = some n → n < 16 := fun n h => (hexV_lt h).1
  generalize hexV (s[0]'(by omega)) = A at D0 HX hv0
  generalize hexV (s[1]'(by omega)) = C at D1 HX hv1
  generalize hex2 s.data.toList = R at HX ⊢
  go_enter Tryz.func153, Tryz.ntmps153
  go_wp2_with fail
  refine (D0.out _).mono ?_
  rintro e w1 ⟨rfl, hw⟩
  replace hw := hw.symm
  subst hw
  go_wp2_with fail
  refine (D1.out _).mono ?_
  rintro e w1 ⟨rfl, hw⟩
  replace hw := hw.symm
  subst hw
  cases A with
  | none =>
   go_wp2
   go_ret2
   obtain rfl : R = none := by have := HX.out; simpa using this
   exact ⟨⟨_, rfl, fun x hx => by cases hx⟩, rfl⟩
  | some a =>
   have ha := hv0 a rfl
   cases C with
   | none =>
    go_wp2
    go_ret2
    obtain rfl : R = none := by have := HX.out; simpa using this
    exact ⟨⟨_, rfl, fun x hx => by cases hx⟩, rfl⟩
   | some c =>
    have hc := hv1 c rfl
    have ht := two_digits a c ha hc
    go_wp2
    go_ret2
    have hR : R = some (UInt8.ofNat (16 * a + c)) := HX.out
    subst hR
    refine ⟨⟨16 * (a : Int) + (c : Int), rfl, fun x hx => ?_⟩, rfl⟩
    cases hx
    rw [UInt8.toNat_ofNat']
    omega
structure Rd (s : ByteArray) (pos nx : Nat) (acc : List UInt8) : Prop where
 p : pos ≤ s.size
 n : nx ≤ s.size
 eq : unqL s.data.toList = (unqL (s.data.toList.drop (max pos nx))).map (acc ++ ·)
 low : ∀ j (h : j < s.size), pos ≤ j → j < nx → (s[j]'h).toNat < 128
 len : acc.length ≤ max pos nx
theorem drop_more (s : ByteArray) (k : Nat) (h : k < s.size) : s.data.toList.drop k = s[k] :: s.data.toList.drop (k + 1) := by
 have h' : k < s.data.toList.length := by rw [← Lib.size_eq]; exact h
 rw [List.drop_eq_getElem_cons h']
 rfl
theorem Rd.skip {s : ByteArray} {pos nx : Nat} {acc : List UInt8} (h : Rd s pos nx acc) (hp : pos < s.size) (hn : pos < nx) : Rd s (pos + 1) nx acc := by
 have e1 : max pos nx = nx := by omega
 have e2 : max (pos + 1) nx = nx := by omega
 refine ⟨by omega, h.n, ?_, fun j hj h1 h2 => h.low j hj (by omega) h2, ?_⟩
 ·rw [e2, ← e1]; exact h.eq
 ·rw [e2, ← e1]; exact h.len
theorem Rd.shown {s : ByteArray} {pos nx : Nat} {acc : List UInt8} (h : Rd s pos nx acc) (hp : pos < s.size) (hn : ¬ pos < nx) (hs : shownB (s[pos]'hp) = true) : Rd s (pos + 1) nx (acc ++ [s[pos]'hp]) := by
 have e1 : max pos nx = pos := by omega
 have e2 : max (pos + 1) nx = pos + 1 := by omega
 refine ⟨by omega, h.n, ?_, fun j hj h1 h2 => absurd h2 (by omega), ?_⟩
 ·rw [h.eq, e1, e2, drop_more s pos hp, unqL_shown _ hs, Option.map_map]
  congr 1
  funext z
  simp
 ·have := h.len
  rw [List.length_append, e2]
  simp
  omega
theorem Rd.hex {s : ByteArray} {pos nx : Nat} {acc : List UInt8} {v : UInt8} (h : Rd s pos nx acc) (hp : pos < s.size) (hn : ¬ pos < nx) (hc : (s[pos]'hp).toNat = 92) (hx : hex2 (s.data.toList.drop (pos + 1)) = some v) : Rd s (pos + 1) (pos + 3) (acc ++ [v]) := by
 have e1 : max pos nx = pos := by omega
 have e2 : max (pos + 1) (pos + 3) = pos + 3 := by omega
 obtain ⟨a, b, r', hr, ha, hb⟩ := hex2_two hx
 have hl : (s.data.toList.drop (pos + 1)).length = r'.length + 2 := by rw [hr]; rfl
 rw [List.length_drop, ← Lib.size_eq] at hl
 have hns : shownB (s[pos]'hp) = false := by
  cases e : shownB (s[pos]'hp) with
  | false => rfl
  | true => simp only [shownB, Bool.and_eq_true, decide_eq_true_eq] at e; omega
 refine ⟨by omega, by omega, ?_, fun j hj h1 h2 => ?_, ?_⟩
 ·rw [h.eq, e1, e2, drop_more s pos hp, unqL_cons, if_neg (by rw [hns]; decide), if_pos hc, hx]
  simp only [List.drop_drop, Option.map_map]
  congr 1
  funext z
  simp
 ·have h0 := drop_more s (pos + 1) (by omega)
  have h3 := drop_more s (pos + 2) (by omega)
  rw [hr] at h0
  have q1 : a = s[pos + 1]'(by omega) := (List.cons.inj h0).1
  have q2 := (List.cons.inj h0).2
  rw [h3] at q2
  have q3 : b = s[pos + 2]'(by omega) := (List.cons.inj q2).1
  have : j = pos + 1 ∨ j = pos + 2 := by omega
  rcases this with rfl | rfl
  ·rw [← q1]; exact ha
  ·rw [← q3]; exact hb
 ·have := h.len
  rw [List.length_append, e2]
  simp
  omega
theorem Rd.bad {s : ByteArray} {pos nx : Nat} {acc : List UInt8} (h : Rd s pos nx acc) (hp : pos < s.size) (hn : ¬ pos < nx) (hs : shownB (s[pos]'hp) = false) (hc : (s[pos]'hp).toNat = 92 → hex2 (s.data.toList.drop (pos + 1)) = none) : unqL s.data.toList = none := by
 have e1 : max pos nx = pos := by omega
 rw [h.eq, e1, drop_more s pos hp, unqL_cons, if_neg (by rw [hs]; decide)]
 by_cases h92 : (s[pos]'hp).toNat = 92
 ·rw [if_pos h92, hc h92]
  rfl
 ·rw [if_neg h92]
  rfl
theorem Rd.fin {s : ByteArray} {pos nx : Nat} {acc : List UInt8} (h : Rd s pos nx acc) (hp : ¬ pos < s.size) : unqL s.data.toList = some acc := by
 have h1 := h.p
 have h2 := h.n
 rw [h.eq, List.drop_of_length_le (by rw [← Lib.size_eq]; omega), unqL_nil]
 simp
def QuoA (v : Value) (b : Bool) : Option (List UInt8) → Prop
 | some l => b = true ∧ v = .string (mkB l)
 | none => b = false ∧ v = .string ⟨#[]⟩
set_option maxRecDepth 100000 in
set_option maxHeartbeats 1600000 in
theorem rquoted_any (w : World) (s : ByteArray) (hs : s.size ≤ 100000) :
  Calls Tryz.prog 143 #[.string s] w fun e w' => (∃ v b, e = .returned (.tuple #[v, .bool b]) ∧ QuoA v b (unqL s.data.toList)) ∧ Kept w w' := by
 have HS0 : Hid (Bld ((w.alloc (.cells #[.pointer none, .slice none 0 0] 139)).iter s 0) w.heap.size w.heap.size [] ∧ Below w.heap.size w ((w.alloc (.cells #[.pointer none, .slice none 0 0] 139)).iter s 0) ∧ ((w.alloc (.cells #[.pointer none, .slice none 0 0] 139)).iter s 0).heap[w.heap.size + 1]? = some (.stringIter s 0)) := by
  refine ⟨Lib.IsBuilderF.alloc (Lib.IsBuilderF.of (Lib.fresh_isBuilder 139 5 w)) _, ((Below.refl _ w).alloc (Nat.le_refl _) _).alloc (by simp) _, ?_⟩
  have := World.iter_heap (w.alloc (.cells #[.pointer none, .slice none 0 0] 139)) s 0
  simpa using this
 go_enter Tryz.func143, Tryz.ntmps143
 go_wp2
 generalize (w.alloc (.cells #[.pointer none, .slice none 0 0] 139)).iter s 0 = w0 at HS0 ⊢
 go_loopw [5] (fun d wr => ∃ (pos nx : Nat) (acc : List UInt8), d = .int .i64 (nx : Int) ∧ wr.heap[w.heap.size + 1]? = some (.stringIter s pos) ∧ Bld wr w.heap.size w.heap.size acc ∧ Below w.heap.size w wr ∧ Rd s pos nx acc) (fun _ wr => s.size - wr.iterPos (w.heap.size + 1))
 case atStart => exact ⟨0, 0, [], rfl, HS0.out.2.2, HS0.out.1, HS0.out.2.1, ⟨by omega, by omega, by simp, fun j _ _ h => absurd h (by omega), by simp⟩⟩
 case round =>
  obtain ⟨pos, nx, acc, rfl, hit, hb, hw, hR⟩ := hrel
  have hsz : w.heap.size + 1 < wr.heap.size := (Array.getElem?_eq_some_iff.1 hit).1
  have hpm := iterPos_at hit
  have HR := hid hR
  have HB := hid hb
  have HW := hid hw
  have hla := hR.len
  have hps := hR.p
  have hns := hR.n
  clear hb hw hR
  have HKW : Hid (∀ (W : World), Below w.heap.size w W → Kept w W) := fun W h => ⟨h.os, h.tape, h.output, h.size, fun q hq _ => h.block q hq⟩
  by_cases hp : pos < s.size
  ·by_cases ha : (s[pos]'hp).toNat < 128
   ·have hnx : ∀ ty, (Instr.next (.pointer (some ⟨w.heap.size + 1, 0, none⟩)) true ty).run Tryz.prog wr = _ := fun ty => Lib.run_next_ascii_at wr (w.heap.size + 1) s pos ty hit hp ha
    have HB2 := hid (Lib.IsBuilderF.iterAt HB.out hit (pos + 1))
    have HW2 := hid (Lib.below_iterAt HW.out (k := w.heap.size + 1) (by omega) s (pos + 1))
    have hit2 := Lib.iterAt_heap wr (w.heap.size + 1) s pos (pos + 1) hit
    have hpm2 := iterPos_at hit2
    have hsz2 : (wr.iterAt (w.heap.size + 1) s (pos + 1)).heap.size = wr.heap.size := Lib.iterAt_size _ _ _ _
    by_cases hlt : pos < nx
    ·have hlt' : (pos : Int) < (nx : Int) := by omega
     have HR2 := hid (HR.out.skip hp hlt)
     go_wp2
     refine ⟨⟨pos + 1, nx, acc, rfl, hit2, HB2.out, HW2.out, HR2.out⟩, ?_⟩
     rw [hpm, hpm2]
     omega
    ·have hlt' : ¬ ((pos : Int) < (nx : Int)) := by omega
     have HSh := hid (fun W => isShown_any W ((s[pos]'hp).toNat : Int))
     rw [shownI_byte] at HSh
     have hcl := (s[pos]'hp).toNat_lt
     cases hsh : shownB (s[pos]'hp) with
     | true =>
      rw [hsh] at HSh
      have hcw : IntKind.u8.wrap ((s[pos]'hp).toNat : Int) = ((s[pos]'hp).toNat : Int) := by simp [IntKind.wrap, IntKind.bits, IntKind.signed]; omega
      have HR2 := hid (HR.out.shown hp hlt hsh)
      have H2 := hid (wbyte_any HB2.out (s[pos]'hp) (by omega) (by omega))
      go_wp2_with (go_at_call 113; refine (HSh.out _).mono ?_)
      refine H2.out.mono ?_
      rintro e w2 ⟨rfl, hb2, hk2⟩
      have hit4 := hk2.others.iter hit2 (by omega)
      have HB3 := hid hb2
      have hpm4 := iterPos_at hit4
      clear hb2 H2
      go_wp2
      refine ⟨⟨pos + 1, nx, _, rfl, hit4, HB3.out, HW2.out.trans hk2.below, HR2.out⟩, ?_⟩
      rw [hpm, hpm4]
      omega
     | false =>
      rw [hsh] at HSh
      by_cases h92 : (s[pos]'hp).toNat = 92
      ·have hcw : (((s[pos]'hp).toNat : Int) == 92) = true := by simp; omega
       have e1 : IntKind.i64.wrap ((pos : Int) + 1) = (pos : Int) + 1 := by rw [IntKind.wrap_i64]; omega
       have hex := hex_any (wr.iterAt (w.heap.size + 1) s (pos + 1)) (s.extract (pos + 1) s.size) (by rw [ByteArray.size_extract]; omega)
       rw [sub_bytes, List.take_of_length_le (by rw [← Lib.size_eq]; omega)] at hex
       have HX := hid hex
       have HHx := hid (fun v h => HR.out.hex (v := v) hp hlt h92 h)
       have HBd := hid (fun h => HR.out.bad hp hlt hsh (fun _ => h))
       have H92 := hid h92
       clear hex h92
       go_wp2_with (go_at_call 113; refine (HSh.out _).mono ?_)
       refine HX.out.mono ?_
       rintro e w1 ⟨⟨v, rfl, hv⟩, hq⟩
       replace hq := hq.symm
       subst hq
       cases hxx : hex2 (s.data.toList.drop (pos + 1)) with
       | none =>
        have hbad := hid (HBd.out hxx)
        go_wp2
        go_ret2
        refine ⟨⟨_, _, rfl, ?_⟩, HKW.out _ HW2.out⟩
        rw [hbad.out]
        exact ⟨rfl, rfl⟩
       | some y =>
        have hvy := hv y hxx
        subst hvy
        have HR2 := hid (HHx.out y hxx)
        have H2 := hid (wbyte_any HB2.out y (by omega) (by omega))
        clear hv hxx HHx HBd HX
        go_wp2_with fail
        refine H2.out.mono ?_
        rintro e w2 ⟨rfl, hb2, hk2⟩
        have hit4 := hk2.others.iter hit2 (by omega)
        have HB3 := hid hb2
        have hpm4 := iterPos_at hit4
        clear hb2 H2
        go_wp2
        refine ⟨⟨pos + 1, pos + 3, _, by go_num, hit4, HB3.out, HW2.out.trans hk2.below, HR2.out⟩, ?_⟩
        rw [hpm, hpm4]
        omega
      ·have hcw : (((s[pos]'hp).toNat : Int) == 92) = false := by simp; omega
       have hbad := hid (HR.out.bad hp hlt hsh (fun h => absurd h h92))
       have H92 := hid h92
       clear h92
       go_wp2_with (go_at_call 113; refine (HSh.out _).mono ?_)
       go_ret2
       refine ⟨⟨_, _, rfl, ?_⟩, HKW.out _ HW2.out⟩
       rw [hbad.out]
       exact ⟨rfl, rfl⟩
   ·have hlt : ¬ pos < nx := fun h => by
     have := HR.out.low pos hp (Nat.le_refl _) h
     omega
    have hlt' : ¬ ((pos : Int) < (nx : Int)) := by omega
    have hdh := decode_high s pos hp (by omega)
    have hm := decode_le s pos
    have hsh : shownB (s[pos]'hp) = false := by
     cases e : shownB (s[pos]'hp) with
     | false => rfl
     | true => simp only [shownB, Bool.and_eq_true, decide_eq_true_eq] at e; omega
    have hbad := hid (HR.out.bad hp hlt hsh (fun h => absurd h (by omega)))
    have hnx : ∀ ty, (Instr.next (.pointer (some ⟨w.heap.size + 1, 0, none⟩)) true ty).run Tryz.prog wr = _ := fun ty => Lib.run_next_any_at wr (w.heap.size + 1) s pos ty hit hp
    have HW2 := hid (Lib.below_iterAt HW.out (k := w.heap.size + 1) (by omega) s (pos + (Utf8.decode s pos).2))
    have HSh := hid (fun W => isShown_any W ((Utf8.decode s pos).1 : Int))
    have hshI : shownI ((Utf8.decode s pos).1 : Int) = false := by
     unfold shownI
     rw [show decide (((Utf8.decode s pos).1 : Int) ≤ 126) = false by simp; omega]
     simp
    rw [hshI] at HSh
    have hr92 : (((Utf8.decode s pos).1 : Int) == 92) = false := by simp; omega
    clear hshI hdh hsh ha
    generalize (Utf8.decode s pos).1 = r at hnx HSh hm hr92
    generalize (Utf8.decode s pos).2 = n at hnx HW2
    go_wp2_with (go_at_call 113; refine (HSh.out _).mono ?_)
    go_ret2
    refine ⟨⟨_, _, rfl, ?_⟩, HKW.out _ HW2.out⟩
    rw [hbad.out]
    exact ⟨rfl, rfl⟩
  ·have hfin := hid (HR.out.fin hp)
   have hnx : ∀ ty, (Instr.next (.pointer (some ⟨w.heap.size + 1, 0, none⟩)) true ty).run Tryz.prog wr = _ := fun ty => Lib.run_next_end_at wr (w.heap.size + 1) s pos ty hit hp
   have H2 := hid (bstring_any HB.out (by omega))
   go_wp2_with fail
   refine H2.out.mono ?_
   rintro e w2 ⟨rfl, hk2⟩
   go_wp2
   go_ret2
   refine ⟨⟨_, _, rfl, ?_⟩, HKW.out _ (HW.out.trans hk2)⟩
   rw [hfin.out]
   exact ⟨rfl, rfl⟩
end Go.Proofs.YtllfanlhgnkcfaaGreatDoor.N
