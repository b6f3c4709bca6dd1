/-
  Nsort, Nmake.
-/
import Derived.Test.YtllfanlhgnkcfaaGreatDoorQ20
import Derived.WalkMore
import Derived.Laws.MakeOwn
namespace Go.Proofs.YtllfanlhgnkcfaaGreatDoor.N
open Go.RowKit Go.Proofs.Lys
set_option linter.unusedVariables false
set_option linter.unusedSimpArgs false
theorem eq_str (X Y : ByteArray) : (X.toList == Y.toList) = decide (cmpB X Y = 0) := by
 rw [ByteArray.toList_eq, ByteArray.toList_eq]
 by_cases h : cmpB X Y = 0
 ·have := cmpB_good.zero X Y h
  subst this
  simp [h]
 ·have hne : X ≠ Y := fun e => h (by rw [e]; exact cmpB_good.self Y)
  have h2 : X.data.toList ≠ Y.data.toList := fun e => hne (bytes_inj e)
  rw [decide_eq_false h]
  simpa using h2
theorem lt_str (X Y : ByteArray) : Op.bytesLess X.toList Y.toList = decide (cmpB X Y = -1) := by
 rw [ByteArray.toList_eq, ByteArray.toList_eq, less_cmp]
 rfl
def Past (x : Lab) (acc : Labs) (j : Nat) : Prop := ins x acc = (ins x (acc.drop j)).map (acc.take j ++ ·)
theorem past_start (x : Lab) (acc : Labs) : Past x acc 0 := by
 unfold Past
 simp
theorem past_step {x : Lab} {acc : Labs} {j : Nat} (h : Past x acc j) (hj : j < acc.length) (h0 : cmpB x.1 acc[j].1 ≠ 0) (h1 : cmpB x.1 acc[j].1 ≠ -1) : Past x acc (j + 1) := by
 unfold Past at h ⊢
 rw [h, List.drop_eq_getElem_cons hj, ins, if_neg h0, if_neg h1, Option.map_map]
 congr 1
 funext z
 show acc.take j ++ (acc[j] :: z) = acc.take (j + 1) ++ z
 rw [← List.take_append_getElem hj, List.append_assoc]
 rfl
theorem past_end {x : Lab} {acc : Labs} {j : Nat} (h : Past x acc j) (hj : j = acc.length) : ins x acc = some (acc ++ [x]) := by
 unfold Past at h
 subst hj
 rw [h]
 simp [ins]
theorem past_eq {x : Lab} {acc : Labs} {j : Nat} (h : Past x acc j) (hj : j < acc.length) (h0 : cmpB x.1 acc[j].1 = 0) : ins x acc = none := by
 unfold Past at h
 rw [h, List.drop_eq_getElem_cons hj, ins, if_pos h0]
 rfl
theorem past_lt {x : Lab} {acc : Labs} {j : Nat} (h : Past x acc j) (hj : j < acc.length) (h1 : cmpB x.1 acc[j].1 = -1) : ins x acc = some (acc.take j ++ x :: acc.drop j) := by
 unfold Past at h
 rw [h, List.drop_eq_getElem_cons hj, ins, if_neg (by omega), if_pos h1]
 rfl
theorem insAll_app (a l r : Labs) : insAll a (l ++ r) = (insAll a l).bind (fun b => insAll b r) := by
 induction l generalizing a with
 | nil => rfl
 | cons x l ih =>
  show (ins x a).bind _ = ((ins x a).bind _).bind _
  cases h : ins x a with
  | none => rfl
  | some b => exact ih b
theorem insAll_step {l acc : Labs} {k : Nat} (hk : k < l.length) (h : insAll [] (l.take k) = some acc) : insAll [] (l.take (k + 1)) = ins l[k] acc := by
 rw [← List.take_append_getElem hk, insAll_app, h]
 show (ins l[k] acc).bind (fun b => insAll b []) = _
 cases ins l[k] acc <;> rfl
theorem insAll_none {l acc : Labs} {k : Nat} (hk : k < l.length) (h : insAll [] (l.take k) = some acc) (hn : ins l[k] acc = none) : insAll [] l = none := by
 have e := insAll_step hk h
 rw [hn] at e
 rw [← List.take_append_drop (k + 1) l, insAll_app, e]
 rfl
theorem room_append {w : World} {B g cap xb : Nat} {l : Labs} {x : Lab} (h : LabAt w B (.slice (some ⟨g, 0, none⟩) l.length cap) l) (hroom : l.length + 1 ≤ cap) (hx : Blk w xb [.string x.1, .string x.2] 71) (hne : xb ≠ g) :
  ∃ w', Hid ((Builtin.append_ #[45, 45] 0 #[.slice (some ⟨g, 0, none⟩) l.length cap, .slice (some ⟨xb, 0, none⟩) 1 1]).run Tryz.prog w = .ok (.slice (some ⟨g, 0, none⟩) (l.length + 1) cap) w') ∧
   LabAt w' B (.slice (some ⟨g, 0, none⟩) (l.length + 1) cap) (l ++ [x]) ∧ Only (fun k => k = g) w w' := by
 obtain ⟨hl, hrest⟩ := h
 obtain ⟨cur, hb, hg, hcm, hcs, htake⟩ : ∃ cur, B ≤ g ∧ w.heap[g]? = some (.cells cur 71 (0, 0)) ∧ cap ≤ maxLen ∧ cur.size = cap * 2 ∧ cur.toList.take (l.length * 2) = labL l := by
  rcases hrest with ⟨e, _⟩ | ⟨g', cap', cur, hv, hb, hg, _, hm, hs, ht⟩
  ·cases e
  ·simp only [Value.slice.injEq, Option.some.injEq, Addr.mk.injEq] at hv
   obtain ⟨⟨rfl, _⟩, _, rfl⟩ := hv
   exact ⟨cur, hb, hg, hm, hs, ht⟩
 obtain ⟨i0, hi0, hz0, hz1, hz2⟩ := info_parts Tryz.infoLab
 have hr := run_append_room (P := Tryz.prog) w 45 0 71 i0 Tryz.underlying45 hi0 g l.length cap cur hg ⟨xb, 0, none⟩ 1 1 [.string x.1, .string x.2] (by rw [hz1]; rfl)
  (fun j u hj => by rw [add_none, Nat.zero_add]; exact hx.cell j hj) (by intro v hv; simp at hv; rcases hv with rfl | rfl <;> rfl) hroom (by rw [hz1]; simp; omega)
 rw [hz1, htake] at hr
 refine ⟨_, hr, ⟨?_, .inr ⟨g, cap, _, by simp, hb, setRow_heap w g cur _ _ _ hg, by simpa using hroom, hcm, ?_, ?_⟩⟩, ⟨rfl, rfl, rfl, by simp, fun k hk hn => setRow_other _ _ _ _ hn⟩⟩
 ·exact labL_len _
 ·have : cur.toList.length = cap * 2 := by simpa using hcs
  simp [labL_len]
  omega
 ·have e : labL (l ++ [x]) = labL l ++ [.string x.1, .string x.2] := by rw [labL_app]; rfl
  rw [e]
  simp only [List.length_append, List.length_singleton]
  rw [List.take_left']
  simp [labL_len]
  omega
def SortA (w : World) (B : Nat) (u : Value) (b : Bool) : Option Labs → Prop
 | some m => b = true ∧ LabAt w B u m
 | none => b = false ∧ u = .slice none 0 0
set_option maxRecDepth 100000 in
set_option maxHeartbeats 1000000 in
theorem sorted_any (w : World) (v : Value) (l : Labs) (hs : LabSrc w v l) (h0 : 0 < l.length) (h16 : l.length ≤ 16) :
  Calls Tryz.prog 69 #[v] w fun e w' => (∃ u b, e = .returned (.tuple #[u, .bool b]) ∧ SortA w' w.heap.size u b (insAll [] l)) ∧ Kept w w' := by
 obtain ⟨a1, c1, rfl⟩ := hs.len
 obtain ⟨L, hL⟩ : ∃ L, l.length = L := ⟨_, rfl⟩
 rw [hL] at hs h0 h16 ⊢
 obtain ⟨i0, hi0, hz0, hz1, hz2⟩ := info_parts Tryz.infoLab
 have hmk : (Instr.makeSlice 45 (.int .i64 0) (.int .i64 (L : Int))).run Tryz.prog w = .ok (.slice (some ⟨w.heap.size, 0, none⟩) 0 L) (w.alloc (.cells (madeCells (Value.agg #[.string ⟨#[]⟩, .string ⟨#[]⟩]).cells (L * 2)) 71)) := by
  have := run_make (P := Tryz.prog) w 45 71 i0 _ Tryz.underlying45 hi0 hz0 .i64 .i64 0 (L : Int) (by omega) (by omega) (by rw [hz2]; omega) (by omega)
  rw [hz1] at this
  exact this
 generalize hW0 : w.alloc (.cells (madeCells (Value.agg #[.string ⟨#[]⟩, .string ⟨#[]⟩]).cells (L * 2)) 71) = w0 at hmk
 have hG : Hid (LabAt w0 w.heap.size (.slice (some ⟨w.heap.size, 0, none⟩) 0 L) [] ∧ Kept w w0) := by
  rw [← hW0]
  exact ⟨World.ownsRow_made w _ L (Nat.le_refl _) (by unfold maxLen; omega) (size_madeCells _ _), (Only.refl _ w).alloc _⟩
 have HS := hid hs
 have HL := hid hL
 clear hs hL hW0
 have HN : Hid (∀ k acc, k < L → ∀ hk : k < l.length, insAll [] (l.take k) = some acc → ins (l[k]'hk) acc = none → insAll [] l = none) := fun k acc _ hk h1 h2 => insAll_none hk h1 h2
 have HP : Hid (∀ k acc m, ∀ hk : k < l.length, insAll [] (l.take k) = some acc → ins (l[k]'hk) acc = some m → insAll [] (l.take (k + 1)) = some m) := fun k acc m hk h1 h2 => (insAll_step hk h1).trans h2
 have HE : Hid (∀ acc, insAll [] (l.take L) = some acc → insAll [] l = some acc) := fun acc h => by
  have := HL.out
  rw [List.take_of_length_le (by omega)] at h
  exact h
 have mixed : Tryz.prog.follows Departure.mixedOrders = true := by kernel_rfl
 go_enter Tryz.func69, Tryz.ntmps69
 go_wp2
 go_step3
 go_wp2
 go_step3
 go_wp2
 go_loopw [4, 14] (fun o s wr => ∃ (k : Nat) (acc : Labs), k ≤ L ∧ o = .slice (some ⟨w.heap.size, 0, none⟩) k L ∧ s = .int .i64 (k : Int) ∧ acc.length = k ∧ LabAt wr w.heap.size (.slice (some ⟨w.heap.size, 0, none⟩) k L) acc ∧ insAll [] (l.take k) = some acc ∧ Kept w wr) (fun _ s _ => L - (intOf s).toNat)
 case atStart => exact ⟨0, [], by omega, rfl, rfl, rfl, hG.out.1, rfl, hG.out.2⟩
 case round =>
  obtain ⟨k, acc, hk, rfl, rfl, hacc, hat, hins, kr⟩ := hrel
  have HA := hid hat
  have HI := hid hins
  have HK := hid kr
  have hGlt := hid (show w.heap.size < wr.heap.size from (ownN_lt hat rfl).2)
  clear hat hins
  by_cases hlt : k < L
  ·have hkl : k < l.length := by have := HL.out; omega
   obtain ⟨b1, o1, rfl, x1, y1⟩ := (HS.out.stay kr).cell HL.out k hlt
   have HN2 := hid (fun h => HN.out k acc hlt hkl HI.out h)
   have HP2 := hid (fun m h => HP.out k acc m hkl HI.out h)
   clear kr
   generalize l[k]'hkl = x at x1 y1 HN2 HP2
   obtain ⟨X, Y⟩ := x
   simp only at x1 y1
   have hb1 := hid (World.block_lt_of_cell? _ _ x1)
   go_wp2
   generalize hw1 : wr.alloc (.cells #[.string X, .string Y] 71) = w1
   have HX : Hid (Blk w1 wr.heap.size [.string X, .string Y] 71 ∧ LabAt w1 w.heap.size (.slice (some ⟨w.heap.size, 0, none⟩) k L) acc ∧ Kept w w1) := by
    rw [← hw1]
    exact ⟨Blk.new _ _ _, ownN_stay HA.out ((Only.refl _ wr).alloc _), HK.out.alloc _⟩
   clear hw1
   generalize hxb : wr.heap.size = xb at HX ⊢
   have hxG : Hid (w.heap.size < xb) := by have := hGlt.out; rw [hxb] at this; exact this
   go_loopw [4, 20] (fun o s w2 => ∃ (j : Nat), j ≤ k ∧ o = .slice (some ⟨w.heap.size, 0, none⟩) k L ∧ s = .int .i64 (j : Int) ∧ Past (X, Y) acc j ∧ Blk w2 xb [.string X, .string Y] 71 ∧ LabAt w2 w.heap.size (.slice (some ⟨w.heap.size, 0, none⟩) k L) acc ∧ Kept w w2) (fun _ s _ => k - (intOf s).toNat)
   case atStart => exact ⟨0, by omega, rfl, rfl, past_start _ _, HX.out⟩
   case round =>
    obtain ⟨j, hj, rfl, rfl, hp, hbx, hat, k2⟩ := hrel
    have HP3 := hid hp
    have HB := hid hbx
    have HA2 := hid hat
    have HK2 := hid k2
    have hxlt := hid hbx.lt
    clear hp
    have bx0 := hbx.cell 0 rfl
    have bx1 := hbx.cell 1 rfl
    by_cases hlt2 : j < k
    ·obtain ⟨b2, o2, e2, p1, p2⟩ := hat.src.cell hacc j hlt2
     simp only [Option.some.injEq, Addr.mk.injEq] at e2
     obtain ⟨rfl, rfl, _⟩ := e2
     rw [Nat.zero_add] at p1 p2
     have hja : j < acc.length := by omega
     have hEq := eq_str X (acc[j]'hja).1
     have hLt := lt_str X (acc[j]'hja).1
     have H1 := hid (fun h => past_eq HP3.out hja (show cmpB X (acc[j]'hja).1 = 0 from h))
     have H2 := hid (fun h => past_lt HP3.out hja (show cmpB X (acc[j]'hja).1 = -1 from h))
     have H3 := hid (fun h h' => past_step HP3.out hja (show cmpB X (acc[j]'hja).1 ≠ 0 from h) (show cmpB X (acc[j]'hja).1 ≠ -1 from h'))
     clear hat hbx k2
     generalize acc[j]'hja = q at p1 p2 hEq hLt H1 H2 H3
     obtain ⟨Q1, Q2⟩ := q
     simp only at p1 p2 hEq hLt H1 H2 H3
     have f0 : (wr.alloc (.cells #[.string Q1, .string Q2] 71)).cell? ⟨xb, 0, none⟩ = some (.string X) := (HB.out.alloc _).cell 0 rfl
     have f1 : (wr.alloc (.cells #[.string Q1, .string Q2] 71)).cell? ⟨xb, 1, none⟩ = some (.string Y) := (HB.out.alloc _).cell 1 rfl
     by_cases c0 : cmpB X Q1 = 0
     ·rw [decide_eq_true c0] at hEq
      have hn := hid (HN2.out (H1.out c0))
      go_wp2
      rw [Exit.noGoto_ret]
      go_ret2
      refine ⟨⟨_, _, rfl, ?_⟩, HK2.out.alloc _⟩
      rw [hn.out]
      exact ⟨rfl, rfl⟩
     ·by_cases c1 : cmpB X Q1 = -1
      ·rw [decide_eq_false c0] at hEq
       rw [decide_eq_true c1] at hLt
       have hm := hid (HP2.out _ (H2.out c1))
       have hGx := hid (show w.heap.size < wr.heap.size from (ownN_lt HA2.out rfl).2)
       have Hc : Hid (Calls Tryz.prog 92 #[.slice (some ⟨w.heap.size, 0, none⟩) k L, .int .i64 (j : Int), .slice (some ⟨wr.heap.size + 1, 0, none⟩) 1 1] ((wr.alloc (.cells #[.string Q1, .string Q2] 71)).alloc (.cells #[.string X, .string Y] 71)) fun e w' =>
         e = .returned (.slice (some ⟨w.heap.size, 0, none⟩) (k + 1) L) ∧ LabAt w' w.heap.size (.slice (some ⟨w.heap.size, 0, none⟩) (k + 1) L) (acc.take j ++ (X, Y) :: acc.drop j) ∧ Kept w w') := by
        have hA3 : LabAt ((wr.alloc (.cells #[.string Q1, .string Q2] 71)).alloc (.cells #[.string X, .string Y] 71)) w.heap.size (.slice (some ⟨w.heap.size, 0, none⟩) acc.length L) acc := by
         rw [hacc]
         exact ownN_stay HA2.out (((Only.refl _ wr).alloc _).alloc _)
        have hB3 := Blk.new (wr.alloc (.cells #[.string Q1, .string Q2] 71)) [.string X, .string Y] 71
        have hsz : (wr.alloc (.cells #[.string Q1, .string Q2] 71)).heap.size = wr.heap.size + 1 := by simp
        rw [hsz] at hB3
        have := insert_any (x := (X, Y)) (i := j) hA3 (by omega) (by omega) hB3 (by have := hGx.out; omega)
        rw [hacc] at this
        refine this.mono ?_
        rintro e w3 ⟨h1, h2, h3⟩
        refine ⟨h1, h2, ?_⟩
        exact ((HK2.out.alloc _).alloc _).trans h3 (fun q hq e => by omega)
       go_wp2_with (go_at_call 92; refine (Hc.out).mono ?_)
       rintro e w3 ⟨rfl, h2, h3⟩
       have HA4 := hid h2
       clear h2
       go_wp2
       refine ⟨⟨k + 1, _, by omega, rfl, by go_num, by simp; omega, HA4.out, hm.out, h3⟩, ?_⟩
       simp [intOf]
       omega
      ·rw [decide_eq_false c0] at hEq
       rw [decide_eq_false c1] at hLt
       go_wp2
       refine ⟨⟨j + 1, by omega, rfl, by go_num, H3.out c0 c1, HB.out.alloc _, ownN_stay HA2.out ((Only.refl _ wr).alloc _), HK2.out.alloc _⟩, ?_⟩
       simp [intOf]
       omega
    ·have e : j = k := by omega
     subst e
     have hm := hid (HP2.out _ (past_end HP3.out hacc.symm))
     have hGx := hid (show w.heap.size < wr.heap.size from (ownN_lt HA2.out rfl).2)
     obtain ⟨w3, Hr, Hat, Hk⟩ : ∃ w3, Hid ((Builtin.append_ #[45, 45] 0 #[.slice (some ⟨w.heap.size, 0, none⟩) j L, .slice (some ⟨wr.heap.size, 0, none⟩) 1 1]).run Tryz.prog (wr.alloc (.cells #[.string X, .string Y] 71)) = .ok (.slice (some ⟨w.heap.size, 0, none⟩) (j + 1) L) w3) ∧
       Hid (LabAt w3 w.heap.size (.slice (some ⟨w.heap.size, 0, none⟩) (j + 1) L) (acc ++ [(X, Y)])) ∧ Hid (Kept w w3) := by
      have hA3 : LabAt (wr.alloc (.cells #[.string X, .string Y] 71)) w.heap.size (.slice (some ⟨w.heap.size, 0, none⟩) acc.length L) acc := by
       rw [hacc]
       exact ownN_stay HA2.out ((Only.refl _ wr).alloc _)
      obtain ⟨w3, h1, h2, h3⟩ := room_append (x := (X, Y)) hA3 (by omega) (Blk.new wr [.string X, .string Y] 71) (by have := hGx.out; omega)
      rw [hacc] at h1 h2
      exact ⟨w3, h1, h2, (HK2.out.alloc _).trans h3 (fun q hq e => by omega)⟩
     clear hat hbx k2
     go_wp2_with (at_builtin; refine wpList_append_run rfl _ _ _ rfl rfl rfl Hr ?_)
     refine ⟨⟨j + 1, _, by omega, rfl, by go_num, by simp; omega, Hat.out, hm.out, Hk.out⟩, ?_⟩
     simp [intOf]
     omega
  ·have e : k = L := by omega
   subst e
   go_wp2
   have hE := HE.out acc HI.out
   rw [Exit.noGoto_ret]
   go_ret2
   refine ⟨⟨_, _, rfl, ?_⟩, HK.out⟩
   rw [hE]
   exact ⟨rfl, HA.out⟩
end Go.Proofs.YtllfanlhgnkcfaaGreatDoor.N
namespace Go.Proofs.YtllfanlhgnkcfaaGreatDoor.N
open Go.RowKit Go.Proofs.Lys
set_option linter.unusedVariables false
set_option linter.unusedSimpArgs false
def Small (l : Labs) : Prop := ∀ x ∈ l, x.1.size ≤ 100000 ∧ x.2.size ≤ 100000
def MakeA (w : World) (B : Nat) (u : Value) (n : Int) : Option Labs → Prop
 | some m => n = 0 ∧ LabAt w B u m
 | none => n = 20 ∧ u = .slice none 0 0
theorem makeL_bad {l : Labs} {k : Nat} (hk : k < l.length) (h : labOk l[k] = false) : makeL l = none := by
 unfold makeL
 split
 ·rfl
 ·rw [if_neg]
  intro hall
  have := List.all_eq_true.1 hall _ (List.getElem_mem hk)
  rw [h] at this
  cases this
theorem makeL_good {l : Labs} (h0 : 0 < l.length) (h16 : l.length ≤ 16) (h : ∀ k (hk : k < l.length), labOk l[k] = true) : makeL l = insAll [] l := by
 unfold makeL
 rw [if_neg (by omega), if_pos]
 refine List.all_eq_true.2 (fun x hx => ?_)
 obtain ⟨k, hk, rfl⟩ := List.getElem_of_mem hx
 exact h k hk
set_option maxRecDepth 100000 in
set_option maxHeartbeats 1600000 in
theorem make_any (w : World) (v : Value) (l : Labs) (hs : LabSrc w v l) (hl : l.length ≤ 100000) (hB : Small l) :
  Calls Tryz.prog 44 #[v] w fun e w' => (∃ u n, e = .returned (.tuple #[u, .int .i64 n]) ∧ MakeA w' w.heap.size u n (makeL l)) ∧ Kept w w' := by
 obtain ⟨a1, c1, rfl⟩ := hs.len
 obtain ⟨L, hL⟩ : ∃ L, l.length = L := ⟨_, rfl⟩
 rw [hL] at hs hl ⊢
 have HS := hid hs
 have HL := hid hL
 have HB := hid hB
 have H0 : Hid (¬ (0 < L ∧ L ≤ 16) → makeL l = none) := fun h => by
  unfold makeL
  rw [if_pos (by omega)]
 have H1 : Hid (∀ k (hk : k < l.length), labOk l[k] = false → makeL l = none) := fun k hk h => makeL_bad hk h
 have H2 : Hid (0 < L → L ≤ 16 → (∀ k (hk : k < l.length), labOk l[k] = true) → makeL l = insAll [] l) := fun h1 h2 h3 => makeL_good (by omega) (by omega) h3
 clear hs hL hB
 by_cases hr : 0 < L ∧ L ≤ 16
 ·obtain ⟨h0, h16⟩ := hr
  go_enter Tryz.func44, Tryz.ntmps44
  go_wp2
  all_goals try (exfalso; simp_all; omega)
  rename_i hq1 hq2 _ _
  clear hq1 hq2
  go_loopw [18] (fun s wr => ∃ (k : Nat), k ≤ L ∧ s = .int .i64 (k : Int) ∧ (∀ i (hi : i < l.length), i < k → labOk l[i] = true) ∧ Kept w wr) (fun s _ => L - (intOf s).toNat)
  case atStart => exact ⟨0, by omega, rfl, fun i _ h => absurd h (by omega), Only.refl _ _⟩
  case round =>
   obtain ⟨k, hk, rfl, hok, kr⟩ := hrel
   have HO := hid hok
   have HK := hid kr
   by_cases hlt : k < L
   ·have hkl : k < l.length := by have := HL.out; omega
    obtain ⟨b1, o1, rfl, x1, y1⟩ := (HS.out.stay kr).cell HL.out k hlt
    have hbd := HB.out _ (List.getElem_mem hkl)
    have HF := hid (fun h => H1.out k hkl h)
    have HT : Hid (labOk (l[k]'hkl) = true → ∀ i (hi : i < l.length), i < k + 1 → labOk l[i] = true) := fun h i hi hik => by
     by_cases e : i < k
     ·exact HO.out i hi e
     ·have : i = k := by omega
      subst this
      exact h
    clear hok kr
    generalize l[k]'hkl = x at x1 y1 HF HT hbd
    obtain ⟨X, Y⟩ := x
    simp only at x1 y1 hbd
    have Hn := hid (fun W => isName_any W X (by omega))
    have Hv := hid (fun W => isValue_any W Y (by omega))
    have e : labOk (X, Y) = (nameOk X && valOk Y) := rfl
    rw [e] at HF HT
    go_wp2_with (go_at_call 67; refine (Hn.out _).mono ?_)
    rintro e1 w1 ⟨rfl, k1⟩
    have HB1 := Only.blk k1 (Blk.new wr [.string X, .string Y] 71) (fun f => f)
    have b0 := HB1.cell 0 rfl
    have b1' := HB1.cell 1 rfl
    have HK1 := hid ((HK.out.alloc _).trans k1 (fun _ _ f => f))
    clear k1
    cases hn : nameOk X with
    | false =>
     rw [hn] at HF
     have hmk := hid (HF.out rfl)
     go_wp2
     go_ret2
     refine ⟨⟨_, _, rfl, ?_⟩, HK1.out⟩
     rw [hmk.out]
     exact ⟨rfl, rfl⟩
    | true =>
     rw [hn] at HF HT
     go_wp2_with (go_at_call 68; refine (Hv.out _).mono ?_)
     rintro e2 w2 ⟨rfl, hw⟩
     replace hw := hw.symm
     subst hw
     cases hv : valOk Y with
     | false =>
      rw [hv] at HF
      have hmk := hid (HF.out rfl)
      go_wp2
      go_ret2
      refine ⟨⟨_, _, rfl, ?_⟩, HK1.out⟩
      rw [hmk.out]
      exact ⟨rfl, rfl⟩
     | true =>
      rw [hv] at HT
      have HT2 := hid (HT.out rfl)
      go_wp2
      refine ⟨⟨k + 1, by omega, by go_num, HT2.out, HK1.out⟩, ?_⟩
      simp [intOf]
      omega
   ·have e : k = L := by omega
    subst e
    have hmk := hid (H2.out h0 h16 (fun i hi => HO.out i hi (by have := HL.out; omega)))
    have HC := hid (sorted_any wr (.slice a1 k c1) l (HS.out.stay kr) (by have := HL.out; omega) (by have := HL.out; omega))
    go_wp2_with (go_at_call 69; refine HC.out.mono ?_)
    rintro e1 w1 ⟨⟨u, b, rfl, hA⟩, k1⟩
    have HA := hid hA
    clear hA
    cases hi : insAll [] l with
    | none =>
     have hA := HA.out
     rw [hi] at hA
     obtain ⟨rfl, rfl⟩ := hA
     go_wp2
     go_ret2
     refine ⟨⟨_, _, rfl, ?_⟩, HK.out.trans k1 (fun _ _ f => f)⟩
     rw [hmk.out, hi]
     exact ⟨rfl, rfl⟩
    | some m =>
     have hA := HA.out
     rw [hi] at hA
     obtain ⟨rfl, hat⟩ := hA
     have HM := hid hat
     clear hat
     go_wp2
     go_ret2
     refine ⟨⟨_, _, rfl, ?_⟩, HK.out.trans k1 (fun _ _ f => f)⟩
     rw [hmk.out, hi]
     exact ⟨rfl, ownN_base HM.out HK.out.size⟩
 ·have hmk := hid (H0.out hr)
  go_enter Tryz.func44, Tryz.ntmps44
  go_wp2
  all_goals try (exfalso; simp_all; omega)
  all_goals go_ret2
  all_goals refine ⟨⟨_, _, rfl, ?_⟩, Only.refl _ _⟩
  all_goals rw [hmk.out]
  all_goals exact ⟨rfl, rfl⟩
end Go.Proofs.YtllfanlhgnkcfaaGreatDoor.N
