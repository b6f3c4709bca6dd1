/-
  at: the series that stands by a text; one that is not there yet is laid there.
-/
import Derived.Test.YtnbfbnhiikliaaaGreatHput
import Derived.Test.YtnbfbnhiikliaaaGreatNparse
namespace Go.Proofs.YtnbfbnhiikliaaaGreat.Hd
open Go.RowKit Go.Proofs.Lys Go.Maps Go.Proofs.YtnbfbnhiikliaaaGreat.N
set_option linter.unusedVariables false
set_option linter.unusedSimpArgs false

theorem perm_mem {α : Type} : ∀ {l m : List α}, l.Nodup → m.Nodup → (∀ a, a ∈ l ↔ a ∈ m) → l.Perm m
  | [], m, _, _, h => by
    cases m with
    | nil => exact .refl _
    | cons a t => exact absurd ((h a).2 (List.mem_cons_self ..)) (by simp)
  | a :: t, m, hl, hm, h => by
    obtain ⟨s, r, rfl⟩ := List.append_of_mem ((h a).1 (List.mem_cons_self ..))
    have hl' := List.nodup_cons.1 hl
    have hm2 : (a :: (s ++ r)).Nodup := (List.perm_middle.nodup_iff).1 hm
    have hm' := List.nodup_cons.1 hm2
    refine (List.Perm.cons a (perm_mem hl'.2 hm'.2 (fun x => ?_))).trans List.perm_middle.symm
    constructor
    · intro hx
      have := (h x).1 (List.mem_cons_of_mem _ hx)
      rw [List.mem_append, List.mem_cons] at this
      rw [List.mem_append]
      rcases this with h1 | h1 | h1
      · exact .inl h1
      · exact absurd (h1 ▸ hx) hl'.1
      · exact .inr h1
    · intro hx
      rw [List.mem_append] at hx
      have := (h x).2 (by rw [List.mem_append, List.mem_cons]; exact hx.imp id .inr)
      rcases List.mem_cons.1 this with h1 | h1
      · exact absurd (by rw [List.mem_append, ← h1]; exact hx) hm'.1
      · exact h1
theorem sort_nodup {M : Mod} (h : SortM M) : M.Nodup := by
  refine List.Pairwise.imp ?_ h
  intro a b hab e
  rw [e] at hab
  have := cmpL_good.self b.1
  omega
theorem cs_nodup {h : HeadC} (ht : h.cs.Pairwise (fun a b => textL a.labs ≠ textL b.labs)) : (h.cs.map serC).Nodup := by
  unfold List.Nodup
  rw [List.pairwise_map]
  refine ht.imp ?_
  intro a b hab e
  unfold serC at e
  have e1 : a.labs = b.labs := congrArg Prod.fst e
  exact hab (by rw [e1])

theorem Mx.only {w W : World} {O : Nat → Prop} (h : Mx w) (k : Only O w W) (hG : ¬ O 0) : Mx W := by
  obtain ⟨m, hm⟩ := h
  refine ⟨m, ?_⟩
  rw [World.cell?_of_block (w := w) (w' := W) (k.block _ (World.block_lt_of_cell? w _ hm) hG)]
  exact hm
theorem text_len {l : Labs} (h : Made l) : (textL l).length ≤ 10000 := by
  have h1 := accT_len h.ok
  have h2 := h.len16
  unfold textL
  rw [List.length_append, List.length_singleton]
  omega

/-- A head whose blocks are the old ones and new ones. -/
abbrev OX (O : Nat → Prop) (w w' : World) : Nat → Prop := fun k => O k ∨ (w.heap.size ≤ k ∧ k < w'.heap.size)
/-- What at leaves. -/
structure AtP (w : World) (h : HeadC) (O : Nat → Prop) (l : Labs) (h' : HeadC) (c : SerC) (w' : World) : Prop where
  at_ : HeadAt w' h' (OX O w w')
  only : Only O w w'
  hb : h'.hb = h.hb
  win : h'.win = h.win
  mem : c ∈ h'.cs
  labs : c.labs = l
  cs : (h'.cs = h.cs) ∨ (h'.cs = h.cs ++ [c] ∧ c.smps = [] ∧ ∀ d ∈ h.cs, textL d.labs ≠ textL l)

theorem at_yes {w : World} {h : HeadC} {O : Nat → Prop} (hA : HeadAt w h O) (s : ByteArray) (hs : s.size ≤ 100000) {c : SerC} (hn : kvGet h.kv s.data.toList = some (c.b : Int)) :
    Calls Tryz.prog 36 #[.pointer (some ⟨h.hb, 0, none⟩), .string s] w fun e w' => e = .returned (.pointer (some ⟨c.b, 0, none⟩)) ∧ w' = w := by
  have c1 := hA.blk.cell 1 rfl
  have hl : (Instr.lookup 63 (.map h.mv) (.string s) false).run Tryz.prog w = .ok (.pointer (some ⟨c.b, 0, none⟩)) w := by
    cases e : h.mv with
    | none => rw [hA.nil e] at hn; cases hn
    | some mb => exact look_yes (hA.map mb e) (by unfold maxLen; omega) hn
  generalize c.b = cb at hl ⊢
  generalize h.mv = mv at c1 hl
  generalize h.hb = hb at c1 ⊢
  clear hA hn
  go_enter Tryz.func36, Tryz.ntmps36
  go_wp2
  go_ret
  exact ⟨rfl, rfl⟩

theorem map_nil (x : Option Nat) (W : World) : (binOp .eql 63 (.map x) (.map none)).run Tryz.prog W = .ok (.bool x.isNone) W := by
  cases x with
  | none => kernel_rfl
  | some b => kernel_rfl
/-- A new series in a map that is there. -/
theorem at_fin {w w1 w4 : World} {h : HeadC} {O : Nat → Prop} {l : Labs} {mb sb : Nat} {lv : Value} {n1 : Nat} (hA : HeadAt w h O) (hl : Made l) (hno : ∀ d ∈ h.cs, textL d.labs ≠ textL l) (hg : kvGet h.kv (textL l) = none)
    (k1 : Only O w w1) (hblk : Blk w1 h.hb [.int .i64 h.win, .map (some mb)] 65) (hmb : h.mv = some mb ∨ (h.mv = none ∧ w.heap.size ≤ mb)) (hcs : ∀ s ∈ h.cs, SerOk w1 s)
    (hm1 : w1.ownsMap Tryz.prog 9 ptrE mb n1 (kvD h.kv)) (hlv : LabAt w1 w.heap.size lv l) (hsb : Blk w1 sb [lv, .slice none 0 0] 79) (hsw : w.heap.size ≤ sb)
    (hm4 : w4.ownsMap Tryz.prog 9 ptrE mb (kvPut h.kv (textL l) (sb : Int)).length (kvD (kvPut h.kv (textL l) (sb : Int)))) (k4 : Only (· = mb) w1 w4) (hs4 : w4.heap.size = w1.heap.size) :
    AtP w h O l ⟨h.hb, h.win, some mb, kvPut h.kv (textL l) (sb : Int), h.cs ++ [⟨sb, lv, .slice none 0 0, l, []⟩]⟩ ⟨sb, lv, .slice none 0 0, l, []⟩ w4 := by
  have hOmb : mb < w.heap.size → O mb := fun hlt => by
    rcases hmb with e | ⟨_, e⟩
    · exact hA.own _ (.inr (.inl e))
    · omega
  have hOnly : Only O w w4 := k1.trans k4 (fun j hj e => by rw [e] at hj ⊢; exact hOmb hj)
  have ne1 : h.hb ≠ mb := hblk.typed.ne_map hm1
  have neS : ∀ s ∈ h.cs, ∀ j, s.has j → ¬ j = mb := fun s hs j hj e => by
    subst e
    have hok := hcs s hs
    rcases hj with e | e | e
    · exact (hok.blk.typed.ne_map hm1) e.symm
    · exact ((ownN_typed hok.lab e).ne_map hm1) rfl
    · exact ((ownN_typed hok.smp e).ne_map hm1) rfl
  have neB : ¬ sb = mb := hsb.typed.ne_map hm1
  have neL : ∀ j, lv.ownBlock = some j → ¬ j = mb := fun j hj => (ownN_typed hlv hj).ne_map hm1
  have hnew : ∀ j, SerC.has ⟨sb, lv, .slice none 0 0, l, []⟩ j → w.heap.size ≤ j ∧ j < w4.heap.size := fun j hj => by
    rcases hj with e | e | e
    · have := hsb.lt
      have e : j = sb := e
      omega
    · have := ownN_lt hlv e
      omega
    · cases e
  have hsz : w.heap.size ≤ w4.heap.size := hOnly.size
  refine ⟨⟨k4.blk hblk ne1, ?_, (fun e => by cases e), ?_, ?_, ?_, ?_, ?_, ?_, ?_, hA.win0⟩, hOnly, rfl, rfl, ?_, rfl, .inr ⟨rfl, rfl, hno⟩⟩
  · intro mb' e
    cases e
    exact hm4
  · refine (kvPut_perm _ _ _).trans ?_
    rw [drop_none hg, List.map_append]
    exact ((hA.perm.cons _).trans (List.perm_append_singleton _ _).symm)
  · intro s hs
    rcases List.mem_append.1 hs with hs | hs
    · exact (hcs s hs).only k4 (neS s hs)
    · rw [List.mem_singleton.1 hs]
      exact ⟨k4.blk hsb neB, ownN_only (ownN_base hlv (Nat.zero_le _)) k4 neL, World.ownsRow_nil _ _ _ _⟩
  · intro s hs
    rcases List.mem_append.1 hs with hs | hs
    · exact hA.made s hs
    · rw [List.mem_singleton.1 hs]
      exact hl
  · refine List.pairwise_append.2 ⟨hA.apart, List.pairwise_singleton _ _, fun a ha b hb k h1 h2 => ?_⟩
    rw [List.mem_singleton.1 hb] at h2
    have := (hnew k h2).1
    have := (hA.each a ha).lt h1
    omega
  · refine List.pairwise_append.2 ⟨hA.texts, List.pairwise_singleton _ _, fun a ha b hb => ?_⟩
    rw [List.mem_singleton.1 hb]
    exact hno a ha
  · rintro k (e | e | ⟨s, hs, hj⟩)
    · exact .inl (hA.own k (.inl e))
    · cases e
      by_cases hlt : mb < w.heap.size
      · exact .inl (hOmb hlt)
      · exact .inr ⟨by omega, hm4.lt⟩
    · rcases List.mem_append.1 hs with hs | hs
      · exact .inl (hA.own k (.inr (.inr ⟨s, hs, hj⟩)))
      · rw [List.mem_singleton.1 hs] at hj
        exact .inr (hnew k hj)
  · rintro k (h1 | h1)
    · have := hA.lt k h1
      omega
    · exact h1.2
  · exact List.mem_append.2 (.inr (List.mem_singleton.2 rfl))

set_option maxRecDepth 100000 in
set_option maxHeartbeats 2000000 in
theorem at_no {w : World} {h : HeadC} {O : Nat → Prop} (hA : HeadAt w h O) (hMx : Mx w) {l : Labs} (hl : Made l) (hG : ¬ O 0) (hno : ∀ d ∈ h.cs, textL d.labs ≠ textL l) (hg : kvGet h.kv (textL l) = none) (hlen : h.kv.length < 100000) :
    Calls Tryz.prog 36 #[.pointer (some ⟨h.hb, 0, none⟩), .string (mkB (textL l))] w fun e w' => ∃ h' c, e = .returned (.pointer (some ⟨c.b, 0, none⟩)) ∧ AtP w h O l h' c w' := by
  have hts := text_len hl
  have hsz : (mkB (textL l)).size ≤ 100000 := by rw [mkB_size]; omega
  have hdat : (mkB (textL l)).data.toList = textL l := by simp
  have HP := hid (fun W (hW : Mx W) => parse_any W (mkB (textL l)) hW hsz)
  rw [hdat, parse_iff.2 ⟨hl, rfl⟩] at HP
  have hmn := fun x W => map_nil x W
  have c1 := hA.blk.cell 1 rfl
  have f1 := hA.blk.frozen 1
  have hb1 := hA.blk.lt
  cases hmv : h.mv with
  | some mb =>
    have hm := hA.map mb hmv
    have hlk := look_no (s := mkB (textL l)) hm (by unfold maxLen; omega) (by rw [hdat]; exact hg)
    rw [hmv] at c1
    have HA := hid hA
    have HL := hid hl
    have HMV := hid hmv
    have HM := hid hm
    have HNO := hid hno
    have HG := hid hg
    clear hA hl hmv hm hno hg
    generalize mkB (textL l) = s at *
    generalize hhb : h.hb = hb at *
    have HHB := hid hhb
    clear hhb
    go_enter Tryz.func36, Tryz.ntmps36
    go_wp2_with fail
    refine (HP.out _ hMx).mono ?_
    rintro e w1 ⟨⟨u, n, rfl, rfl, hat⟩, k1⟩
    obtain ⟨a3, c3, rfl⟩ := ownN_slice hat
    have HAT := hid hat
    have K1 := hid k1
    have hb2 := k1.blk (HA.out.blk) (fun f => f)
    rw [HHB.out, HMV.out] at hb2
    have d1 := hb2.cell 1 rfl
    have hlt1 := hb2.lt
    have hm1 := k1.map HM.out (fun f => f)
    have hm2 := hm1.alloc (.cells #[.slice a3 l.length c3, .slice none 0 0] 79)
    obtain ⟨w4, hr4, ho4, hk4, hs4⟩ := put_run (s := s) hm2 (by unfold maxLen; omega) (by omega) w1.heap.size
    rw [hdat] at ho4
    have HO4 := hid ho4
    have HK4 := hid hk4
    have HS4 := hid hs4
    have HM1 := hid hm1
    clear hat k1 hm1 hm2 ho4 hk4 hs4 HP hb2
    go_wp2
    go_ret
    have kA : Kept w1 (w1.alloc (.cells #[.slice a3 l.length c3, .slice none 0 0] 79)) := (Only.refl _ w1).alloc _
    have kk := K1.out.trans kA (fun _ _ f => f)
    have hbb := kk.blk HA.out.blk (fun f => f)
    rw [HMV.out] at hbb
    have := at_fin (sb := w1.heap.size) HA.out HL.out HNO.out HG.out (kk.mono (fun _ _ f => f.elim)) hbb (.inl HMV.out) (fun s hs => (HA.out.each s hs).only kk (fun _ _ f => f)) (kA.map HM1.out (fun f => f)) (ownN_stay HAT.out kA) (Blk.new w1 _ _) K1.out.size HO4.out HK4.out HS4.out
    exact ⟨_, _, rfl, this⟩
  | none =>
    have hlk := look_nil w (mkB (textL l))
    have hkv := hA.nil hmv
    rw [hmv] at c1
    have HA := hid hA
    have HL := hid hl
    have HMV := hid hmv
    have HNO := hid hno
    have HG := hid hg
    have HKV := hid hkv
    -- the map that is laid
    have hm0 := World.ownsMap_made (w.setCell ⟨h.hb, 1, none⟩ (.map (some w.heap.size))) Tryz.prog 9 ptrE
    have hbA := (hA.blk.set 1 (.map (some w.heap.size))).alloc (.map #[] 0)
    have kM : Only (fun k => k = h.hb) w ((w.setCell ⟨h.hb, 1, none⟩ (.map (some w.heap.size))).alloc (.map #[] 0)) := ((Only.refl (fun k => k = h.hb) w).setCell (p := ⟨h.hb, 1, none⟩) (fun _ => rfl) _).alloc _
    have hmA : ((w.setCell ⟨h.hb, 1, none⟩ (.map (some w.heap.size))).alloc (.map #[] 0)).ownsMap Tryz.prog 9 ptrE w.heap.size 0 (kvD []) := by
      have e : (w.setCell ⟨h.hb, 1, none⟩ (.map (some w.heap.size))).heap.size = w.heap.size := by simp
      rw [e] at hm0
      exact hm0
    have HbA := hid hbA
    have HkM := hid kM
    have HmA := hid hmA
    have fz := (hA.blk.alloc (.map #[] 0)).frozen 1
    have cz := (hA.blk.alloc (.map #[] 0)).cell 1 rfl
    rw [hmv] at cz
    have hMx1 := hid (Mx.only hMx kM (fun e => hG (hA.own _ (.inl e))))
    clear hA hl hmv hno hg hkv hbA kM hmA hm0
    generalize mkB (textL l) = s at *
    generalize hhb : h.hb = hb at *
    have HHB := hid hhb
    clear hhb
    go_enter Tryz.func36, Tryz.ntmps36
    have hmk : ∀ W : World, (Instr.makeMap 63 none).run Tryz.prog W = .ok (.map (some W.heap.size)) (W.alloc (.map #[] 0)) := fun W => by kernel_rfl
    go_wp2_with fail
    refine (HP.out _ hMx1.out).mono ?_
    rintro e w1 ⟨⟨u, n, rfl, rfl, hat⟩, k1⟩
    obtain ⟨a3, c3, rfl⟩ := ownN_slice hat
    have HAT := hid hat
    have K1 := hid k1
    have hb2 := k1.blk HbA.out (fun f => f)
    have d1 : w1.cell? ⟨hb, 1, none⟩ = some (.map (some w.heap.size)) := hb2.cell 1 rfl
    have hlt1 := hb2.lt
    have hm1 := k1.map HmA.out (fun f => f)
    have hm2 := hm1.alloc (.cells #[.slice a3 l.length c3, .slice none 0 0] 79)
    obtain ⟨w4, hr4, ho4, hk4, hs4⟩ := put_run (s := s) hm2 (by unfold maxLen; omega) (by omega) w1.heap.size
    rw [hdat] at ho4
    have HO4 := hid ho4
    have HK4 := hid hk4
    have HS4 := hid hs4
    have HM1 := hid hm1
    clear hat k1 hm1 hm2 ho4 hk4 hs4 HP hb2
    go_wp2
    go_ret
    have kA : Kept w1 (w1.alloc (.cells #[.slice a3 l.length c3, .slice none 0 0] 79)) := (Only.refl _ w1).alloc _
    have kk := K1.out.trans kA (fun _ _ f => f)
    have hbb := kk.blk HbA.out (fun f => f)
    have hbb' : Blk (w1.alloc (.cells #[.slice a3 l.length c3, .slice none 0 0] 79)) h.hb [.int .i64 h.win, .map (some w.heap.size)] 65 := by rw [HHB.out]; exact hbb
    have kO : Only O w (w1.alloc (.cells #[.slice a3 l.length c3, .slice none 0 0] 79)) := (HkM.out.mono (fun k _ e => HA.out.own k (.inl (by rw [HHB.out]; exact e)))).trans kk (fun _ _ f => f.elim)
    have hsz1 := HkM.out.size
    have hsz2 := K1.out.size
    have := at_fin (sb := w1.heap.size) HA.out HL.out HNO.out HG.out kO hbb' (.inr ⟨HMV.out, Nat.le_refl _⟩)
      (fun s hs => ((HA.out.each s hs).only HkM.out (fun j hj e => HA.out.hbNe hs (by rw [HHB.out, ← e]; exact hj))).only kk (fun _ _ f => f)) (by rw [HKV.out]; exact kA.map HM1.out (fun f => f)) (ownN_base (ownN_stay HAT.out kA) hsz1) (Blk.new w1 _ _) (by omega) (by rw [HKV.out]; exact HO4.out) HK4.out HS4.out
    exact ⟨_, _, rfl, this⟩
end Go.Proofs.YtnbfbnhiikliaaaGreat.Hd
