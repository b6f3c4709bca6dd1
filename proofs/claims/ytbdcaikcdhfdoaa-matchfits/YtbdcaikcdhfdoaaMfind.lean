/-
  The label of a name; what fits, kind by kind.
-/
import Derived.Test.YtbdcaikcdhfdoaaMcheck
import Derived.Test.YtbdcaikcdhfdoaaNsort
import Derived.Test.YtbdcaikcdhfdoaaShelf
namespace Go.Proofs.Ytbdcaikcdhfdoaa.N
open Go.RowKit Go.Proofs.Lys
set_option linter.unusedVariables false
set_option linter.unusedSimpArgs false

theorem str_dec (X Y : ByteArray) : (X.toList == Y.toList) = decide (X = Y) := by
  rw [ByteArray.toList_eq, ByteArray.toList_eq]
  by_cases h : X = Y
  · subst h; simp
  · rw [decide_eq_false h]
    simpa using fun e => h (bytes_inj e)
theorem found_hit {l : Labs} {n : ByteArray} {k : Nat} (hk : k < l.length) (h : l[k].1 = n) (hno : ∀ i (hi : i < l.length), i < k → l[i].1 ≠ n) : foundV l n = (l[k].2, true) := by
  induction l generalizing k with
  | nil => simp at hk
  | cons x r ih =>
    cases k with
    | zero =>
      have h0 : x.1 = n := h
      unfold foundV
      rw [List.find?_cons_of_pos (by simp [h0])]
      rfl
    | succ k =>
      have h0 : x.1 ≠ n := hno 0 (by simp) (by omega)
      have := ih (k := k) (by simpa using hk) (by simpa using h) (fun i hi hik => hno (i + 1) (by simp; omega) (by omega))
      unfold foundV at this ⊢
      rw [List.find?_cons_of_neg (by simp [h0])]
      simpa using this
theorem found_none {l : Labs} {n : ByteArray} (hno : ∀ i (hi : i < l.length), l[i].1 ≠ n) : foundV l n = (⟨#[]⟩, false) := by
  unfold foundV
  rw [List.find?_eq_none.2 (fun x hx => by
    obtain ⟨i, hi, rfl⟩ := List.getElem_of_mem hx
    simpa using hno i hi)]

set_option maxRecDepth 100000 in
theorem find1_any (w : World) (X Y nm : ByteArray) (b : Nat) (hb : w.cell? ⟨b, 0, none⟩ = some (.string nm)) :
    Calls Try.prog 39 #[.agg #[.string X, .string Y], .pointer (some ⟨b, 0, none⟩)] w fun e w' => e = .returned (.bool (decide (X = nm))) ∧ Kept w w' := by
  have hlt : b < w.heap.size := World.block_lt_of_cell? w _ hb
  have hE := str_dec X nm
  go_enter Try.func39, Try.ntmps39
  go_wp2
  go_ret
  exact ⟨rfl, (Only.refl _ _).alloc _⟩

set_option maxRecDepth 100000 in
set_option maxHeartbeats 1600000 in
theorem idx_any (w : World) (v : Value) (l : Labs) (nm : ByteArray) (b : Nat) (hb : w.cell? ⟨b, 0, none⟩ = some (.string nm)) (hs : LabSrc w v l) (hl : l.length ≤ 100000) :
    Calls Try.prog 38 #[v, .func (.func 39) #[] #[.pointer (some ⟨b, 0, none⟩)]] w fun e w' =>
      ((∃ (k : Nat) (x : Lab), l[k]? = some x ∧ e = .returned (.int .i64 (k : Int)) ∧ foundV l nm = (x.2, true)) ∨ (e = .returned (.int .i64 (-1)) ∧ foundV l nm = (⟨#[]⟩, false))) ∧ Kept w w' := by
  obtain ⟨a1, c1, rfl⟩ := hs.len
  obtain ⟨L, hL⟩ : ∃ L, l.length = L := ⟨_, rfl⟩
  have HS := hid hs
  have HL := hid hL
  have HB := hid hb
  have H1 : Hid (∀ k (hk : k < l.length), l[k].1 = nm → (∀ i (hi : i < l.length), i < k → l[i].1 ≠ nm) → foundV l nm = (l[k].2, true)) := fun k hk h1 h2 => found_hit hk h1 h2
  have H2 : Hid ((∀ i (hi : i < l.length), l[i].1 ≠ nm) → foundV l nm = (⟨#[]⟩, false)) := fun h => found_none h
  have eg : ∀ args w, (callFunc 39 args).run Try.prog w = .ok (.enter 39 args) w := enters_of Try.func39 (by kernel_rfl) rfl
  generalize foundV l nm = V at H1 H2 ⊢
  rw [hL] at HS hl ⊢
  clear hs hL hb
  go_enter Try.func38, Try.ntmps38
  go_wp2
  go_loopw [8] (fun s wr => ∃ (k : Nat), k ≤ L ∧ s = .int .i64 (k : Int) ∧ (∀ i (hi : i < l.length), i < k → l[i].1 ≠ nm) ∧ Kept w wr) (fun s _ => L - (intOf s).toNat)
  case atStart => exact ⟨0, by omega, rfl, fun i _ h => absurd h (by omega), Only.refl _ _⟩
  case round =>
    obtain ⟨k, hk, rfl, hok, kr⟩ := hrel
    have HO := hid hok
    have HK := hid kr
    by_cases hlt : k < L
    · have hkl : k < l.length := by have := HL.out; omega
      obtain ⟨b1, o1, rfl, x1, y1⟩ := (HS.out.stay kr).cell (by have := HL.out; omega) k hlt
      have HF := hid (fun h => H1.out k hkl h HO.out)
      have HT : Hid ((l[k]'hkl).1 ≠ nm → ∀ i (hi : i < l.length), i < k + 1 → l[i].1 ≠ nm) := fun h i hi hik => by
        by_cases e : i < k
        · exact HO.out i hi e
        · have : i = k := by omega
          subst this
          exact h
      have hcb : wr.cell? ⟨b, 0, none⟩ = some (.string nm) := by
        rw [World.cell?_of_block (w := w) (w' := wr) (kr.block _ (World.block_lt_of_cell? w _ HB.out) (fun f => f))]
        exact HB.out
      have HC := hid (find1_any wr (l[k]'hkl).1 (l[k]'hkl).2 nm b hcb)
      clear hok kr
      generalize hx : l[k]'hkl = x at x1 y1 HF HT HC
      obtain ⟨X, Y⟩ := x
      have HX := hid hx
      clear hx
      simp only at x1 y1 HF HT HC
      go_wp2_with fail
      refine HC.out.mono ?_
      rintro e1 w1 ⟨rfl, k1⟩
      have HK1 := hid (HK.out.trans k1 (fun _ _ f => f))
      clear k1 HC
      by_cases he : X = nm
      · rw [decide_eq_true he]
        have hv := hid (HF.out he)
        clear he
        go_wp2
        go_ret
        exact ⟨.inl ⟨k, _, List.getElem?_eq_getElem hkl, rfl, by rw [hv.out, HX.out]⟩, HK1.out⟩
      · rw [decide_eq_false he]
        have HT2 := hid (HT.out he)
        clear he
        go_wp2
        refine ⟨⟨k + 1, by omega, by go_num, HT2.out, HK1.out⟩, ?_⟩
        simp [intOf]
        omega
    · have e : k = L := by omega
      subst e
      have hmk := hid (H2.out (fun i hi => HO.out i hi (by have := HL.out; omega)))
      go_wp2
      go_ret
      exact ⟨.inr ⟨rfl, hmk.out⟩, kr⟩

theorem Try.sizeFound : (Try.prog.info? 52).map (·.size) = some 2 := by kernel_rfl
/-- What find answers. -/
abbrev fndV (f : ByteArray × Bool) : Value := .agg #[.string f.1, .bool f.2]
set_option maxRecDepth 100000 in
set_option maxHeartbeats 1600000 in
theorem find_any (w : World) (v : Value) (l : Labs) (nm : ByteArray) (hs : LabSrc w v l) (hl : l.length ≤ 100000) :
    Calls Try.prog 24 #[v, .string nm] w fun e w' => e = .returned (fndV (foundV l nm)) ∧ Kept w w' := by
  have k0 : Kept w ((w.alloc (.cells #[.string nm] 9)).alloc (.cells #[.string ⟨#[]⟩, .bool false] 52)) := ((Only.refl _ w).alloc _).alloc _
  have hbx := Only.blk ((Only.refl (fun _ => False) _).alloc (.cells #[.string ⟨#[]⟩, .bool false] 52)) (Blk.new w [.string nm] 9) (fun f => f)
  have hbr := Blk.new (w.alloc (.cells #[.string nm] 9)) [.string ⟨#[]⟩, .bool false] 52
  have hws : (w.alloc (.cells #[.string nm] 9)).heap.size = w.heap.size + 1 := by simp
  have HS := hid hs
  have HI := hid (idx_any _ v l nm w.heap.size (hbx.cell 0 rfl) (hs.stay k0) hl)
  have HK0 := hid k0
  obtain ⟨a1, c1, rfl⟩ := hs.len
  clear hs k0 hbx
  rw [hws] at hbr
  go_enter Try.func24, Try.ntmps24
  go_wp2_with fail
  generalize (w.alloc (.cells #[.string nm] 9)).alloc (.cells #[.string ⟨#[]⟩, .bool false] 52) = w0 at HI HK0 hbr ⊢
  refine HI.out.mono ?_
  rintro e w1 ⟨hA, k1⟩
  have hb1 := Only.blk k1 hbr (fun f => f)
  have HK1 := hid (HK0.out.trans k1 (fun _ _ f => f))
  have HB := hid hb1
  have c0 := hb1.cell 0 rfl
  have c1' := hb1.cell 1 rfl
  have f0 := hb1.frozen 0
  have f1 := hb1.frozen 1
  clear k1 hbr HI hb1
  rcases hA with ⟨k, x, hx, rfl, hV⟩ | ⟨rfl, hV⟩
  · have hk : k < l.length := (List.getElem?_eq_some_iff.1 hx).1
    obtain ⟨b1, o1, rfl, x1, y1⟩ := (HS.out.stay HK1.out).cell rfl k hk
    have hx2 : l[k]'hk = x := (List.getElem?_eq_some_iff.1 hx).2
    rw [hx2] at x1 y1
    have HV := hid hV
    have hk' : (k : Int) < (l.length : Int) := by omega
    obtain ⟨X, Y⟩ := x
    simp only at x1 y1 HV
    clear hV hx2 hx
    generalize l.length = L at hk hk' hl ⊢
    go_wp2
    have hres := (HB.out.set 0 (.string Y)).set 1 (.bool true)
    refine bodyPost_ret (v := fndV (Y, true)) (results_cell_row rfl _ _ (w.heap.size + 1) 52 #[.string Y, .bool true] (0, 0) _ rfl hres Try.underlying52 rfl Try.sizeFound) rfl ?_
    exact ⟨by rw [HV.out], (HK1.out.setCell (fun hlt => absurd hlt (by simp)) _).setCell (fun hlt => absurd hlt (by simp)) _⟩
  · have HV := hid hV
    clear hV
    go_wp2
    have hres := (HB.out.set 0 (.string ⟨#[]⟩)).set 1 (.bool false)
    refine bodyPost_ret (v := fndV (⟨#[]⟩, false)) (results_cell_row rfl _ _ (w.heap.size + 1) 52 #[.string ⟨#[]⟩, .bool false] (0, 0) _ rfl hres Try.underlying52 rfl Try.sizeFound) rfl ?_
    exact ⟨by rw [HV.out], (HK1.out.setCell (fun hlt => absurd hlt (by simp)) _).setCell (fun hlt => absurd hlt (by simp)) _⟩

/-- The function of a kind. -/
def fnK (n : Int) : Nat := if n = 1 then 34 else if n = 2 then 35 else if n = 3 then 36 else 37
set_option maxRecDepth 100000 in
theorem fit_any (w : World) (n : Int) (hn : 1 ≤ n ∧ n ≤ 4) (f : ByteArray × Bool) (Y : ByteArray) : Calls Try.prog (fnK n) #[fndV f, .string Y] w fun e w' => e = .returned (.bool (fitV n f Y)) ∧ Kept w w' := by
  obtain ⟨X, b⟩ := f
  have hE := str_dec X Y
  have HP := hid (fun W => Try.strings_HasPrefix X Y W)
  have : n = 1 ∨ n = 2 ∨ n = 3 ∨ n = 4 := by omega
  rcases this with rfl | rfl | rfl | rfl
  · show Calls Try.prog 34 _ _ _
    go_enter Try.func34, Try.ntmps34
    go_wp2
    go_ret
    exact ⟨rfl, (Only.refl _ _).alloc _⟩
  · show Calls Try.prog 35 _ _ _
    go_enter Try.func35, Try.ntmps35
    go_wp2
    go_ret
    exact ⟨rfl, (Only.refl _ _).alloc _⟩
  · show Calls Try.prog 36 _ _ _
    clear hE
    go_enter Try.func36, Try.ntmps36
    go_wp2_with fail
    refine (HP.out _).mono ?_
    rintro e w1 ⟨rfl, hq⟩
    replace hq := hq.symm
    subst hq
    go_wp2
    go_ret
    exact ⟨rfl, (Only.refl _ _).alloc _⟩
  · show Calls Try.prog 37 _ _ _
    clear hE
    go_enter Try.func37, Try.ntmps37
    go_wp2
    go_ret
    exact ⟨rfl, (Only.refl _ _).alloc _⟩
end Go.Proofs.Ytbdcaikcdhfdoaa.N
