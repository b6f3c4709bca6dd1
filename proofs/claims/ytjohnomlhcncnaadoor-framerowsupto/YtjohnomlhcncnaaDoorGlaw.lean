/-
  The examples of the document; the law FrameSums.
-/
import Derived.Test.YtjohnomlhcncnaaDoorGbyt
import Derived.Lib.SlBytesConst
namespace Go.Proofs.YtjohnomlhcncnaaDoor.G
open Go.RowKit Go.Proofs.Lys
set_option linter.unusedVariables false

theorem num9_any (n : Int) (w : World) : Calls Tryd.prog 13 #[.int .i64 n] w fun e w' => e = .returned (.int .i64 n) ∧ w' = w := by
  go_enter Tryd.func13, Tryd.ntmps13
  go_wp2
  go_ret
  exact ⟨rfl, rfl⟩
theorem sum_none : sumL [] = 0 := by decide +kernel
def digits9 : List UInt8 := [49, 50, 51, 52, 53, 54, 55, 56, 57]
theorem sum_nine : sumL digits9 = 3808858755 := by decide +kernel
theorem lit_bsrc (bs : List UInt8) (W : World) {vs : Array Value} {fz : Nat × Nat} (hv : vs = (bs.map bV).toArray) : BSrc (W.alloc (.cells vs 5 fz)) (.slice (some ⟨W.heap.size, 0, none⟩) bs.length bs.length) bs := by
  subst hv
  refine ⟨.inr ⟨⟨W.heap.size, 0, none⟩, bs.length, by rw [List.length_map], fun j u hu => ?_⟩, _, _, rfl, Nat.le_refl _⟩
  rw [add_none, Nat.zero_add]
  have : (W.alloc (.cells (bs.map bV).toArray 5 fz)).heap[W.heap.size]? = some (.cells (bs.map bV).toArray 5 fz) := heap_alloc_new W _
  simp only [World.cell?, this]
  simp [hu]
theorem nil_bsrc (w : World) : BSrc w (.slice none 0 0) [] := ⟨.inl ⟨rfl, rfl⟩, none, 0, rfl, Nat.le_refl _⟩
set_option maxRecDepth 100000 in
set_option maxHeartbeats 800000 in
theorem alive9_any (w : World) (hT : Tab w) : Calls Tryd.prog 8 #[] w fun e w' => e = .returned (.bool true) ∧ Kept w w' := by
  have hcv := fun (w : World) (C : Array Value) (n c : Nat) => Lib.run_convert_bytes_const (P := Tryd.prog) w 22 5 C n c Tryd.underlying22 Tryd.underlying5
  have h1 := sum_any w (.slice none 0 0) [] (nil_bsrc w) (by simp) hT
  rw [sum_none] at h1
  go_enter Tryd.func8, Tryd.ntmps8
  go_wp2_with fail
  refine h1.mono ?_
  rintro e w1 ⟨rfl, hk⟩
  have hk2 : ∀ o, Kept w (w1.alloc o) := fun o => hk.alloc o
  have HK := hid hk
  have HT := hid hT
  clear h1 hk hT
  go_wp2_with fail
  have h2 := sum_any _ _ digits9 (lit_bsrc digits9 w1 rfl) (by decide) (HT.out.stay (hk2 (.cells (digits9.map bV).toArray 5 (9, 10))))
  rw [sum_nine] at h2
  have HK2 := hid hk2
  clear hk2
  refine Calls.mono h2 ?_
  rintro e w2 ⟨rfl, hk3⟩
  have HF : Hid (Kept w w2) := (HK2.out _).trans hk3 (fun _ _ f => f)
  clear h2 hk3
  go_wp2_with fail
  go_ret
  exact ⟨rfl, HF.out⟩

set_option maxRecDepth 100000 in
set_option maxHeartbeats 800000 in
theorem sums9_walk (w : World) (v : Value) (bs : List UInt8) (hs : BSrc w v bs) (hT : Tab w) :
    Calls Tryd.prog 3 #[v] w fun e w' => e = .returned (.bool true) ∧ Kept w w' := by
  obtain ⟨a, c, rfl⟩ := hs.len
  have ha := alive9_any w hT
  have hnot : ∀ (x : Bool) (w : World), (Op.unary .not (.bool x)).run Tryd.prog w = .ok (.bool (!x)) w := fun _ _ => rfl
  obtain ⟨L, hL⟩ : ∃ L, bs.length = L := ⟨_, rfl⟩
  have HL := hid hL
  have HS := hid hs
  have HT := hid hT
  rw [hL] at HS ⊢
  clear hL hs hT
  by_cases hlt : 10000 < L
  · go_enter Tryd.func3, Tryd.ntmps3
    go_wp2_with fail
    refine ha.mono ?_
    rintro e w1 ⟨rfl, hk⟩
    have HK := hid hk
    clear ha hk
    go_wp2_with fail
    go_ret
    exact ⟨rfl, HK.out⟩
  · go_enter Tryd.func3, Tryd.ntmps3
    go_wp2_with fail
    refine ha.mono ?_
    rintro e w1 ⟨rfl, hk⟩
    have h1 := sum_any w1 _ bs (HS.out.stay hk) (by rw [HL.out]; omega) (HT.out.stay hk)
    have HK := hid hk
    clear ha hk
    go_wp2_with fail
    refine h1.mono ?_
    rintro e w2 ⟨rfl, hk2⟩
    have HK2 : Hid (Kept w w2) := HK.out.trans hk2 (fun _ _ f => f)
    have h2 := rsum_any w2 _ bs (HS.out.stay HK2.out).1 (by rw [HL.out]; omega)
    clear h1 hk2
    generalize sumL bs = R at *
    go_wp2_with fail
    refine h2.mono ?_
    rintro e w3 ⟨rfl, hw⟩
    replace hw := hw.symm
    subst hw
    clear h2
    go_wp2_with fail
    go_ret
    exact ⟨rfl, HK2.out⟩
end Go.Proofs.YtjohnomlhcncnaaDoor.G
