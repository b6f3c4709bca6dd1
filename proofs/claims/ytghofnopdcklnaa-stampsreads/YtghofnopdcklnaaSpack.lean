/-
  Pack: the bytes of times.
-/
import Derived.Test.YtghofnopdcklnaaSput
namespace Go.Proofs.Ytghofnopdcklnaa
open Go.RowKit Go.Proofs.Lys
set_option linter.unusedVariables false

/-- The bits of the times from the k-th on, by the distance ahead. -/
def restB (l : List Int) (k : Nat) (g : Int) : List Bool := if k = 0 then allB l else encT (l.getD (k - 1) 0) g (l.drop k)
theorem restB_step {l : List Int} {k : Nat} (g : Int) (hk : k + 1 < l.length) : restB l (k + 1) g = encE (l[k + 1] - l[k] - g) ++ restB l (k + 2) (l[k + 1] - l[k]) := by
  unfold restB
  rw [if_neg (by omega), if_neg (by omega), List.drop_eq_getElem_cons hk]
  simp only [encT, Nat.add_sub_cancel, List.getD_eq_getElem?_getD]
  rw [List.getElem?_eq_getElem (show k < l.length by omega), List.getElem?_eq_getElem (show k + 2 - 1 < l.length by omega)]
  rfl
theorem restB_zero {l : List Int} (h : 0 < l.length) (g : Int) : restB l 0 g = bitsL (uN l[0]) 64 ++ restB l 1 0 := by
  cases l with
  | nil => simp at h
  | cons t r => simp [restB, allB]
theorem restB_end {l : List Int} {k : Nat} (g : Int) (h0 : 0 < k) (h : l.length ≤ k) : restB l k g = [] := by
  unfold restB
  rw [if_neg (by omega), List.drop_eq_nil_of_le h]
  rfl
theorem rest_few {l : List Int} {k : Nat} {g : Int} {lw : List Bool} (h : lw ++ restB l k g = allB l) (hl : l.length ≤ 120) : lw.length ≤ 10000 := by
  have h1 := allB_length l
  rw [← h, List.length_append] at h1
  omega

theorem src_cells {w : World} {b o n c : Nat} {xs : List Value} (h : SrcOf w (.slice (some ⟨b, o, none⟩) n c) xs) : ∀ j u, xs[j]? = some u → w.cell? ⟨b, o + j, none⟩ = some u := by
  intro j u hu
  rcases h with ⟨h, _⟩ | ⟨a, c', h, hc⟩
  · cases h
  · cases h
    rw [← add_none]
    exact hc j u hu
theorem int_cells {w : World} {b o n c : Nat} {l : List Int} (h : SrcOf w (.slice (some ⟨b, o, none⟩) n c) (l.map (Value.int .i64))) : ∀ j (hj : j < l.length), w.cell? ⟨b, o + j, none⟩ = some (.int .i64 l[j]) :=
  fun j hj => src_cells h j _ (by rw [List.getElem?_map, List.getElem?_eq_getElem hj]; rfl)

/-- The writer within Pack. -/
structure PkIn (w : World) (B : Nat) (wr : World) (vw : Value) (lw : List Bool) : Prop where
  at_ : WrAt wr B vw lw
  kept : Kept w wr
  new : w.heap.size ≤ B
  row : ∀ j, vw.ownBlock = some j → w.heap.size ≤ j
theorem PkIn.put {w wr w' : World} {B : Nat} {vw v' : Value} {lw lw' : List Bool} (h : PkIn w B wr vw lw) (hw : WrAt w' B v' lw') (ho : Only (Foot B vw) wr w') (hn : ∀ k, v'.ownBlock = some k → vw.ownBlock = some k ∨ wr.heap.size ≤ k) : PkIn w B w' v' lw' := by
  have hs := h.kept.size
  refine ⟨hw, h.kept.trans ho (fun j hj e => ?_), h.new, fun j hj => ?_⟩
  · have := h.new
    rcases e with e | e
    · omega
    · have := h.row j e
      omega
  · rcases hn j hj with e | e
    · exact h.row j e
    · omega

theorem PkIn.drew {w wr : World} {B : Nat} {vw : Value} {lw : List Bool} (h : PkIn w B wr vw lw) : PkIn w B wr.drew vw lw :=
  ⟨h.at_.only (Only.drew (Only.refl (fun _ => False) wr)) (fun f => f) (fun _ _ f => f), h.kept.drew, h.new, h.row⟩

/-- What Pack leaves. -/
def PackPost (w : World) (l : List Int) (e : Ending) (w' : World) : Prop :=
  Kept w w' ∧ ∃ u bs x, e = .returned (.tuple #[u, .int .i64 x]) ∧ Packs l bs x ∧ w'.ownsRow w.heap.size 5 1 u bs.length (bs.map bV)

set_option maxRecDepth 100000 in
set_option maxHeartbeats 1600000 in
theorem pack_any (w : World) (v : Value) (l : List Int) (hs : SrcOf w v (l.map (Value.int .i64))) (hl : l.length ≤ 1000) :
    Calls Try.prog 23 #[v] w (PackPost w l) := by
  have hnot : ∀ (x : Bool) (w : World), (Op.unary .not (.bool x)).run Try.prog w = .ok (.bool (!x)) w := fun _ _ => rfl
  have hr := rising_any w v l hs hl
  obtain ⟨a0, c0, e0⟩ := hs.len
  rw [List.length_map] at e0
  by_cases h120 : 120 < l.length
  · obtain ⟨L, hL⟩ : ∃ L, l.length = L := ⟨_, rfl⟩
    rw [hL] at e0 h120
    subst e0
    go_enter Try.func23, Try.ntmps23
    go_wp2_with fail
    go_ret2
    exact ⟨Only.refl _ w, _, [], 2, rfl, .inl ⟨by omega, rfl, rfl⟩, World.ownsRow_nil _ _ _ _⟩
  · by_cases hR : Rising l
    · have hr' : Calls Try.prog 56 #[v] w fun e w' => w' = w ∧ e = .returned (.bool true) := hr.mono (by
        rintro e w' ⟨rfl, ⟨rfl, _⟩ | ⟨_, hn⟩⟩
        · exact ⟨rfl, rfl⟩
        · exact absurd hR hn)
      rcases hs.shape with ⟨hnil, a, c, rfl⟩ | ⟨hpos, b, o, c, rfl, hc⟩
      · have el : l = [] := List.map_eq_nil_iff.1 hnil
        subst el
        clear e0
        go_enter Try.func23, Try.ntmps23
        go_wp2_with fail
        refine hr'.mono ?_
        rintro e w' ⟨hw, rfl⟩
        replace hw := hw.symm
        subst hw
        go_wp2_with fail
        go_ret2
        exact ⟨Only.refl _ w, _, [], 0, rfl, .inr (.inr ⟨by simp, hR, rfl, rfl⟩), World.ownsRow_nil _ _ _ _⟩
      · rw [List.length_map] at hpos hs hr' ⊢
        clear e0 hr
        obtain ⟨L, hL⟩ : ∃ L, l.length = L := ⟨_, rfl⟩
        have HS := hid hs
        have hc0 := int_cells hs 0 hpos
        obtain ⟨x0, hx0⟩ : ∃ x, l[0] = x := ⟨_, rfl⟩
        rw [hx0] at hc0
        rw [Nat.add_zero] at hc0
        rw [hL] at hpos hr' HS h120 ⊢
        have HL := hid hL
        have HX := hid hx0
        have HR := hid hR
        clear hL hx0 hs hc hR
        go_enter Try.func23, Try.ntmps23
        go_wp2_with fail
        refine hr'.mono ?_
        rintro e w' ⟨hw, rfl⟩
        replace hw := hw.symm
        subst hw
        clear hr'
        have hA := WrAt.new w
        have kA : Kept w (w.alloc (.cells #[.slice none 0 0, .int .i64 0] 95)) := (Only.refl _ w).alloc _
        have hc0' : (w.alloc (.cells #[.slice none 0 0, .int .i64 0] 95)).cell? ⟨b, o, none⟩ = some (.int .i64 x0) := by
          have := int_cells (HS.out.stay kA) 0 (by have := HL.out; omega)
          rw [HX.out, Nat.add_zero] at this
          exact this
        go_wp2_with fail
        refine (put_wr hA x0 64 64 (.inr (.inr ⟨rfl, by decide⟩)) (by simp)).mono ?_
        rintro e w1 ⟨rfl, v1, h1, k1, n1⟩
        have hP : PkIn w w.heap.size w1 v1 ([] ++ bitsL (uN x0) 64) := PkIn.put ⟨hA, kA, Nat.le_refl _, fun j hj => by cases hj⟩ h1 k1 n1
        have hB : ([] ++ bitsL (uN x0) 64) ++ restB l 1 0 = allB l := by
          have hp : 0 < l.length := by have := HL.out; omega
          have := restB_zero hp 0
          rw [HX.out] at this
          rw [List.nil_append, ← this]
          rfl
        have HP := hid hP
        have HB := hid hB
        generalize hbk : w.heap.size = B at HP ⊢
        clear hA kA hc0' h1 k1 n1 hP hB hc0
        go_wp2_with fail
        go_loopw [5, 6] (fun g i wr => ∃ (k : Nat) (G : Int) (vw : Value) (lw : List Bool), k + 1 ≤ L ∧ g = .int .i64 G ∧ i = .int .i64 ((k : Int) + 1) ∧ -18014398509481984 ≤ G ∧ G ≤ 18014398509481984 ∧ PkIn w B wr vw lw ∧ lw ++ restB l (k + 1) G = allB l) (fun _ i _ => L - (intOf i).toNat)
        case atStart => exact ⟨0, 0, v1, _, by omega, rfl, rfl, by omega, by omega, HP.out, HB.out⟩
        case round =>
          obtain ⟨k, G, vw, lw, hk, rfl, rfl, g1, g2, hI, hb⟩ := hrel
          have HI := hid hI
          have Hb := hid hb
          clear hI hb
          by_cases hlt : k + 1 < L
          · have hkl : k + 1 < l.length := by have := HL.out; omega
            have hcx := int_cells (HS.out.stay HI.out.kept) (k + 1) hkl
            have hcy := int_cells (HS.out.stay HI.out.kept) k (by omega)
            have bx := HR.out (k + 1) hkl
            have by_ := HR.out k (by omega)
            simp only [Nat.add_sub_cancel] at bx
            obtain ⟨x, hx⟩ : ∃ x, l[k + 1] = x := ⟨_, rfl⟩
            obtain ⟨y, hy⟩ : ∃ y, l[k] = y := ⟨_, rfl⟩
            have hst := restB_step G hkl
            rw [hx] at hcx bx hst
            rw [hy] at hcy by_ bx hst
            have hyx : y < x := bx.2.2 (by omega)
            have x1 := bx.1
            have x2 := bx.2.1
            have y1 := by_.1
            have y2 := by_.2.1
            have Hst := hid hst
            clear bx by_ hx hy hst hkl
            go_wp2_with fail
            go_region
            replace HI := hid HI.out.drew
            go_wp2_with fail
            refine (sput_any HI.out.at_ (x - y - G) (by omega) (by omega) (by have := rest_few Hb.out (by have := HL.out; omega); omega)).mono ?_
            rintro e w2 ⟨rfl, v2, h2, k2, n2⟩
            go_wp2_with fail
            go_roundw
            case rel => exact ⟨k + 1, x - y, v2, _, by omega, rfl, by go_num, by omega, by omega, HI.out.put h2 k2 n2, by rw [List.append_assoc, ← Hst.out]; exact Hb.out⟩
            case measure => simp [intOf]; omega
          · have e : k + 1 = L := by omega
            have hw := HI.out.at_
            have hfull : lw = allB l := by
              have := Hb.out
              rw [restB_end G (by omega) (by have := HL.out; omega), List.append_nil] at this
              exact this
            have HFu := hid hfull
            clear hfull
            go_wp2_with fail
            refine (wbytes_any _ B vw _ (packL lw) hw.blk hw.src (by rw [packL_length]; have := rest_few Hb.out (by have := HL.out; omega); omega)).mono ?_
            rintro e w3 ⟨v3, rfl, h3, k3⟩
            go_wp2_with fail
            go_ret2
            have hs3 := HI.out.kept.size
            exact ⟨HI.out.kept.trans k3 (fun _ _ f => f), v3, packL lw, 0, rfl, .inr (.inr ⟨by have := HL.out; omega, HR.out, by rw [HFu.out], rfl⟩), own_base h3 hs3⟩
    · have hr' : Calls Try.prog 56 #[v] w fun e w' => w' = w ∧ e = .returned (.bool false) := hr.mono (by
        rintro e w' ⟨rfl, ⟨_, hn⟩ | ⟨rfl, _⟩⟩
        · exact absurd hn hR
        · exact ⟨rfl, rfl⟩)
      obtain ⟨L, hL⟩ : ∃ L, l.length = L := ⟨_, rfl⟩
      rw [hL] at e0 h120
      subst e0
      go_enter Try.func23, Try.ntmps23
      go_wp2_with fail
      refine hr'.mono ?_
      rintro e w' ⟨hw, rfl⟩
      replace hw := hw.symm
      subst hw
      go_wp2_with fail
      go_ret2
      exact ⟨Only.refl _ w, _, [], 21, rfl, .inr (.inl ⟨by omega, hR, rfl, rfl⟩), World.ownsRow_nil _ _ _ _⟩
end Go.Proofs.Ytghofnopdcklnaa
