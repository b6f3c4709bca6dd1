/-
  Opack, Oread.
-/
import Derived.Test.YteknpfldemgmnaaGreatQ16
import Derived.Test.YteknpfldemgmnaaGreatQ18
import Derived.Shelf.Abstract
import Derived.Handy
import Derived.WalkMore

/-
  The bytes of a list: Pack and the document's own.
-/
namespace Go.Proofs.YteknpfldemgmnaaGreat.Po
open Go.RowKit Go.Proofs.Lys
set_option linter.unusedVariables false

theorem oper_appendH {P : Program} {w : World} {o : Oper} {a : Act} {K : Act → World → Prop} {Q : Exit → Act → World → Prop} (s x : Operand) (t : TypeId)
    (ho : o.op = .call { callee := .builtin .append, args := #[s, x], argTypes := #[t, t] }) {sv xv : Value} (hs : a.eval s = sv) (hx : a.eval x = xv) {v : Value} {w' : World}
    (hrun : Hid ((Builtin.append_ #[t, t] 0 #[sv, xv]).run P w = .ok v w')) (h : K (a.put o.dst v) w') : Oper.wp P o a w K Q := by
  have hr : (Builtin.append_ #[t, t] o.type #[sv, xv]).run P w = .ok v w' := hrun.out
  unfold Oper.wp execOp
  simp only [ho, resolve, invoke, builtin, Sem.run_bind, Sem.run_pure, Result.andThen_ok, List.map_toArray, List.map_cons, List.map_nil, hs, hx, hr]
  exact h

/-- The numbers that are left out ahead of each one. -/
def gapB : Int → List Int → List UInt8
  | _, [] => []
  | last, x :: t => putN (U.uN (x - last - 1)) ++ gapB x t
def packL (l : List Int) : List UInt8 := putN (U.uN (l.length : Int)) ++ gapB (-1) l
/-- What Pack tells. -/
def packR (l : List Int) : List UInt8 × Int := if 10000 < l.length then ([], 2) else if upB (-1) l then (packL l, 0) else ([], 1)
theorem put_ten (x : Int) : (putN (U.uN x)).length ≤ 10 := putN_ten (U.uN_lt x)
theorem gap_len : ∀ (l : List Int) (last : Int), (gapB last l).length ≤ 10 * l.length := by
  intro l
  induction l with
  | nil => intro last; simp [gapB]
  | cons x t ih =>
    intro last
    rw [gapB, List.length_append, List.length_cons]
    have := ih x
    have := put_ten (x - last - 1)
    omega
theorem pack_len (l : List Int) : (packL l).length ≤ 10 * l.length + 10 := by
  rw [packL, List.length_append]
  have := gap_len l (-1)
  have := put_ten (l.length : Int)
  omega

/-- Bytes that a box holds, in a block of their own. -/
structure Box (w : World) (B base : Nat) (v : Value) (bs : List UInt8) : Prop where
  box : Blk w B [v] 30
  own : w.ownsRow base 5 1 v bs.length (bs.map bV)
  apart : ∀ k, v.ownBlock = some k → k ≠ B
theorem Box.slice {w : World} {B base : Nat} {v : Value} {bs : List UInt8} (h : Box w B base v bs) : ∃ a c, v = .slice a bs.length c := own_slice h.own

theorem box_append {w w1 : World} {B base : Nat} {v pv : Value} {bs ps : List UInt8} (h : Box w B base v bs) (hb : base ≤ w.heap.size) (hl : bs.length ≤ 2000000) (k1 : Kept w w1) (hp : SrcOf w1 pv (ps.map bV)) (hpl : ps.length ≤ 10) :
    ∃ v' w2, Hid ((Builtin.append_ #[30, 30] 0 #[v, pv]).run Tryz.prog w1 = .ok v' w2) ∧ Blk w2 B [v] 30 ∧ w2.ownsRow base 5 1 v' (bs ++ ps).length ((bs ++ ps).map bV) ∧ (∀ k, v'.ownBlock = some k → k ≠ B) ∧ Only (fun k => v.ownBlock = some k) w w2 := by
  have ho1 := own_only h.own k1 (fun _ _ f => f)
  obtain ⟨v', w2, hrun, hown, hg, hat⟩ := append_src (P := Tryz.prog) Tryz.underlying30 Tryz.infoB rfl (by decide) ho1 hp (bytes_one ps) (by simp; omega) (Nat.le_trans hb k1.size)
  have hon : Only (fun k => v.ownBlock = some k) w w2 := (k1.mono (fun _ _ f => f.elim)).grown hg (fun k e _ => e)
  refine ⟨v', w2, hrun, Only.blk hon h.box (fun e => h.apart B e rfl), ?_, fun k hk => ?_, hon⟩
  · have e1 : (bs ++ ps).length = bs.length + (ps.map bV).length := by simp
    rw [e1, List.map_append]
    exact hown
  · rcases hat with e | e
    · rw [e] at hk
      exact h.apart k hk
    · rw [e] at hk
      cases hk
      have := h.box.lt
      have := k1.size
      omega
theorem Box.stored {w2 : World} {B base : Nat} {v v' : Value} {bs' : List UInt8} (h1 : Blk w2 B [v] 30) (h2 : w2.ownsRow base 5 1 v' bs'.length (bs'.map bV)) (h3 : ∀ k, v'.ownBlock = some k → k ≠ B) : Box (w2.setCell ⟨B, 0, none⟩ v') B base v' bs' := by
  refine ⟨h1.set 0 v', ?_, h3⟩
  exact own_block h2 (fun k hk => Below.heap_setCell w2 _ _ k (h3 k hk))

set_option maxRecDepth 100000 in
set_option maxHeartbeats 1600000 in
theorem put1_any (w : World) (x : Int) (B base : Nat) (v : Value) (bs : List UInt8) (h : Box w B base v bs) (hb : base ≤ w.heap.size) (hl : bs.length ≤ 2000000) :
    Calls Tryz.prog 52 #[.int .i64 x, .pointer (some ⟨B, 0, none⟩)] w fun e w' => e = .returned (.tuple #[]) ∧ ∃ v', Box w' B base v' (bs ++ putN (U.uN x)) ∧ Only (fun k => k = B ∨ v.ownBlock = some k) w w' := by
  have hcell := h.box.cell 0 rfl
  obtain ⟨a1, c1, rfl⟩ := h.slice
  have HX := hid h
  have HP := hid (fun W => U.put_any W x)
  have HPl := hid (put_ten x)
  generalize putN (U.uN x) = ps at HP HPl ⊢
  clear h
  go_enter Tryz.func52, Tryz.ntmps52
  go_wp2_with fail
  refine wp_region_noPanic ?_
  refine wp_region_last (L := 4) (S := fun w' => w'.cell? ⟨B, 0, none⟩ = some (.slice a1 bs.length c1)) (by kernel_rfl) ?_
  have hS : (fun w' : World => w'.cell? ⟨B, 0, none⟩ = some (.slice a1 bs.length c1)) w.drew := hcell
  refine wpAnyL_take (i := 0) (v := .slice a1 bs.length c1) rfl (by kernel_rfl) (by kernel_rfl) (by kernel_rfl) (by kernel_rfl) (by kernel_rfl) (fun _ _ _ h => h) (Or.inl ⟨by rfl, ?_⟩) hS ?_
  · (intro w' hSw; go_simp)
  go_frame
  refine wpAnyL_one (i := 1) (by kernel_rfl) rfl rfl ?_
  go_simp
  (try go_frame)
  refine wpAnyL_one (i := 2) (by kernel_rfl) rfl rfl ?_
  go_simp
  refine (HP.out _).mono ?_
  rintro e w1 ⟨pv, rfl, hpo, k1⟩
  have k1' : Kept w w1 := ((Only.refl _ w).drew).trans k1 (fun _ _ f => f)
  have hc1 := (Only.blk k1' HX.out.box (fun f => f)).cell 0 rfl
  refine ⟨hc1, ?_⟩
  obtain ⟨v', w2, Hr, hB2, ho2, ha2, hon⟩ := box_append HX.out hb hl k1' (own_src hpo) HPl.out
  obtain ⟨a3, c3, rfl⟩ := own_slice ho2
  have hc2 := hB2.cell 0 rfl
  have hf2 := hB2.frozen 0
  have HF := hid (Box.stored hB2 ho2 ha2)
  have HO := hid ((hon.mono (O' := fun k => k = B ∨ (Value.slice a1 bs.length c1).ownBlock = some k) (fun _ _ e => .inr e)).setCell (p := ⟨B, 0, none⟩) (fun _ => .inl rfl) (.slice a3 (bs ++ ps).length c3))
  clear k1 k1' hpo hc1 hB2 ho2 ha2 hon hS
  generalize (bs ++ ps).length = N at Hr HF HO
  refine wpAnyL_one (i := 3) (by kernel_rfl) rfl rfl (oper_appendH _ _ _ rfl rfl rfl Hr ?_)
  refine ⟨hc2, ?_⟩
  go_frame
  refine wpAnyL_last (by kernel_rfl) (by kernel_rfl) rfl rfl ?_
  go_simp
  refine NoPanic.normal ?_
  go_wp2_with fail
  go_returns
  exact ⟨rfl, _, HF.out, HO.out⟩

/-- What Pack leaves. -/
def PackPost (w : World) (l : List Int) (e : Ending) (w' : World) : Prop :=
  ∃ u, e = .returned (.tuple #[u, .int .i64 (packR l).2]) ∧ w'.ownsRow w.heap.size 5 1 u (packR l).1.length ((packR l).1.map bV) ∧ Kept w w'
theorem pack_long {l : List Int} (h : 10000 < l.length) : packR l = ([], 2) := by
  unfold packR
  rw [if_pos h]
theorem pack_bad {l : List Int} (h : ¬ 10000 < l.length) (h2 : upB (-1) l = false) : packR l = ([], 1) := by
  unfold packR
  rw [if_neg h, h2]
  rfl
theorem pack_good {l : List Int} (h : ¬ 10000 < l.length) (h2 : upB (-1) l = true) : packR l = (packL l, 0) := by
  unfold packR
  rw [if_neg h, h2]
  rfl
theorem src_at' {w : World} {av : Option Addr} {L c : Nat} {l : List Int} (h : SrcOf w (.slice av L c) (l.map (Value.int .i64))) (hL : l.length = L) (i : Nat) (hi : i < L) :
    ∃ b o, av = some ⟨b, o, none⟩ ∧ w.cell? ⟨b, o + i, none⟩ = some (.int .i64 (l[i]'(by omega))) := by
  rcases h.shape with ⟨hn, _⟩ | ⟨_, b, o, c', hv, hc⟩
  · have : l = [] := List.map_eq_nil_iff.1 hn
    subst this
    simp at hL
    omega
  · simp only [Value.slice.injEq] at hv
    exact ⟨b, o, hv.1, hc i _ (by rw [List.getElem?_map, List.getElem?_eq_getElem (by omega)]; rfl)⟩

set_option maxRecDepth 100000 in
set_option maxHeartbeats 3200000 in
theorem pack_any (w : World) (v : Value) (l : List Int) (hs : SrcOf w v (l.map (Value.int .i64))) (hl : l.length ≤ 100000) :
    Calls Tryz.prog 28 #[v] w (PackPost w l) := by
  have C1 := hid (check_any w v l hs (by omega))
  obtain ⟨a1, c1, rfl⟩ := hs.len
  by_cases h1 : 10000 < l.length
  · show Calls _ _ _ _ (PackPost w l)
    unfold PackPost
    rw [pack_long h1]
    rw [List.length_map] at hs C1 ⊢
    obtain ⟨L, hL⟩ : ∃ L, l.length = L := ⟨_, rfl⟩
    rw [hL] at h1 hl ⊢
    clear C1 hL hs
    go_enter Tryz.func28, Tryz.ntmps28
    go_wp2
    go_ret2
    exact ⟨_, rfl, World.ownsRow_nil _ _ _ _, Only.refl _ _⟩
  · cases h2 : upB (-1) l with
    | false =>
      show Calls _ _ _ _ (PackPost w l)
      unfold PackPost
      rw [pack_bad h1 h2]
      rw [h2] at C1
      rw [List.length_map] at hs C1 ⊢
      obtain ⟨L, hL⟩ : ∃ L, l.length = L := ⟨_, rfl⟩
      rw [hL] at h1 hl C1 ⊢
      clear hL hs h2
      go_enter Tryz.func28, Tryz.ntmps28
      go_wp2_with fail
      refine C1.out.mono ?_
      rintro e w1 ⟨rfl, hw⟩
      replace hw := hw.symm
      subst hw
      go_wp2_with fail
      go_ret2
      exact ⟨_, rfl, World.ownsRow_nil _ _ _ _, Only.refl _ _⟩
    | true =>
      show Calls _ _ _ _ (PackPost w l)
      unfold PackPost
      rw [pack_good h1 h2]
      rw [h2] at C1
      rw [List.length_map] at hs C1 ⊢
      have HPL := hid (pack_len l)
      have HU := hid h2
      obtain ⟨L, hL⟩ : ∃ L, l.length = L := ⟨_, rfl⟩
      obtain ⟨R, hR⟩ : ∃ R, packL l = R := ⟨_, rfl⟩
      have HR0 : Hid ([] ++ putN (U.uN (L : Int)) ++ gapB (-1) l = R) := by rw [← hR, ← hL]; rfl
      have HS := hid hs
      rw [hL] at h1 hl C1 HS HPL ⊢
      rw [hR] at HPL ⊢
      have HL := hid hL
      have eg : ∀ args w, (callFunc 52 args).run Tryz.prog w = .ok (.enter 52 args) w := enters_of Tryz.func52 (by kernel_rfl) rfl
      have hB0 : Box (w.alloc (.cells #[.slice none 0 0] 30)) w.heap.size w.heap.size (.slice none 0 0) [] := ⟨Blk.new w [.slice none 0 0] _, World.ownsRow_nil _ _ _ _, fun k hk => by cases hk⟩
      have HB0 := hid hB0
      have HK0 := hid ((Only.refl (fun _ => False) w).alloc (.cells #[.slice none 0 0] 30))
      clear hL hR hs h2 hB0
      go_enter Tryz.func28, Tryz.ntmps28
      go_wp2_with fail
      refine C1.out.mono ?_
      rintro e w1 ⟨rfl, hw⟩
      replace hw := hw.symm
      subst hw
      clear C1
      go_wp2_with fail
      generalize hw0 : w.alloc (.cells #[.slice none 0 0] 30) = w0 at HB0 HK0 ⊢
      refine (put1_any w0 (L : Int) _ _ _ _ HB0.out HK0.out.size (by simp)).mono ?_
      rintro e w1 ⟨rfl, v1, hB1, hon1⟩
      have HB1 := hid hB1
      have HK1 : Hid (Kept w w1) := hid (HK0.out.trans hon1 (fun q hq e => by rcases e with e | e; omega; cases e))
      clear hB1 hon1 hw0 HB0 HK0
      go_wp2_with fail
      go_loopw [6, 8, 22] (fun t _ s wr => ∃ (k : Nat) (last : Int) (bs : List UInt8) (bv : Value), k ≤ L ∧ t = .int .i64 last ∧ s = .int .i64 (k : Int) ∧ -1 ≤ last ∧ upB last (l.drop k) = true ∧ Box wr w.heap.size w.heap.size bv bs ∧ Kept w wr ∧ bs ++ gapB last (l.drop k) = R) (fun _ _ s _ => L - (intOf s).toNat)
      case atStart => exact ⟨0, -1, _, _, by omega, rfl, rfl, by omega, HU.out, HB1.out, HK1.out, HR0.out⟩
      case round =>
        obtain ⟨k, last, bs, bv, hk, rfl, rfl, hlast, hup, hB, kr, hP⟩ := hrel
        have HB := hid hB
        have HK := hid kr
        by_cases hlt : k < L
        · have hkl : k < l.length := by have := HL.out; omega
          obtain ⟨b1, o1, rfl, hcell⟩ := src_at' (HS.out.stay kr) HL.out k hlt
          rw [List.drop_eq_getElem_cons hkl] at hup hP
          obtain ⟨x, hx⟩ : ∃ x, l[k] = x := ⟨_, rfl⟩
          rw [hx] at hcell hup hP
          obtain ⟨u1, u2, u3⟩ := up_cons.1 hup
          rw [gapB, ← List.append_assoc] at hP
          have hbl : bs.length ≤ 2000000 := by
            have h1 := congrArg List.length hP
            rw [List.length_append, List.length_append] at h1
            have := HPL.out
            omega
          have HU3 := hid u3
          have HP := hid hP
          have HC := hid (put1_any wr (x - last - 1) _ _ _ _ hB kr.size hbl)
          clear hx hup u3 hP hB kr hbl
          go_wp2_with fail
          refine HC.out.mono ?_
          rintro e w2 ⟨rfl, v2, hB2, hon2⟩
          have HB2 := hid hB2
          have HK2 : Hid (Kept w w2) := hid (HK.out.trans hon2 (fun q hq e => by
            rcases e with e | e
            · omega
            · have := (HB.out.own.lt q e).1
              omega))
          clear hB2 hon2
          go_wp2_with fail
          go_roundw
          case rel => exact ⟨k + 1, x, _, _, by omega, rfl, by go_num, by omega, HU3.out, HB2.out, HK2.out, HP.out⟩
          case measure => simp [intOf]; omega
        · have e0 : l.drop k = [] := List.drop_of_length_le (by have := HL.out; omega)
          rw [e0, gapB, List.append_nil] at hP
          subst hP
          have hc := hB.box.cell 0 rfl
          obtain ⟨a2, c2, rfl⟩ := hB.slice
          clear hup hB kr e0
          go_wp2_with fail
          go_ret2
          exact ⟨_, rfl, HB.out.own, HK.out⟩

set_option maxRecDepth 100000 in
set_option maxHeartbeats 3200000 in
theorem rpack_any (w : World) (v : Value) (l : List Int) (hs : SrcOf w v (l.map (Value.int .i64))) (hl : l.length ≤ 100000) :
    Calls Tryz.prog 30 #[v] w (PackPost w l) := by
  have C1 := hid (rrising_any w v l hs (by omega))
  obtain ⟨a1, c1, rfl⟩ := hs.len
  by_cases h1 : 10000 < l.length
  · show Calls _ _ _ _ (PackPost w l)
    unfold PackPost
    rw [pack_long h1]
    rw [List.length_map] at hs C1 ⊢
    obtain ⟨L, hL⟩ : ∃ L, l.length = L := ⟨_, rfl⟩
    rw [hL] at h1 hl ⊢
    clear C1 hL hs
    go_enter Tryz.func30, Tryz.ntmps30
    go_wp2
    go_ret2
    exact ⟨_, rfl, World.ownsRow_nil _ _ _ _, Only.refl _ _⟩
  · cases h2 : upB (-1) l with
    | false =>
      show Calls _ _ _ _ (PackPost w l)
      unfold PackPost
      rw [pack_bad h1 h2]
      rw [h2] at C1
      rw [List.length_map] at hs C1 ⊢
      obtain ⟨L, hL⟩ : ∃ L, l.length = L := ⟨_, rfl⟩
      rw [hL] at h1 hl C1 ⊢
      clear hL hs h2
      go_enter Tryz.func30, Tryz.ntmps30
      go_wp2_with fail
      refine C1.out.mono ?_
      rintro e w1 ⟨rfl, k1⟩
      go_wp2_with fail
      go_ret2
      exact ⟨_, rfl, World.ownsRow_nil _ _ _ _, k1⟩
    | true =>
      show Calls _ _ _ _ (PackPost w l)
      unfold PackPost
      rw [pack_good h1 h2]
      rw [h2] at C1
      rw [List.length_map] at hs C1 ⊢
      have HPL := hid (pack_len l)
      have HU := hid h2
      obtain ⟨L, hL⟩ : ∃ L, l.length = L := ⟨_, rfl⟩
      obtain ⟨R, hR⟩ : ∃ R, packL l = R := ⟨_, rfl⟩
      have HR0 : Hid (putN (U.uN (L : Int)) ++ gapB (-1) l = R) := by rw [← hR, ← hL]; rfl
      have HS := hid hs
      rw [hL] at h1 hl C1 HS HPL ⊢
      rw [hR] at HPL ⊢
      have HL := hid hL
      clear hL hR hs h2
      go_enter Tryz.func30, Tryz.ntmps30
      go_wp2_with fail
      refine C1.out.mono ?_
      rintro e w1 ⟨rfl, k1⟩
      have HK1 := hid k1
      clear C1 k1
      go_wp2_with fail
      refine (U.rput_any w1 (L : Int)).mono ?_
      rintro e w2 ⟨v2, rfl, ho2, k2⟩
      have HK2 := hid (HK1.out.trans k2 (fun _ _ f => f))
      have HO2 := hid (own_base ho2 HK1.out.size)
      clear k2 ho2 HK1
      go_wp2_with fail
      go_loopw [5, 6, 7] (fun t s _ wr => ∃ (k : Nat) (bs : List UInt8), k ≤ L ∧ s = .int .i64 (k : Int) ∧ upB (if k = 0 then -1 else l.getD (k - 1) 0) (l.drop k) = true ∧ (0 < k → 0 ≤ l.getD (k - 1) 0) ∧ wr.ownsRow w.heap.size 5 1 t bs.length (bs.map bV) ∧ Kept w wr ∧ bs ++ gapB (if k = 0 then -1 else l.getD (k - 1) 0) (l.drop k) = R) (fun _ s _ _ => L - (intOf s).toNat)
      case atStart => exact ⟨0, _, by omega, rfl, HU.out, fun h => absurd h (by omega), HO2.out, HK2.out, HR0.out⟩
      case round =>
        obtain ⟨k, bs, hk, rfl, hup, hpos, ho, kr, hP⟩ := hrel
        have HO := hid ho
        have HK := hid kr
        by_cases hlt : k < L
        · have hkl : k < l.length := by have := HL.out; omega
          obtain ⟨b1, o1, rfl, hcell⟩ := src_at' (HS.out.stay kr) HL.out k hlt
          rw [List.drop_eq_getElem_cons hkl] at hup hP
          obtain ⟨x, hx⟩ : ∃ x, l[k] = x := ⟨_, rfl⟩
          have HN : Hid (l.getD (k + 1 - 1) 0 = x) := by show _ = _; simp [List.getD_eq_getElem?_getD, List.getElem?_eq_getElem hkl, hx]
          rw [hx] at hcell hup hP
          obtain ⟨u1, u2, u3⟩ := up_cons.1 hup
          rw [gapB, ← List.append_assoc] at hP
          have hbl : bs.length ≤ 2000000 := by
            have h1 := congrArg List.length hP
            rw [List.length_append, List.length_append] at h1
            have := HPL.out
            omega
          have HU3 := hid u3
          by_cases h0 : k = 0
          · subst h0
            rw [if_pos rfl] at u1 hP
            rw [show x - -1 - 1 = x by omega] at hP
            have HP := hid hP
            simp only [Nat.add_zero] at hcell
            clear hx hup u3 hP ho kr hpos
            go_wp2_with fail
            refine (U.rput_any wr x).mono ?_
            rintro e w3 ⟨v3, rfl, ho3, k3⟩
            have ho3' := own_only HO.out k3 (fun _ _ f => f)
            obtain ⟨v', w4, hrun, hown, hg, hat⟩ := append_src (P := Tryz.prog) Tryz.underlying30 Tryz.infoB rfl (by decide) ho3' (own_src ho3) (bytes_one _) (by have := put_ten x; simp; omega) (Nat.le_trans HK.out.size k3.size)
            have Hr := hid hrun
            have HE : Hid (w4.ownsRow w.heap.size 5 1 v' (bs ++ putN (U.uN x)).length ((bs ++ putN (U.uN x)).map bV)) := by
              refine hid ?_
              rw [List.map_append, List.length_append]
              simpa using hown
            have HK4 : Hid (Kept w w4) := hid ((HK.out.trans k3 (fun _ _ f => f)).grown hg (fun q e hq => by have := (ho3'.lt q e).1; omega))
            clear ho3 k3 ho3' hrun hown hg hat
            go_wp2_with (at_builtin; refine wpList_append_run rfl _ _ _ rfl rfl rfl Hr ?_)
            go_roundw
            case rel =>
              refine ⟨1, _, by omega, rfl, ?_, fun _ => ?_, HE.out, HK4.out, ?_⟩
              · rw [if_neg (by omega), HN.out]
                exact HU3.out
              · rw [HN.out]
                omega
              · rw [if_neg (by omega), HN.out]
                exact HP.out
            case measure => simp [intOf]; omega
          · obtain ⟨k', rfl⟩ : ∃ k', k = k' + 1 := ⟨k - 1, by omega⟩
            have hkl' : k' < l.length := by omega
            have hcell' := int_cells (HS.out.stay kr) k' hkl'
            obtain ⟨y, hy⟩ : ∃ y, l[k'] = y := ⟨_, rfl⟩
            have hy2 : l.getD (k' + 1 - 1) 0 = y := by simp [List.getD_eq_getElem?_getD, List.getElem?_eq_getElem hkl', hy]
            rw [hy] at hcell'
            rw [if_neg h0, hy2] at u1 hP
            rw [hy2] at hpos
            have hy0 := hpos (by omega)
            have HP := hid hP
            clear hx hy hy2 hup u3 hP ho kr hpos
            go_wp2_with fail
            go_quiet (fail)
            have K0 : Kept wr (wr.drewN nq) := kept_drewN (Only.refl _ _) nq
            generalize wr.drewN nq = wq at K0 ⊢
            clear nq
            go_wp2_with fail
            refine (U.rput_any wq (x - y - 1)).mono ?_
            rintro e w3 ⟨v3, rfl, ho3, k3⟩
            have ho3' := own_only (own_only HO.out K0 (fun _ _ f => f)) k3 (fun _ _ f => f)
            obtain ⟨v', w4, hrun, hown, hg, hat⟩ := append_src (P := Tryz.prog) Tryz.underlying30 Tryz.infoB rfl (by decide) ho3' (own_src ho3) (bytes_one _) (by have := put_ten (x - y - 1); simp; omega) (Nat.le_trans (Nat.le_trans HK.out.size K0.size) k3.size)
            have Hr := hid hrun
            have HE : Hid (w4.ownsRow w.heap.size 5 1 v' (bs ++ putN (U.uN (x - y - 1))).length ((bs ++ putN (U.uN (x - y - 1))).map bV)) := by
              refine hid ?_
              rw [List.map_append, List.length_append]
              simpa using hown
            have HK4 : Hid (Kept w w4) := hid (((HK.out.trans K0 (fun _ _ f => f)).trans k3 (fun _ _ f => f)).grown hg (fun q e hq => by have := (ho3'.lt q e).1; omega))
            clear ho3 k3 ho3' hrun hown hg hat K0
            go_wp2_with (at_builtin; refine wpList_append_run rfl _ _ _ rfl rfl rfl Hr ?_)
            go_roundw
            case rel =>
              refine ⟨k' + 2, _, by omega, by go_num, ?_, fun _ => ?_, HE.out, HK4.out, ?_⟩
              · rw [if_neg (by omega), show k' + 2 - 1 = k' + 1 + 1 - 1 by omega, HN.out]
                exact HU3.out
              · rw [show k' + 2 - 1 = k' + 1 + 1 - 1 by omega, HN.out]
                omega
              · rw [if_neg (by omega), show k' + 2 - 1 = k' + 1 + 1 - 1 by omega, HN.out]
                exact HP.out
            case measure => simp [intOf]; omega
        · have e0 : l.drop k = [] := List.drop_of_length_le (by have := HL.out; omega)
          rw [e0, gapB, List.append_nil] at hP
          subst hP
          clear hup ho kr e0 hpos
          go_wp2_with fail
          go_ret2
          exact ⟨_, rfl, HO.out, HK.out⟩
end Go.Proofs.YteknpfldemgmnaaGreat.Po

/-
  The list at the beginning of bytes: Unpack and the document's own.
-/
namespace Go.Proofs.YteknpfldemgmnaaGreat.Po
open Go.RowKit Go.Proofs.Lys
set_option linter.unusedVariables false

theorem getA_cases (l : List UInt8) : ∀ i n, n < 2 ^ (7 * i) → n < 18446744073709551616 → (getA l i n = (0, 0, 5) ∨ ∃ u k, getA l i n = (u, k, 0) ∧ u < 18446744073709551616 ∧ k ≤ i + l.length) := by
  induction l with
  | nil => intro i n _ _; exact .inl rfl
  | cons c t ih =>
    intro i n h1 h2
    by_cases ho : 10 ≤ i ∨ (i = 9 ∧ 1 < c.toNat % 128)
    · exact .inl (getA_over ho)
    · have hi : i ≤ 9 := by omega
      have hp : c.toNat % 128 < 128 := by omega
      have hw := piece_word h1 hp hi (by omega)
      by_cases hm : 128 ≤ c.toNat
      · rw [getA_go hi (by omega) hm]
        rcases ih (i + 1) _ (piece_lt h1 hp) hw with h | ⟨u, k, h, hu, hk⟩
        · exact .inl h
        · exact .inr ⟨u, k, h, hu, by rw [List.length_cons]; omega⟩
      · by_cases hz : c.toNat = 0 ∧ 0 < i
        · exact .inl (getA_nought hi hz.1 hz.2)
        · exact .inr ⟨_, _, getA_last hi (by omega) (by omega) (by omega), hw, by rw [List.length_cons]; omega⟩

/-- The number at the beginning of bytes, below the limit, and how many bytes it has. -/
def numB (bs : List UInt8) : Option (Nat × Nat) := if (getA bs 0 0).2.2 = 0 ∧ (getA bs 0 0).1 < 1099511627776 then some ((getA bs 0 0).1, (getA bs 0 0).2.1) else none
/-- n numbers more behind those that were read. -/
def rdA : Nat → Int → List Int → Nat → List UInt8 → Option (List Int × Nat)
  | 0, _, acc, at_, _ => some (acc, at_)
  | n + 1, last, acc, at_, bs => match numB bs with
    | none => none
    | some (d, k) => if last + d + 1 < 1099511627776 then rdA n (last + d + 1) (acc ++ [last + d + 1]) (at_ + k) (bs.drop k) else none
/-- The list at the beginning of bytes. -/
def readR (bs : List UInt8) : Option (List Int × Nat) := match numB bs with
  | none => none
  | some (c, k) => if c ≤ 10000 then rdA c (-1) [] k (bs.drop k) else none
theorem rd_none {n : Nat} {last : Int} {acc : List Int} {at_ : Nat} {bs : List UInt8} (h : numB bs = none) : rdA (n + 1) last acc at_ bs = none := by
  rw [rdA, h]
theorem rd_high {n : Nat} {last : Int} {acc : List Int} {at_ d k : Nat} {bs : List UInt8} (h : numB bs = some (d, k)) (h2 : ¬ last + d + 1 < 1099511627776) : rdA (n + 1) last acc at_ bs = none := by
  rw [rdA, h]
  exact if_neg h2
theorem rd_go {n : Nat} {last : Int} {acc : List Int} {at_ d k : Nat} {bs : List UInt8} (h : numB bs = some (d, k)) (h2 : last + d + 1 < 1099511627776) : rdA (n + 1) last acc at_ bs = rdA n (last + d + 1) (acc ++ [last + d + 1]) (at_ + k) (bs.drop k) := by
  rw [rdA, h]
  exact if_pos h2
theorem num_put {u : Nat} (h : u < 1099511627776) (more : List UInt8) : numB (putN u ++ more) = some (u, (putN u).length) := by
  unfold numB
  rw [get_put0 (by omega) more]
  simp [h]

/-- What Unpack leaves. -/
def UnpPost (w : World) (R : Option (List Int × Nat)) (e : Ending) (w' : World) : Prop :=
  Kept w w' ∧ ((R = none ∧ e = .returned (.tuple #[.slice none 0 0, .int .i64 0, .int .i64 5])) ∨
    ∃ u l k, R = some (l, k) ∧ e = .returned (.tuple #[u, .int .i64 (k : Int), .int .i64 0]) ∧ w'.ownsRow w.heap.size 3 1 u l.length (l.map (Value.int .i64)))

set_option maxRecDepth 100000 in
set_option maxHeartbeats 1600000 in
theorem next1_any (w : World) (B1 B2 at_ : Nat) (v : Value) (bs : List UInt8) (h1 : w.cell? ⟨B1, 0, none⟩ = some v) (h2 : w.cell? ⟨B2, 0, none⟩ = some (.int .i64 (at_ : Int))) (hf : w.frozen? ⟨B2, 0, none⟩ = false)
    (hs : BSrc w v bs) (hl : bs.length ≤ 1000000) (ha : at_ ≤ bs.length) :
    Calls Tryz.prog 97 #[.pointer (some ⟨B1, 0, none⟩), .pointer (some ⟨B2, 0, none⟩)] w fun e w' =>
      ∃ (n : Int) (k : Nat) (ok : Bool), e = .returned (.tuple #[.int .i64 n, .bool ok]) ∧ w' = w.setCell ⟨B2, 0, none⟩ (.int .i64 ((at_ + k : Nat) : Int)) ∧
        ((ok = false ∧ numB (bs.drop at_) = none) ∨ (ok = true ∧ ∃ d : Nat, n = d ∧ numB (bs.drop at_) = some (d, k) ∧ at_ + k ≤ bs.length ∧ d < 1099511627776)) := by
  obtain ⟨a', c', hr, hb⟩ := hs.tail ha
  have HG := hid (U.get_any w _ (bs.drop at_) hb.1 (by rw [List.length_drop]; omega))
  obtain ⟨a, c, rfl⟩ : ∃ a c, v = .slice a bs.length c := ⟨_, _, hs.2.choose_spec.choose_spec.1⟩
  obtain ⟨L, hL⟩ : ∃ L, bs.length = L := ⟨_, rfl⟩
  have hdl : (bs.drop at_).length = L - at_ := by rw [List.length_drop, hL]
  rcases getA_cases (bs.drop at_) 0 0 (by simp) (by omega) with hg | ⟨u, k, hg, hu, hk⟩
  · have HN : Hid (numB (bs.drop at_) = none) := by
      show _ = _
      unfold numB
      rw [hg]
      rfl
    rw [hg, U.got_err] at HG
    rw [hL] at h1 hr HG ha hl
    clear hb hs hg hL hdl
    go_enter Tryz.func97, Tryz.ntmps97
    go_wp2_with fail
    refine HG.out.mono ?_
    rintro e w1 ⟨rfl, hw⟩
    replace hw := hw.symm
    subst hw
    go_wp2_with fail
    go_ret2
    exact ⟨_, 0, _, rfl, rfl, .inl ⟨rfl, HN.out⟩⟩
  · rw [hg, U.got] at HG
    simp only at HG
    have hk2 : at_ + k ≤ L := by rw [hdl] at hk; omega
    have HK2 : Hid (at_ + k ≤ bs.length) := by show _ ≤ _; omega
    by_cases h40 : u < 1099511627776
    · have HN : Hid (numB (bs.drop at_) = some (u, k)) := by
        show _ = _
        unfold numB
        rw [hg]
        simp [h40]
      have hwr : wrap64 (u : Int) = (u : Int) := by unfold wrap64; omega
      rw [hwr] at HG
      have d2 : decide ((u : Int) < 1099511627776) = true := by simp; omega
      have d3 : decide ((0 : Int) ≤ (u : Int)) = true := by simp
      rw [hL] at h1 hr HG ha hl
      clear hb hs hg hL hdl hwr
      go_enter Tryz.func97, Tryz.ntmps97
      go_wp2_with fail
      refine HG.out.mono ?_
      rintro e w1 ⟨rfl, hw⟩
      replace hw := hw.symm
      subst hw
      go_wp2_with fail
      go_ret2
      exact ⟨_, k, _, rfl, by rw [show ((at_ + k : Nat) : Int) = (at_ : Int) + (k : Int) by omega], .inr ⟨rfl, u, rfl, HN.out, HK2.out, h40⟩⟩
    · have HN : Hid (numB (bs.drop at_) = none) := by
        show _ = _
        unfold numB
        rw [hg]
        simp [h40]
      obtain ⟨N, hN⟩ : ∃ N, wrap64 (u : Int) = N := ⟨_, rfl⟩
      have hN2 : N < 0 ∨ 1099511627776 ≤ N := by rw [← hN]; unfold wrap64; omega
      rw [hN] at HG
      rw [hL] at h1 hr HG ha hl
      clear hb hs hg hL hdl hN
      have fin : decide (N < 1099511627776) = false ∨ N < 0 := by
        rcases hN2 with h | h
        · exact .inr h
        · exact .inl (by simp; omega)
      rcases fin with d2 | hN2
      · have d3 : decide (0 ≤ N) = true := by simp at d2 ⊢; omega
        clear hN2
        go_enter Tryz.func97, Tryz.ntmps97
        go_wp2_with fail
        refine HG.out.mono ?_
        rintro e w1 ⟨rfl, hw⟩
        replace hw := hw.symm
        subst hw
        go_wp2_with fail
        go_ret2
        exact ⟨_, k, _, rfl, by rw [show ((at_ + k : Nat) : Int) = (at_ : Int) + (k : Int) by omega], .inl ⟨rfl, HN.out⟩⟩
      · have d3 : decide (0 ≤ N) = false := by simp; omega
        clear hN2
        go_enter Tryz.func97, Tryz.ntmps97
        go_wp2_with fail
        refine HG.out.mono ?_
        rintro e w1 ⟨rfl, hw⟩
        replace hw := hw.symm
        subst hw
        go_wp2_with fail
        go_ret2
        exact ⟨_, k, _, rfl, by rw [show ((at_ + k : Nat) : Int) = (at_ : Int) + (k : Int) by omega], .inl ⟨rfl, HN.out⟩⟩

structure UpIn (w wr : World) (v : Value) (at_ : Nat) : Prop where
  b1 : Blk wr w.heap.size [v] 30
  b2 : Blk wr (w.heap.size + 1) [.int .i64 (at_ : Int)] 3
  kept : Kept w wr
theorem UpIn.next {w wr : World} {v : Value} {at_ : Nat} (h : UpIn w wr v at_) (a' : Nat) : UpIn w (wr.setCell ⟨w.heap.size + 1, 0, none⟩ (.int .i64 (a' : Int))) v a' :=
  ⟨h.b1.other (by simp) _, h.b2.set 0 _, h.kept.setCell (fun hlt => absurd hlt (by simp)) _⟩
theorem UpIn.more {w wr w' : World} {v u : Value} {at_ : Nat} (h : UpIn w wr v at_) (k : Only (fun j => u.ownBlock = some j) wr w') (hu : ∀ j, u.ownBlock = some j → w.heap.size + 2 ≤ j) : UpIn w w' v at_ :=
  ⟨Only.blk k h.b1 (fun e => by have := hu _ e; omega), Only.blk k h.b2 (fun e => by have := hu _ e; omega), h.kept.trans k (fun j hj e => by have := hu _ e; omega)⟩

set_option maxRecDepth 100000 in
set_option maxHeartbeats 3200000 in
theorem unpack_any (w : World) (v : Value) (bs : List UInt8) (hs : BSrc w v bs) (hl : bs.length ≤ 1000000) :
    Calls Tryz.prog 82 #[v] w (UnpPost w (readR bs)) := by
  have eg : ∀ args w, (callFunc 97 args).run Tryz.prog w = .ok (.enter 97 args) w := enters_of Tryz.func97 (by kernel_rfl) rfl
  have HS := hid hs
  have HN := hid (fun (wr : World) (at_ : Nat) (h : UpIn w wr v at_) (ha : at_ ≤ bs.length) => next1_any wr w.heap.size (w.heap.size + 1) at_ v bs (h.b1.cell 0 rfl) (h.b2.cell 0 rfl) (h.b2.frozen 0) (hs.stay h.kept) hl ha)
  obtain ⟨a, c, rfl⟩ : ∃ a c, v = .slice a bs.length c := ⟨_, _, hs.2.choose_spec.choose_spec.1⟩
  have HU0 : Hid (UpIn w ((w.alloc (.cells #[.slice a bs.length c] 30)).alloc (.cells #[.int .i64 0] 3)) (.slice a bs.length c) 0) := by
    refine hid ⟨(Blk.new w [.slice a bs.length c] _).alloc _, ?_, ((Only.refl _ w).alloc _).alloc _⟩
    have := Blk.new (w.alloc (.cells #[.slice a bs.length c] 30)) [.int .i64 0] 3
    simpa using this
  obtain ⟨R, hR⟩ : ∃ R, readR bs = R := ⟨_, rfl⟩
  have HR := hid hR
  rw [hR]
  obtain ⟨L, hL⟩ : ∃ L, bs.length = L := ⟨_, rfl⟩
  have HL := hid hL
  rw [hL] at HN HU0 ⊢
  have hwl : (w.alloc (.cells #[.slice a L c] 30)).heap.size = w.heap.size + 1 := by simp
  clear hs hR hL
  unfold UnpPost
  go_enter Tryz.func82, Tryz.ntmps82
  go_wp2_with fail
  refine (HN.out _ _ HU0.out (Nat.zero_le _)).mono ?_
  rintro e w1 ⟨n, k, ok, rfl, rfl, hok⟩
  have HU1 := hid (HU0.out.next (0 + k))
  generalize World.setCell _ _ _ = w1 at HU1 ⊢
  clear HU0
  rcases hok with ⟨rfl, hnum⟩ | ⟨rfl, cnt, rfl, hnum, hkl, hc40⟩
  · have HF : Hid (R = none) := by
      have := HR.out
      unfold readR at this
      rw [List.drop_zero] at hnum
      rw [hnum] at this
      exact this.symm
    clear hnum
    go_wp2_with fail
    go_ret3
    exact ⟨HU1.out.kept, .inl ⟨HF.out, rfl⟩⟩
  · rw [List.drop_zero] at hnum
    by_cases hc : cnt ≤ 10000
    · have HR2 : Hid (rdA cnt (-1) [] k (bs.drop k) = R) := by
        have := HR.out
        unfold readR at this
        rw [hnum] at this
        rw [← this]
        exact (if_pos hc).symm
      have HKL := hid hkl
      clear hnum hkl
      go_wp2_with fail
      go_loopw [9, 10, 11, 12, 26] (fun p t _ _ s wr => ∃ (i at_ : Nat) (last : Int) (acc : List Int), i ≤ cnt ∧ s = .int .i64 (i : Int) ∧ t = .int .i64 last ∧ -1 ≤ last ∧ last < 1099511627776 ∧ acc.length = i ∧ at_ ≤ L ∧ UpIn w wr (.slice a L c) at_ ∧ wr.ownsRow (w.heap.size + 2) 3 1 p acc.length (acc.map (Value.int .i64)) ∧ rdA (cnt - i) last acc at_ (bs.drop at_) = R) (fun _ _ _ _ s _ => cnt - (intOf s).toNat)
      case atStart =>
        refine ⟨0, 0 + k, -1, [], by omega, rfl, rfl, by omega, by omega, rfl, HKL.out, HU1.out, World.ownsRow_nil _ _ _ _, ?_⟩
        rw [Nat.zero_add]
        exact HR2.out
      case round =>
        obtain ⟨i, at_, last, acc, hi, rfl, rfl, hl1, hl2, hal, hat, hU, ho, hP⟩ := hrel
        have HU := hid hU
        have HO := hid ho
        have HAt := hid hat
        have HAl := hid hal
        by_cases hlt : i < cnt
        · obtain ⟨m, hm⟩ : ∃ m, cnt - i = m + 1 := ⟨cnt - i - 1, by omega⟩
          rw [hm] at hP
          have HP := hid hP
          have HM := hid hm
          clear hU ho hat hP hal hm
          go_wp2_with fail
          refine (HN.out _ _ HU.out HAt.out).mono ?_
          rintro e w2 ⟨n, k2, ok, rfl, rfl, hok⟩
          have HU2 := hid (HU.out.next (at_ + k2))
          have HO2 := hid (own_only HO.out (((Only.refl (fun j => j = w.heap.size + 1) wr).setCell (p := ⟨w.heap.size + 1, 0, none⟩) (fun _ => rfl) (.int .i64 ((at_ + k2 : Nat) : Int)))) (fun j hj e => by have := (HO.out.lt j hj).1; omega))
          generalize World.setCell _ _ _ = w2 at HU2 HO2 ⊢
          rcases hok with ⟨rfl, hnum⟩ | ⟨rfl, d, rfl, hnum, hkl2, hd40⟩
          · have HF : Hid (R = none) := by
              have := HP.out
              rw [rd_none hnum] at this
              exact this.symm
            clear hnum
            go_wp2_with fail
            go_ret3
            exact ⟨HU2.out.kept, .inl ⟨HF.out, rfl⟩⟩
          · by_cases h40 : last + d + 1 < 1099511627776
            · have HF : Hid (rdA m (last + d + 1) (acc ++ [last + d + 1]) (at_ + k2) (bs.drop (at_ + k2)) = R) := by
                have := HP.out
                rw [rd_go hnum h40, List.drop_drop] at this
                exact this
              have HK2 := hid hkl2
              obtain ⟨X, hX⟩ : ∃ X : Int, last + ((d : Int) + 1) = X := ⟨_, rfl⟩
              have hX2 : last + (d : Int) + 1 = X := by omega
              rw [hX2] at HF h40
              obtain ⟨g, cap, w3, Hr, hown3, hon3⟩ := own_num HO2.out (Nat.le_trans (by have := HU2.out.b2.lt; omega) (Nat.le_refl _)) (by have := HAl.out; omega) X
              have HE := hid hown3
              have HU3 := hid (HU2.out.more hon3 (fun j e => (HO2.out.lt j e).1))
              have dX : decide (1099511627776 ≤ X) = false := by simp; omega
              clear hnum hkl2 hown3 hon3
              go_wp2_with (at_builtin; refine wpList_append_run rfl _ _ _ rfl rfl rfl Hr ?_)
              go_roundw
              case rel => exact ⟨i + 1, at_ + k2, X, acc ++ [X], by omega, by go_num, rfl, by omega, h40, by have := HAl.out; simp; omega, HK2.out, HU3.out, HE.out, by rw [show cnt - (i + 1) = m by have := HM.out; omega]; exact HF.out⟩
              case measure => simp [intOf]; omega
            · have HF : Hid (R = none) := by
                have := HP.out
                rw [rd_high hnum h40] at this
                exact this.symm
              obtain ⟨X, hX⟩ : ∃ X : Int, last + ((d : Int) + 1) = X := ⟨_, rfl⟩
              have dX : decide (1099511627776 ≤ X) = true := by simp; omega
              clear hnum hkl2
              go_wp2_with fail
              go_ret3
              exact ⟨HU2.out.kept, .inl ⟨HF.out, rfl⟩⟩
        · have e0 : cnt - i = 0 := by omega
          rw [e0, rdA] at hP
          have hc2 := hU.b2.cell 0 rfl
          have HP := hid hP
          clear hU ho hat hP hal e0
          go_wp2_with fail
          go_quiet (fail)
          have K0 : Kept wr (wr.drewN nq) := kept_drewN (Only.refl _ _) nq
          generalize wr.drewN nq = wq at K0 ⊢
          clear nq
          have HK := hid (HU.out.kept.trans K0 (fun _ _ f => f))
          have HOq := hid (own_base (own_only HO.out K0 (fun _ _ f => f)) (b' := w.heap.size) (by omega))
          clear K0
          go_wp2_with fail
          go_ret3
          exact ⟨HK.out, .inr ⟨_, acc, at_, HP.out.symm, rfl, HOq.out⟩⟩
    · have HF : Hid (R = none) := by
        have := HR.out
        unfold readR at this
        rw [hnum] at this
        rw [← this]
        exact if_neg hc
      clear hnum hkl
      go_wp2_with fail
      go_ret3
      exact ⟨HU1.out.kept, .inl ⟨HF.out, rfl⟩⟩

/-- What Get tells, by what stands there. -/
theorem got_cases (bs : List UInt8) : (numB bs = none ∧ ((getA bs 0 0 = (0, 0, 5)) ∨ ∃ (u k : Nat) (N : Int), getA bs 0 0 = (u, k, 0) ∧ wrap64 (u : Int) = N ∧ (N < 0 ∨ 1099511627776 ≤ N))) ∨ (∃ d k : Nat, numB bs = some (d, k) ∧ getA bs 0 0 = (d, k, 0) ∧ wrap64 (d : Int) = (d : Int) ∧ d < 1099511627776 ∧ k ≤ bs.length) := by
  rcases getA_cases bs 0 0 (by simp) (by omega) with hg | ⟨u, k, hg, hu, hk⟩
  · left
    refine ⟨?_, .inl hg⟩
    unfold numB
    rw [hg]
    rfl
  · by_cases h40 : u < 1099511627776
    · right
      refine ⟨u, k, ?_, hg, by unfold wrap64; omega, h40, by omega⟩
      unfold numB
      rw [hg]
      simp [h40]
    · left
      refine ⟨?_, .inr ⟨u, k, _, hg, rfl, by unfold wrap64; omega⟩⟩
      unfold numB
      rw [hg]
      simp [h40]

set_option maxRecDepth 100000 in
set_option maxHeartbeats 6400000 in
theorem rread_any (w : World) (v : Value) (bs : List UInt8) (hs : BSrc w v bs) (hl : bs.length ≤ 1000000) :
    Calls Tryz.prog 40 #[v] w (UnpPost w (readR bs)) := by
  have HG := hid (fun (W : World) (x : Value) (l : List UInt8) (h : SrcOf W x (l.map bV)) (h2 : l.length ≤ 1000000) => U.rget_any W x l h h2)
  have HRs := hid (fun (W : World) (x : Value) (l : List Int) (h : SrcOf W x (l.map (Value.int .i64))) (h2 : l.length ≤ 9223372036854775807) => rrising_any W x l h h2)
  have HS := hid hs
  obtain ⟨a, c, rfl⟩ : ∃ a c, v = .slice a bs.length c := ⟨_, _, hs.2.choose_spec.choose_spec.1⟩
  obtain ⟨R, hR⟩ : ∃ R, readR bs = R := ⟨_, rfl⟩
  have HR := hid hR
  rw [hR]
  obtain ⟨L, hL⟩ : ∃ L, bs.length = L := ⟨_, rfl⟩
  have HL := hid hL
  rw [hL] at hl HS ⊢
  clear hs hR hL
  unfold UnpPost
  rcases got_cases bs with ⟨hnum, hg⟩ | ⟨cnt, k, hnum, hg, hwr, hc40, hkl⟩
  · have HF : Hid (R = none) := by
      have := HR.out
      unfold readR at this
      rw [hnum] at this
      exact this.symm
    rcases hg with hg | ⟨u, k, N, hg, hN, hN2⟩
    · have HC := hid (HG.out w _ bs HS.out.1 (by have := HL.out; omega))
      rw [hg, U.got_err] at HC
      clear hg hnum
      go_enter Tryz.func40, Tryz.ntmps40
      go_wp2_with fail
      refine HC.out.mono ?_
      rintro e w1 ⟨rfl, hw⟩
      replace hw := hw.symm
      subst hw
      go_wp2_with fail
      go_ret3
      exact ⟨Only.refl _ _, .inl ⟨HF.out, rfl⟩⟩
    · have HC := hid (HG.out w _ bs HS.out.1 (by have := HL.out; omega))
      rw [hg, U.got] at HC
      simp only [hN] at HC
      clear hg hnum hN
      have fin : decide (N < 0) = true ∨ (decide (N < 0) = false ∧ decide (10000 < N) = true) := by
        rcases hN2 with h | h
        · exact .inl (by simp; omega)
        · exact .inr ⟨by simp; omega, by simp; omega⟩
      clear hN2
      rcases fin with d1 | ⟨d1, d2⟩ <;>
      · go_enter Tryz.func40, Tryz.ntmps40
        go_wp2_with fail
        refine HC.out.mono ?_
        rintro e w1 ⟨rfl, hw⟩
        replace hw := hw.symm
        subst hw
        go_wp2_with fail
        go_ret3
        exact ⟨Only.refl _ _, .inl ⟨HF.out, rfl⟩⟩
  · have HC := hid (HG.out w _ bs HS.out.1 (by have := HL.out; omega))
    rw [hg, U.got] at HC
    simp only [hwr] at HC
    have d1 : decide ((cnt : Int) < 0) = false := by simp
    by_cases hc : cnt ≤ 10000
    · have HR2 : Hid (rdA cnt (-1) [] k (bs.drop k) = R) := by
        have := HR.out
        unfold readR at this
        rw [hnum] at this
        rw [← this]
        exact (if_pos hc).symm
      have d2 : decide (10000 < (cnt : Int)) = false := by simp; omega
      have HKL : Hid (k ≤ L) := by
        have := HL.out
        show _ ≤ _
        omega
      clear hnum hkl hg hwr
      go_enter Tryz.func40, Tryz.ntmps40
      go_wp2_with fail
      refine HC.out.mono ?_
      rintro e w1 ⟨rfl, hw⟩
      replace hw := hw.symm
      subst hw
      clear HC
      go_wp2_with fail
      go_loopw [6, 8, 9, 10, 11, 12, 13] (fun q p t s _ _ _ wr => ∃ (i at_ : Nat) (last : Int) (acc : List Int), i ≤ cnt ∧ s = .int .i64 (i : Int) ∧ q = .int .i64 (at_ : Int) ∧ t = .int .i64 last ∧ -1 ≤ last ∧ last ≤ (i : Int) * 1099511627776 - 1 ∧ acc.length = i ∧ at_ ≤ L ∧ Kept w wr ∧ wr.ownsRow w.heap.size 3 1 p acc.length (acc.map (Value.int .i64)) ∧ ((last < 1099511627776 ∧ (∀ x, upB (-1) (acc ++ x) = upB last x) ∧ rdA (cnt - i) last acc at_ (bs.drop at_) = R) ∨ ((∀ x, upB (-1) (acc ++ x) = false) ∧ R = none))) (fun _ _ _ s _ _ _ _ => cnt - (intOf s).toNat)
      case atStart => exact ⟨0, k, -1, [], by omega, rfl, rfl, rfl, by omega, by omega, rfl, HKL.out, Only.refl _ _, World.ownsRow_nil _ _ _ _, .inl ⟨by omega, fun _ => rfl, HR2.out⟩⟩
      case round =>
        obtain ⟨i, at_, last, acc, hi, rfl, rfl, rfl, hl1, hl2, hal, hat, kr, ho, hP⟩ := hrel
        have HK := hid kr
        have HO := hid ho
        have HAl := hid hal
        have HP := hid hP
        by_cases hlt : i < cnt
        · obtain ⟨m, hm⟩ : ∃ m, cnt - i = m + 1 := ⟨cnt - i - 1, by omega⟩
          have HM := hid hm
          obtain ⟨a', c', hr, hb⟩ := (HS.out.stay kr).tail (lo := at_) (by have := HL.out; omega)
          have HC := hid (HG.out wr _ (bs.drop at_) hb.1 (by rw [List.length_drop]; have := HL.out; omega))
          rw [HL.out] at hr HC
          clear kr ho hal hP hm hb
          rcases got_cases (bs.drop at_) with ⟨hnum, hg⟩ | ⟨d, k2, hnum, hg, hwr, hd40, hkl⟩
          · have HF : Hid (R = none) := by
              rcases HP.out with ⟨_, _, h⟩ | ⟨_, h⟩
              · rw [HM.out, rd_none hnum] at h
                exact h.symm
              · exact h
            rcases hg with hg | ⟨u, k3, N, hg, hN, hN2⟩
            · rw [hg, U.got_err] at HC
              clear hg hnum
              go_wp2_with fail
              refine HC.out.mono ?_
              rintro e w2 ⟨rfl, hw⟩
              replace hw := hw.symm
              subst hw
              go_wp2_with fail
              go_ret3
              exact ⟨HK.out, .inl ⟨HF.out, rfl⟩⟩
            · rw [hg, U.got] at HC
              simp only [hN] at HC
              clear hg hnum hN
              have fin : decide (N < 0) = true ∨ (decide (N < 0) = false ∧ decide (1099511627776 ≤ N) = true) := by
                rcases hN2 with h | h
                · exact .inl (by simp; omega)
                · exact .inr ⟨by simp; omega, by simp; omega⟩
              clear hN2
              rcases fin with e1 | ⟨e1, e2⟩ <;>
              · go_wp2_with fail
                refine HC.out.mono ?_
                rintro e w2 ⟨rfl, hw⟩
                replace hw := hw.symm
                subst hw
                go_wp2_with fail
                go_ret3
                exact ⟨HK.out, .inl ⟨HF.out, rfl⟩⟩
          · rw [hg, U.got] at HC
            simp only [hwr] at HC
            have e1 : decide ((d : Int) < 0) = false := by simp
            have e2 : decide (1099511627776 ≤ (d : Int)) = false := by simp; omega
            obtain ⟨X, hX⟩ : ∃ X : Int, last + (d : Int) + 1 = X := ⟨_, rfl⟩
            have HF : Hid ((X < 1099511627776 ∧ (∀ x, upB (-1) ((acc ++ [X]) ++ x) = upB X x) ∧ rdA m X (acc ++ [X]) (at_ + k2) (bs.drop (at_ + k2)) = R) ∨ ((∀ x, upB (-1) ((acc ++ [X]) ++ x) = false) ∧ R = none)) := by
              rcases HP.out with ⟨p1, p2, p3⟩ | ⟨p1, p2⟩
              · rw [HM.out] at p3
                by_cases h40 : X < 1099511627776
                · refine .inl ⟨h40, fun x => ?_, ?_⟩
                  · rw [List.append_assoc, p2]
                    exact up_go (by omega) h40
                  · rw [rd_go hnum (by omega), hX, List.drop_drop] at p3
                    exact p3
                · refine .inr ⟨fun x => ?_, ?_⟩
                  · rw [List.append_assoc, p2]
                    exact up_high (by omega)
                  · rw [rd_high hnum (by omega)] at p3
                    exact p3.symm
              · exact .inr ⟨fun x => by rw [List.append_assoc]; exact p1 _, p2⟩
            obtain ⟨g, cap, w3, Hr, hown3, hon3⟩ := own_num HO.out HK.out.size (by have := HAl.out; omega) X
            have HE := hid hown3
            have HK3 : Hid (Kept w w3) := hid (HK.out.trans hon3 (fun q hq e => absurd hq (by have := (HO.out.lt q e).1; omega)))
            have HKk : Hid (at_ + k2 ≤ L) := by
              have := HL.out
              rw [List.length_drop] at hkl
              show _ ≤ _
              omega
            have hcn : at_ + k2 ≤ 1000000 := by
              have := HKk.out
              omega
            have hb9 : last ≤ 10001 * 1099511627776 := by omega
            have hX9 : X ≤ (i : Int) * 1099511627776 - 1 + 1099511627776 := by omega
            clear hnum hkl hg hwr hown3 hon3 HP
            go_wp2_with fail
            refine HC.out.mono ?_
            rintro e w2 ⟨rfl, hw⟩
            replace hw := hw.symm
            subst hw
            go_wp2_with (at_builtin; refine wpList_append_run rfl _ _ _ rfl rfl rfl Hr ?_)
            go_roundw
            case rel => exact ⟨i + 1, at_ + k2, X, acc ++ [X], by omega, by go_num, by go_num, rfl, by omega, by omega, by have := HAl.out; simp; omega, HKk.out, HK3.out, HE.out, by rw [show cnt - (i + 1) = m by have := HM.out; omega]; exact HF.out⟩
            case measure => simp [intOf]; omega
        · have e0 : cnt - i = 0 := by omega
          have HC := hid (HRs.out wr _ acc (own_src ho) (by omega))
          obtain ⟨B, hB⟩ : ∃ B, upB (-1) acc = B := ⟨_, rfl⟩
          rw [hB] at HC
          have HF : Hid ((B = true ∧ some (acc, at_) = R) ∨ (B = false ∧ R = none)) := by
            rcases hP with ⟨p1, p2, p3⟩ | ⟨p1, p2⟩
            · have := p2 []
              rw [List.append_nil, hB] at this
              rw [e0, rdA] at p3
              exact .inl ⟨this, p3⟩
            · have := p1 []
              rw [List.append_nil, hB] at this
              exact .inr ⟨this, p2⟩
          clear kr ho hat hP hal e0 hB HP
          cases B with
          | true =>
            go_wp2_with fail
            refine HC.out.mono ?_
            rintro e w2 ⟨rfl, k2⟩
            have HK2 := hid (HK.out.trans k2 (fun _ _ f => f))
            have HO2 := hid (own_only HO.out k2 (fun _ _ f => f))
            clear k2
            go_wp2_with fail
            go_ret3
            refine ⟨HK2.out, .inr ⟨_, acc, at_, ?_, rfl, HO2.out⟩⟩
            rcases HF.out with ⟨_, h⟩ | ⟨h, _⟩
            · exact h.symm
            · cases h
          | false =>
            go_wp2_with fail
            refine HC.out.mono ?_
            rintro e w2 ⟨rfl, k2⟩
            have HK2 := hid (HK.out.trans k2 (fun _ _ f => f))
            clear k2
            go_wp2_with fail
            go_ret3
            refine ⟨HK2.out, .inl ⟨?_, rfl⟩⟩
            rcases HF.out with ⟨h, _⟩ | ⟨_, h⟩
            · cases h
            · exact h
    · have HF : Hid (R = none) := by
        have := HR.out
        unfold readR at this
        rw [hnum] at this
        rw [← this]
        exact if_neg hc
      have d2 : decide (10000 < (cnt : Int)) = true := by simp; omega
      clear hnum hkl hg hwr
      go_enter Tryz.func40, Tryz.ntmps40
      go_wp2_with fail
      refine HC.out.mono ?_
      rintro e w1 ⟨rfl, hw⟩
      replace hw := hw.symm
      subst hw
      go_wp2_with fail
      go_ret3
      exact ⟨Only.refl _ _, .inl ⟨HF.out, rfl⟩⟩
end Go.Proofs.YteknpfldemgmnaaGreat.Po
