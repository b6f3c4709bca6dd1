/-
  The bytes of a list: Pack and the document's own.
-/
import Derived.Test.YtpbeenhaaaocpaaOchk
import Derived.Test.YtpbeenhaaaocpaaDlast
import Derived.Shelf.Abstract
import Derived.Handy
import Derived.WalkMore
namespace Go.Proofs.Ytpbeenhaaaocpaa.Po
open Go.RowKit Go.Proofs.Lys
set_option linter.unusedVariables false

theorem oper_appendH {P : Program} {w : World} {o : Oper} {a : Act} {K : Act → World → Prop} {Q : Exit → Act → World → Prop} (s x : Operand) (t : TypeId)
    (ho : o.op = .call { callee := .builtin .append, args := #[s, x], argTypes := #[t, t] }) {sv xv : Value} (hs : a.eval s = sv) (hx : a.eval x = xv) {v : Value} {w' : World}
    (hrun : Hid ((Builtin.append_ #[t, t] 0 #[sv, xv]).run P w = .ok v w')) (h : K (a.put o.dst v) w') : Oper.wp P o a w K Q := by
  have hr : (Builtin.append_ #[t, t] o.type #[sv, xv]).run P w = .ok v w' := hrun.out
  unfold Oper.wp execOp
  simp only [ho, resolve, invoke, builtin, Sem.run_bind, Sem.run_pure, Result.andThen_ok, List.map_toArray, List.map_cons, List.map_nil, hs, hx, hr]
  exact h

/-- The numbers that are left out ahead of each one. -/
def gapB : Int → List Int → List UInt8
  | _, [] => []
  | last, x :: t => putN (U.uN (x - last - 1)) ++ gapB x t
def packL (l : List Int) : List UInt8 := putN (U.uN (l.length : Int)) ++ gapB (-1) l
/-- What Pack tells. -/
def packR (l : List Int) : List UInt8 × Int := if 10000 < l.length then ([], 2) else if upB (-1) l then (packL l, 0) else ([], 1)
theorem put_ten (x : Int) : (putN (U.uN x)).length ≤ 10 := putN_ten (U.uN_lt x)
theorem gap_len : ∀ (l : List Int) (last : Int), (gapB last l).length ≤ 10 * l.length := by
  intro l
  induction l with
  | nil => intro last; simp [gapB]
  | cons x t ih =>
    intro last
    rw [gapB, List.length_append, List.length_cons]
    have := ih x
    have := put_ten (x - last - 1)
    omega
theorem pack_len (l : List Int) : (packL l).length ≤ 10 * l.length + 10 := by
  rw [packL, List.length_append]
  have := gap_len l (-1)
  have := put_ten (l.length : Int)
  omega

/-- Bytes that a box holds, in a block of their own. -/
structure Box (w : World) (B base : Nat) (v : Value) (bs : List UInt8) : Prop where
  box : Blk w B [v] 31
  own : w.ownsRow base 5 1 v bs.length (bs.map bV)
  apart : ∀ k, v.ownBlock = some k → k ≠ B
theorem Box.slice {w : World} {B base : Nat} {v : Value} {bs : List UInt8} (h : Box w B base v bs) : ∃ a c, v = .slice a bs.length c := own_slice h.own

theorem box_append {w w1 : World} {B base : Nat} {v pv : Value} {bs ps : List UInt8} (h : Box w B base v bs) (hb : base ≤ w.heap.size) (hl : bs.length ≤ 2000000) (k1 : Kept w w1) (hp : SrcOf w1 pv (ps.map bV)) (hpl : ps.length ≤ 10) :
    ∃ v' w2, Hid ((Builtin.append_ #[31, 31] 0 #[v, pv]).run Try.prog w1 = .ok v' w2) ∧ Blk w2 B [v] 31 ∧ w2.ownsRow base 5 1 v' (bs ++ ps).length ((bs ++ ps).map bV) ∧ (∀ k, v'.ownBlock = some k → k ≠ B) ∧ Only (fun k => v.ownBlock = some k) w w2 := by
  have ho1 := own_only h.own k1 (fun _ _ f => f)
  obtain ⟨v', w2, hrun, hown, hg, hat⟩ := append_src (P := Try.prog) Try.underlying31 Try.infoB rfl (by decide) ho1 hp (bytes_one ps) (by simp; omega) (Nat.le_trans hb k1.size)
  have hon : Only (fun k => v.ownBlock = some k) w w2 := (k1.mono (fun _ _ f => f.elim)).grown hg (fun k e _ => e)
  refine ⟨v', w2, hrun, Only.blk hon h.box (fun e => h.apart B e rfl), ?_, fun k hk => ?_, hon⟩
  · have e1 : (bs ++ ps).length = bs.length + (ps.map bV).length := by simp
    rw [e1, List.map_append]
    exact hown
  · rcases hat with e | e
    · rw [e] at hk
      exact h.apart k hk
    · rw [e] at hk
      cases hk
      have := h.box.lt
      have := k1.size
      omega
theorem Box.stored {w2 : World} {B base : Nat} {v v' : Value} {bs' : List UInt8} (h1 : Blk w2 B [v] 31) (h2 : w2.ownsRow base 5 1 v' bs'.length (bs'.map bV)) (h3 : ∀ k, v'.ownBlock = some k → k ≠ B) : Box (w2.setCell ⟨B, 0, none⟩ v') B base v' bs' := by
  refine ⟨h1.set 0 v', ?_, h3⟩
  exact own_block h2 (fun k hk => Below.heap_setCell w2 _ _ k (h3 k hk))

set_option maxRecDepth 100000 in
set_option maxHeartbeats 1600000 in
theorem put1_any (w : World) (x : Int) (B base : Nat) (v : Value) (bs : List UInt8) (h : Box w B base v bs) (hb : base ≤ w.heap.size) (hl : bs.length ≤ 2000000) :
    Calls Try.prog 27 #[.int .i64 x, .pointer (some ⟨B, 0, none⟩)] w fun e w' => e = .returned (.tuple #[]) ∧ ∃ v', Box w' B base v' (bs ++ putN (U.uN x)) ∧ Only (fun k => k = B ∨ v.ownBlock = some k) w w' := by
  have hcell := h.box.cell 0 rfl
  obtain ⟨a1, c1, rfl⟩ := h.slice
  have HX := hid h
  have HP := hid (fun W => U.put_any W x)
  have HPl := hid (put_ten x)
  generalize putN (U.uN x) = ps at HP HPl ⊢
  clear h
  go_enter Try.func27, Try.ntmps27
  go_wp2_with fail
  refine wp_region_noPanic ?_
  refine wp_region_last (L := 4) (S := fun w' => w'.cell? ⟨B, 0, none⟩ = some (.slice a1 bs.length c1)) (by kernel_rfl) ?_
  have hS : (fun w' : World => w'.cell? ⟨B, 0, none⟩ = some (.slice a1 bs.length c1)) w.drew := hcell
  refine wpAnyL_take (i := 0) (v := .slice a1 bs.length c1) rfl (by kernel_rfl) (by kernel_rfl) (by kernel_rfl) (by kernel_rfl) (by kernel_rfl) (fun _ _ _ h => h) (Or.inl ⟨by rfl, ?_⟩) hS ?_
  · (intro w' hSw; go_simp)
  go_frame
  refine wpAnyL_one (i := 1) (by kernel_rfl) rfl rfl ?_
  go_simp
  (try go_frame)
  refine wpAnyL_one (i := 2) (by kernel_rfl) rfl rfl ?_
  go_simp
  refine (HP.out _).mono ?_
  rintro e w1 ⟨pv, rfl, hpo, k1⟩
  have k1' : Kept w w1 := ((Only.refl _ w).drew).trans k1 (fun _ _ f => f)
  have hc1 := (Only.blk k1' HX.out.box (fun f => f)).cell 0 rfl
  refine ⟨hc1, ?_⟩
  obtain ⟨v', w2, Hr, hB2, ho2, ha2, hon⟩ := box_append HX.out hb hl k1' (own_src hpo) HPl.out
  obtain ⟨a3, c3, rfl⟩ := own_slice ho2
  have hc2 := hB2.cell 0 rfl
  have hf2 := hB2.frozen 0
  have HF := hid (Box.stored hB2 ho2 ha2)
  have HO := hid ((hon.mono (O' := fun k => k = B ∨ (Value.slice a1 bs.length c1).ownBlock = some k) (fun _ _ e => .inr e)).setCell (p := ⟨B, 0, none⟩) (fun _ => .inl rfl) (.slice a3 (bs ++ ps).length c3))
  clear k1 k1' hpo hc1 hB2 ho2 ha2 hon hS
  generalize (bs ++ ps).length = N at Hr HF HO
  refine wpAnyL_one (i := 3) (by kernel_rfl) rfl rfl (oper_appendH _ _ _ rfl rfl rfl Hr ?_)
  refine ⟨hc2, ?_⟩
  go_frame
  refine wpAnyL_last (by kernel_rfl) (by kernel_rfl) rfl rfl ?_
  go_simp
  refine NoPanic.normal ?_
  go_wp2_with fail
  go_returns
  exact ⟨rfl, _, HF.out, HO.out⟩

/-- What Pack leaves. -/
def PackPost (w : World) (l : List Int) (e : Ending) (w' : World) : Prop :=
  ∃ u, e = .returned (.tuple #[u, .int .i64 (packR l).2]) ∧ w'.ownsRow w.heap.size 5 1 u (packR l).1.length ((packR l).1.map bV) ∧ Kept w w'
theorem pack_long {l : List Int} (h : 10000 < l.length) : packR l = ([], 2) := by
  unfold packR
  rw [if_pos h]
theorem pack_bad {l : List Int} (h : ¬ 10000 < l.length) (h2 : upB (-1) l = false) : packR l = ([], 1) := by
  unfold packR
  rw [if_neg h, h2]
  rfl
theorem pack_good {l : List Int} (h : ¬ 10000 < l.length) (h2 : upB (-1) l = true) : packR l = (packL l, 0) := by
  unfold packR
  rw [if_neg h, h2]
  rfl
theorem src_at' {w : World} {av : Option Addr} {L c : Nat} {l : List Int} (h : SrcOf w (.slice av L c) (l.map (Value.int .i64))) (hL : l.length = L) (i : Nat) (hi : i < L) :
    ∃ b o, av = some ⟨b, o, none⟩ ∧ w.cell? ⟨b, o + i, none⟩ = some (.int .i64 (l[i]'(by omega))) := by
  rcases h.shape with ⟨hn, _⟩ | ⟨_, b, o, c', hv, hc⟩
  · have : l = [] := List.map_eq_nil_iff.1 hn
    subst this
    simp at hL
    omega
  · simp only [Value.slice.injEq] at hv
    exact ⟨b, o, hv.1, hc i _ (by rw [List.getElem?_map, List.getElem?_eq_getElem (by omega)]; rfl)⟩

set_option maxRecDepth 100000 in
set_option maxHeartbeats 3200000 in
theorem pack_any (w : World) (v : Value) (l : List Int) (hs : SrcOf w v (l.map (Value.int .i64))) (hl : l.length ≤ 100000) :
    Calls Try.prog 18 #[v] w (PackPost w l) := by
  have C1 := hid (check_any w v l hs (by omega))
  obtain ⟨a1, c1, rfl⟩ := hs.len
  by_cases h1 : 10000 < l.length
  · show Calls _ _ _ _ (PackPost w l)
    unfold PackPost
    rw [pack_long h1]
    rw [List.length_map] at hs C1 ⊢
    obtain ⟨L, hL⟩ : ∃ L, l.length = L := ⟨_, rfl⟩
    rw [hL] at h1 hl ⊢
    clear C1 hL hs
    go_enter Try.func18, Try.ntmps18
    go_wp2
    go_ret2
    exact ⟨_, rfl, World.ownsRow_nil _ _ _ _, Only.refl _ _⟩
  · cases h2 : upB (-1) l with
    | false =>
      show Calls _ _ _ _ (PackPost w l)
      unfold PackPost
      rw [pack_bad h1 h2]
      rw [h2] at C1
      rw [List.length_map] at hs C1 ⊢
      obtain ⟨L, hL⟩ : ∃ L, l.length = L := ⟨_, rfl⟩
      rw [hL] at h1 hl C1 ⊢
      clear hL hs h2
      go_enter Try.func18, Try.ntmps18
      go_wp2_with fail
      refine C1.out.mono ?_
      rintro e w1 ⟨rfl, hw⟩
      replace hw := hw.symm
      subst hw
      go_wp2_with fail
      go_ret2
      exact ⟨_, rfl, World.ownsRow_nil _ _ _ _, Only.refl _ _⟩
    | true =>
      show Calls _ _ _ _ (PackPost w l)
      unfold PackPost
      rw [pack_good h1 h2]
      rw [h2] at C1
      rw [List.length_map] at hs C1 ⊢
      have HPL := hid (pack_len l)
      have HU := hid h2
      obtain ⟨L, hL⟩ : ∃ L, l.length = L := ⟨_, rfl⟩
      obtain ⟨R, hR⟩ : ∃ R, packL l = R := ⟨_, rfl⟩
      have HR0 : Hid ([] ++ putN (U.uN (L : Int)) ++ gapB (-1) l = R) := by rw [← hR, ← hL]; rfl
      have HS := hid hs
      rw [hL] at h1 hl C1 HS HPL ⊢
      rw [hR] at HPL ⊢
      have HL := hid hL
      have eg : ∀ args w, (callFunc 27 args).run Try.prog w = .ok (.enter 27 args) w := enters_of Try.func27 (by kernel_rfl) rfl
      have hB0 : Box (w.alloc (.cells #[.slice none 0 0] 31)) w.heap.size w.heap.size (.slice none 0 0) [] := ⟨Blk.new w [.slice none 0 0] _, World.ownsRow_nil _ _ _ _, fun k hk => by cases hk⟩
      have HB0 := hid hB0
      have HK0 := hid ((Only.refl (fun _ => False) w).alloc (.cells #[.slice none 0 0] 31))
      clear hL hR hs h2 hB0
      go_enter Try.func18, Try.ntmps18
      go_wp2_with fail
      refine C1.out.mono ?_
      rintro e w1 ⟨rfl, hw⟩
      replace hw := hw.symm
      subst hw
      clear C1
      go_wp2_with fail
      generalize hw0 : w.alloc (.cells #[.slice none 0 0] 31) = w0 at HB0 HK0 ⊢
      refine (put1_any w0 (L : Int) _ _ _ _ HB0.out HK0.out.size (by simp)).mono ?_
      rintro e w1 ⟨rfl, v1, hB1, hon1⟩
      have HB1 := hid hB1
      have HK1 : Hid (Kept w w1) := hid (HK0.out.trans hon1 (fun q hq e => by rcases e with e | e; omega; cases e))
      clear hB1 hon1 hw0 HB0 HK0
      go_wp2_with fail
      go_loopw [6, 8, 22] (fun t _ s wr => ∃ (k : Nat) (last : Int) (bs : List UInt8) (bv : Value), k ≤ L ∧ t = .int .i64 last ∧ s = .int .i64 (k : Int) ∧ -1 ≤ last ∧ upB last (l.drop k) = true ∧ Box wr w.heap.size w.heap.size bv bs ∧ Kept w wr ∧ bs ++ gapB last (l.drop k) = R) (fun _ _ s _ => L - (intOf s).toNat)
      case atStart => exact ⟨0, -1, _, _, by omega, rfl, rfl, by omega, HU.out, HB1.out, HK1.out, HR0.out⟩
      case round =>
        obtain ⟨k, last, bs, bv, hk, rfl, rfl, hlast, hup, hB, kr, hP⟩ := hrel
        have HB := hid hB
        have HK := hid kr
        by_cases hlt : k < L
        · have hkl : k < l.length := by have := HL.out; omega
          obtain ⟨b1, o1, rfl, hcell⟩ := src_at' (HS.out.stay kr) HL.out k hlt
          rw [List.drop_eq_getElem_cons hkl] at hup hP
          obtain ⟨x, hx⟩ : ∃ x, l[k] = x := ⟨_, rfl⟩
          rw [hx] at hcell hup hP
          obtain ⟨u1, u2, u3⟩ := up_cons.1 hup
          rw [gapB, ← List.append_assoc] at hP
          have hbl : bs.length ≤ 2000000 := by
            have h1 := congrArg List.length hP
            rw [List.length_append, List.length_append] at h1
            have := HPL.out
            omega
          have HU3 := hid u3
          have HP := hid hP
          have HC := hid (put1_any wr (x - last - 1) _ _ _ _ hB kr.size hbl)
          clear hx hup u3 hP hB kr hbl
          go_wp2_with fail
          refine HC.out.mono ?_
          rintro e w2 ⟨rfl, v2, hB2, hon2⟩
          have HB2 := hid hB2
          have HK2 : Hid (Kept w w2) := hid (HK.out.trans hon2 (fun q hq e => by
            rcases e with e | e
            · omega
            · have := (HB.out.own.lt q e).1
              omega))
          clear hB2 hon2
          go_wp2_with fail
          go_roundw
          case rel => exact ⟨k + 1, x, _, _, by omega, rfl, by go_num, by omega, HU3.out, HB2.out, HK2.out, HP.out⟩
          case measure => simp [intOf]; omega
        · have e0 : l.drop k = [] := List.drop_of_length_le (by have := HL.out; omega)
          rw [e0, gapB, List.append_nil] at hP
          subst hP
          have hc := hB.box.cell 0 rfl
          obtain ⟨a2, c2, rfl⟩ := hB.slice
          clear hup hB kr e0
          go_wp2_with fail
          go_ret2
          exact ⟨_, rfl, HB.out.own, HK.out⟩

set_option maxRecDepth 100000 in
set_option maxHeartbeats 3200000 in
theorem rpack_any (w : World) (v : Value) (l : List Int) (hs : SrcOf w v (l.map (Value.int .i64))) (hl : l.length ≤ 100000) :
    Calls Try.prog 19 #[v] w (PackPost w l) := by
  have C1 := hid (rrising_any w v l hs (by omega))
  obtain ⟨a1, c1, rfl⟩ := hs.len
  by_cases h1 : 10000 < l.length
  · show Calls _ _ _ _ (PackPost w l)
    unfold PackPost
    rw [pack_long h1]
    rw [List.length_map] at hs C1 ⊢
    obtain ⟨L, hL⟩ : ∃ L, l.length = L := ⟨_, rfl⟩
    rw [hL] at h1 hl ⊢
    clear C1 hL hs
    go_enter Try.func19, Try.ntmps19
    go_wp2
    go_ret2
    exact ⟨_, rfl, World.ownsRow_nil _ _ _ _, Only.refl _ _⟩
  · cases h2 : upB (-1) l with
    | false =>
      show Calls _ _ _ _ (PackPost w l)
      unfold PackPost
      rw [pack_bad h1 h2]
      rw [h2] at C1
      rw [List.length_map] at hs C1 ⊢
      obtain ⟨L, hL⟩ : ∃ L, l.length = L := ⟨_, rfl⟩
      rw [hL] at h1 hl C1 ⊢
      clear hL hs h2
      go_enter Try.func19, Try.ntmps19
      go_wp2_with fail
      refine C1.out.mono ?_
      rintro e w1 ⟨rfl, k1⟩
      go_wp2_with fail
      go_ret2
      exact ⟨_, rfl, World.ownsRow_nil _ _ _ _, k1⟩
    | true =>
      show Calls _ _ _ _ (PackPost w l)
      unfold PackPost
      rw [pack_good h1 h2]
      rw [h2] at C1
      rw [List.length_map] at hs C1 ⊢
      have HPL := hid (pack_len l)
      have HU := hid h2
      obtain ⟨L, hL⟩ : ∃ L, l.length = L := ⟨_, rfl⟩
      obtain ⟨R, hR⟩ : ∃ R, packL l = R := ⟨_, rfl⟩
      have HR0 : Hid (putN (U.uN (L : Int)) ++ gapB (-1) l = R) := by rw [← hR, ← hL]; rfl
      have HS := hid hs
      rw [hL] at h1 hl C1 HS HPL ⊢
      rw [hR] at HPL ⊢
      have HL := hid hL
      clear hL hR hs h2
      go_enter Try.func19, Try.ntmps19
      go_wp2_with fail
      refine C1.out.mono ?_
      rintro e w1 ⟨rfl, k1⟩
      have HK1 := hid k1
      clear C1 k1
      go_wp2_with fail
      refine (U.rput_any w1 (L : Int)).mono ?_
      rintro e w2 ⟨v2, rfl, ho2, k2⟩
      have HK2 := hid (HK1.out.trans k2 (fun _ _ f => f))
      have HO2 := hid (own_base ho2 HK1.out.size)
      clear k2 ho2 HK1
      go_wp2_with fail
      go_loopw [5, 6, 7] (fun t s _ wr => ∃ (k : Nat) (bs : List UInt8), k ≤ L ∧ s = .int .i64 (k : Int) ∧ upB (if k = 0 then -1 else l.getD (k - 1) 0) (l.drop k) = true ∧ (0 < k → 0 ≤ l.getD (k - 1) 0) ∧ wr.ownsRow w.heap.size 5 1 t bs.length (bs.map bV) ∧ Kept w wr ∧ bs ++ gapB (if k = 0 then -1 else l.getD (k - 1) 0) (l.drop k) = R) (fun _ s _ _ => L - (intOf s).toNat)
      case atStart => exact ⟨0, _, by omega, rfl, HU.out, fun h => absurd h (by omega), HO2.out, HK2.out, HR0.out⟩
      case round =>
        obtain ⟨k, bs, hk, rfl, hup, hpos, ho, kr, hP⟩ := hrel
        have HO := hid ho
        have HK := hid kr
        by_cases hlt : k < L
        · have hkl : k < l.length := by have := HL.out; omega
          obtain ⟨b1, o1, rfl, hcell⟩ := src_at' (HS.out.stay kr) HL.out k hlt
          rw [List.drop_eq_getElem_cons hkl] at hup hP
          obtain ⟨x, hx⟩ : ∃ x, l[k] = x := ⟨_, rfl⟩
          have HN : Hid (l.getD (k + 1 - 1) 0 = x) := by show _ = _; simp [List.getD_eq_getElem?_getD, List.getElem?_eq_getElem hkl, hx]
          rw [hx] at hcell hup hP
          obtain ⟨u1, u2, u3⟩ := up_cons.1 hup
          rw [gapB, ← List.append_assoc] at hP
          have hbl : bs.length ≤ 2000000 := by
            have h1 := congrArg List.length hP
            rw [List.length_append, List.length_append] at h1
            have := HPL.out
            omega
          have HU3 := hid u3
          by_cases h0 : k = 0
          · subst h0
            rw [if_pos rfl] at u1 hP
            rw [show x - -1 - 1 = x by omega] at hP
            have HP := hid hP
            simp only [Nat.add_zero] at hcell
            clear hx hup u3 hP ho kr hpos
            go_wp2_with fail
            refine (U.rput_any wr x).mono ?_
            rintro e w3 ⟨v3, rfl, ho3, k3⟩
            have ho3' := own_only HO.out k3 (fun _ _ f => f)
            obtain ⟨v', w4, hrun, hown, hg, hat⟩ := append_src (P := Try.prog) Try.underlying31 Try.infoB rfl (by decide) ho3' (own_src ho3) (bytes_one _) (by have := put_ten x; simp; omega) (Nat.le_trans HK.out.size k3.size)
            have Hr := hid hrun
            have HE : Hid (w4.ownsRow w.heap.size 5 1 v' (bs ++ putN (U.uN x)).length ((bs ++ putN (U.uN x)).map bV)) := by
              refine hid ?_
              rw [List.map_append, List.length_append]
              simpa using hown
            have HK4 : Hid (Kept w w4) := hid ((HK.out.trans k3 (fun _ _ f => f)).grown hg (fun q e hq => by have := (ho3'.lt q e).1; omega))
            clear ho3 k3 ho3' hrun hown hg hat
            go_wp2_with (at_builtin; refine wpList_append_run rfl _ _ _ rfl rfl rfl Hr ?_)
            go_roundw
            case rel =>
              refine ⟨1, _, by omega, rfl, ?_, fun _ => ?_, HE.out, HK4.out, ?_⟩
              · rw [if_neg (by omega), HN.out]
                exact HU3.out
              · rw [HN.out]
                omega
              · rw [if_neg (by omega), HN.out]
                exact HP.out
            case measure => simp [intOf]; omega
          · obtain ⟨k', rfl⟩ : ∃ k', k = k' + 1 := ⟨k - 1, by omega⟩
            have hkl' : k' < l.length := by omega
            have hcell' := int_cells (HS.out.stay kr) k' hkl'
            obtain ⟨y, hy⟩ : ∃ y, l[k'] = y := ⟨_, rfl⟩
            have hy2 : l.getD (k' + 1 - 1) 0 = y := by simp [List.getD_eq_getElem?_getD, List.getElem?_eq_getElem hkl', hy]
            rw [hy] at hcell'
            rw [if_neg h0, hy2] at u1 hP
            rw [hy2] at hpos
            have hy0 := hpos (by omega)
            have HP := hid hP
            clear hx hy hy2 hup u3 hP ho kr hpos
            go_wp2_with fail
            go_quiet (fail)
            have K0 : Kept wr (wr.drewN nq) := kept_drewN (Only.refl _ _) nq
            generalize wr.drewN nq = wq at K0 ⊢
            clear nq
            go_wp2_with fail
            refine (U.rput_any wq (x - y - 1)).mono ?_
            rintro e w3 ⟨v3, rfl, ho3, k3⟩
            have ho3' := own_only (own_only HO.out K0 (fun _ _ f => f)) k3 (fun _ _ f => f)
            obtain ⟨v', w4, hrun, hown, hg, hat⟩ := append_src (P := Try.prog) Try.underlying31 Try.infoB rfl (by decide) ho3' (own_src ho3) (bytes_one _) (by have := put_ten (x - y - 1); simp; omega) (Nat.le_trans (Nat.le_trans HK.out.size K0.size) k3.size)
            have Hr := hid hrun
            have HE : Hid (w4.ownsRow w.heap.size 5 1 v' (bs ++ putN (U.uN (x - y - 1))).length ((bs ++ putN (U.uN (x - y - 1))).map bV)) := by
              refine hid ?_
              rw [List.map_append, List.length_append]
              simpa using hown
            have HK4 : Hid (Kept w w4) := hid (((HK.out.trans K0 (fun _ _ f => f)).trans k3 (fun _ _ f => f)).grown hg (fun q e hq => by have := (ho3'.lt q e).1; omega))
            clear ho3 k3 ho3' hrun hown hg hat K0
            go_wp2_with (at_builtin; refine wpList_append_run rfl _ _ _ rfl rfl rfl Hr ?_)
            go_roundw
            case rel =>
              refine ⟨k' + 2, _, by omega, by go_num, ?_, fun _ => ?_, HE.out, HK4.out, ?_⟩
              · rw [if_neg (by omega), show k' + 2 - 1 = k' + 1 + 1 - 1 by omega, HN.out]
                exact HU3.out
              · rw [show k' + 2 - 1 = k' + 1 + 1 - 1 by omega, HN.out]
                omega
              · rw [if_neg (by omega), show k' + 2 - 1 = k' + 1 + 1 - 1 by omega, HN.out]
                exact HP.out
            case measure => simp [intOf]; omega
        · have e0 : l.drop k = [] := List.drop_of_length_le (by have := HL.out; omega)
          rw [e0, gapB, List.append_nil] at hP
          subst hP
          clear hup ho kr e0 hpos
          go_wp2_with fail
          go_ret2
          exact ⟨_, rfl, HO.out, HK.out⟩
end Go.Proofs.Ytpbeenhaaaocpaa.Po
