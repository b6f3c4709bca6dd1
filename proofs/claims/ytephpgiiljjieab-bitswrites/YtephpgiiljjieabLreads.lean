/-
  The walk of the law BitsReads.
-/
import Derived.Test.YtephpgiiljjieabBlaw
namespace Go.Proofs.Ytephpgiiljjieab
open Go.RowKit Go.Proofs.Lys
set_option linter.unusedVariables false

theorem xor_byte (y : UInt8) : bits .xor .u8 (y.toNat : Int) 255 = (((UInt8.ofNat (y.toNat ^^^ 255)).toNat : Nat) : Int) := by
  rw [show (255 : Int) = ((255 : Nat) : Int) from rfl, u8_xor_nat _ _ (UInt8.toNat_lt y) (by decide), UInt8.toNat_ofNat', Nat.mod_eq_of_lt (Nat.xor_lt_two_pow (n := 8) (UInt8.toNat_lt y) (by decide))]

/-- A row of bytes: one more is turned. -/
theorem own_turn {w : World} {base g n cap k : Nat} {ys : List UInt8} (h : w.ownsRow base 5 1 (.slice (some ⟨g, 0, none⟩) n cap) n (ys.map bV)) (hk : k < ys.length) :
    w.cell? ⟨g, k, none⟩ = some (.int .u8 ((ys[k].toNat : Nat) : Int)) ∧ w.frozen? ⟨g, k, none⟩ = false ∧
    (w.setCell ⟨g, k, none⟩ (.int .u8 (((UInt8.ofNat (ys[k].toNat ^^^ 255)).toNat : Nat) : Int))).ownsRow base 5 1 (.slice (some ⟨g, 0, none⟩) n cap) n ((ys.set k (UInt8.ofNat (ys[k].toNat ^^^ 255))).map bV) := by
  have hn := own_len h
  rw [List.length_map] at hn
  refine ⟨?_, h.frozenAt k, ?_⟩
  · rw [h.cellAt k (by omega), List.getElem?_map, List.getElem?_eq_getElem hk]
    rfl
  · rw [List.map_set]
    exact (h.stored k _).1

theorem Blk.drewN {w : World} {b : Nat} {vs : List Value} {T : TypeId} (h : Blk w b vs T) (n : Nat) : Blk (w.drewN n) b vs T := by
  induction n with
  | zero => exact h
  | succ n ih => exact ih
theorem Calls.quiet_of_drew {P : Program} {f : FuncId} {args : Array Value} {w : World} {n : Nat} {v : Value}
    (h : Calls P f args (w.drewN n) fun e w' => e = .returned v ∧ w' = (w.drewN n).drew) : Calls P f args (w.drewN n) fun e w'' => e = .returned v ∧ ∃ m, w'' = w.drewN m :=
  h.mono fun _ _ ⟨he, hm⟩ => ⟨he, n + 1, by rw [hm]; rfl⟩
theorem Kept.drewN {w w' : World} (h : Kept w w') (n : Nat) : Kept w (w'.drewN n) := by
  exact ⟨h.os, h.tape, h.output, h.size, h.block⟩

/-- Both readers answer the same. -/
theorem gets (bs : List UInt8) (N : Int) (t : Nat) (ht : t ≤ 8 * bs.length) : ∃ (X E : Int) (t' : Nat), t' ≤ 8 * bs.length ∧
    (∀ w b v, RdAt w b v bs t → Calls Try.prog 27 #[.pointer (some ⟨b, 0, none⟩), .int .i64 N] w fun e w' => e = .returned (.tuple #[.int .i64 X, .int .i64 E]) ∧ Only (· = b) w w' ∧ RdAt w' b v bs t') ∧
    (∀ w b v, RrAt w b v (unpackL bs) t → Calls Try.prog 28 #[.pointer (some ⟨b, 0, none⟩), .int .i64 N] w fun e w' => e = .returned (.tuple #[.int .i64 X, .int .i64 E]) ∧ Only (· = b) w w' ∧ RrAt w' b v (unpackL bs) t') := by
  by_cases hNa : N < 0 ∨ 64 < N
  · refine ⟨0, 1, t, ht, fun w b v h => (get_arg h N hNa).mono ?_, fun w b v h => (rget_arg h N hNa).mono ?_⟩
    · rintro e w' ⟨rfl, hk⟩
      exact ⟨rfl, hk.mono (fun _ _ f => f.elim), h.only hk (fun f => f) (fun _ _ f => f)⟩
    · rintro e w' ⟨rfl, hk⟩
      exact ⟨rfl, hk.mono (fun _ _ f => f.elim), h.only hk (fun f => f) (fun _ _ f => f)⟩
  · obtain ⟨n, rfl⟩ : ∃ n : Nat, N = (n : Int) := ⟨N.toNat, by omega⟩
    by_cases hf : 8 * bs.length - t < n
    · refine ⟨0, 5, t, ht, fun w b v h => (get_few h n hf (by omega)).mono ?_, fun w b v h => (rget_few h n (by rw [unpackL_length]; exact hf) (by omega)).mono ?_⟩
      · rintro e w' ⟨rfl, hk⟩
        exact ⟨rfl, hk.mono (fun _ _ f => f.elim), h.only hk (fun f => f) (fun _ _ f => f)⟩
      · rintro e w' ⟨rfl, hk⟩
        exact ⟨rfl, hk.mono (fun _ _ f => f.elim), h.only hk (fun f => f) (fun _ _ f => f)⟩
    · exact ⟨_, 0, t + n, by omega, fun w b v h => get_any h n (by omega) (by omega), fun w b v h => rget_any h n (by rw [unpackL_length]; omega) (by omega)⟩

section
variable (w : World) (v0 v1 : Value) (bs : List UInt8) (ns : List Int)

set_option maxRecDepth 100000 in
set_option maxHeartbeats 1600000 in
theorem reads_walk (h0 : SrcOf w v0 (bs.map bV)) (h1 : SrcOf w v1 (ns.map (Value.int .i64))) :
    Calls Try.prog 6 #[v0, v1] w fun e w' => e = .returned (.bool true) ∧ Kept w w' := by
  obtain ⟨a0, c0, e0⟩ := h0.len
  obtain ⟨a1, c1, e1⟩ := h1.len
  rw [List.length_map] at e0 e1
  obtain ⟨L, hL⟩ : ∃ L, bs.length = L := ⟨_, rfl⟩
  obtain ⟨M, hM⟩ : ∃ M, ns.length = M := ⟨_, rfl⟩
  rw [hL] at e0
  rw [hM] at e1
  subst e0
  subst e1
  have hnot : ∀ (x : Bool) (w : World), (Op.unary .not (.bool x)).run Try.prog w = .ok (.bool (!x)) w := fun _ _ => rfl
  by_cases hb0 : 2000 < L
  · go_enter Try.func6, Try.ntmps6
    go_wp2_with (go_at_call 19; refine (alive_any _).mono ?_; rintro e w1 ⟨rfl, hk⟩)
    go_ret
    exact ⟨rfl, hk⟩
  by_cases hb1 : 300 < M
  · go_enter Try.func6, Try.ntmps6
    go_wp2_with (go_at_call 19; refine (alive_any _).mono ?_; rintro e w1 ⟨rfl, hk⟩)
    go_ret
    exact ⟨rfl, hk⟩
  have d0 : decide ((2000 : Int) < (L : Int)) = false := by simp; omega
  have d1 : decide ((300 : Int) < (M : Int)) = false := by simp; omega
  have HL := hid hL
  have HM := hid hM
  have H0 := hid h0
  have H1 := hid h1
  clear hL hM h0 h1
  go_enter Try.func6, Try.ntmps6
  go_wp2_with fail
  refine (alive_any _).mono ?_
  rintro e w1 ⟨rfl, hk1⟩
  have hs0 := H0.out.stay hk1
  obtain ⟨v2, w2, hrun, hown2, hgrow, _⟩ := append_src (P := Try.prog) Try.underlying28 Try.infoB rfl (by decide) (World.ownsRow_nil w1 w1.heap.size 5 1) hs0 (bytes_one bs) (by have := HL.out; simp; omega) (Nat.le_refl _)
  rw [List.length_map, HL.out, Nat.zero_add, List.nil_append] at hown2
  have hk2 : Kept w1 w2 := (Only.refl _ w1).grown hgrow (fun k hk _ => by cases hk)
  have Hr := hid hrun
  clear hrun hgrow hs0
  obtain ⟨a2, c2, rfl⟩ := own_slice hown2
  go_wp2_with (at_builtin; refine wpList_append_run rfl _ _ _ rfl rfl rfl Hr ?_)
  refine (newReader_any w2 _ bs (own_src hown2) (by have := HL.out; omega)).mono ?_
  rintro e w3 ⟨b3, v3, rfl, hb3, hB3, ho3, hk3⟩
  have hown3 := own_only hown2 hk3 (fun _ _ f => f)
  have hlt2 : ∀ k, (Value.slice a2 L c2).ownBlock = some k → w1.heap.size ≤ k ∧ k < w2.heap.size := fun k hk => hown2.lt k hk
  have HR3 : Hid (RdAt w3 b3 v3 bs 0) := ⟨hB3, own_base ho3 (Nat.zero_le _), by have := HL.out; omega, by omega⟩
  have hge3 : ∀ k, v3.ownBlock = some k → w2.heap.size ≤ k := fun k hk => (ho3.lt k hk).1
  have HO3 := hid hown3
  have HK : Hid (Kept w w3) := (hk1.trans hk2 (fun _ _ f => f)).trans hk3 (fun _ _ f => f)
  have HK12 : Hid (Kept w w2) := hk1.trans hk2 (fun _ _ f => f)
  have hsz1 := hk1.size
  have Hg3 := hid hge3
  have Hl2 := hid hlt2
  clear hown2 Hr hk2 hk3 hB3 ho3 hown3 hge3 hlt2
  go_wp2_with fail
  go_loopw [8] (fun i wr => ∃ (k : Nat) (ys : List UInt8), k ≤ L ∧ ys.length = L ∧ i = .int .i64 (k : Int) ∧ wr.ownsRow w1.heap.size 5 1 (.slice a2 L c2) L (ys.map bV) ∧ Only (fun j => (Value.slice a2 L c2).ownBlock = some j) w3 wr) (fun i _ => L - (intOf i).toNat)
  case atStart => exact ⟨0, bs, by omega, HL.out, rfl, HO3.out, Only.refl _ _⟩
  case round =>
    obtain ⟨k, ys, hk, hyl, rfl, hown, hon⟩ := hrel
    by_cases hlt : k < L
    · obtain ⟨g, cap, hg⟩ := own_some hown (by omega)
      cases hg
      have hky : k < ys.length := by omega
      obtain ⟨t1, t2, t3⟩ := own_turn hown hky
      have hx := xor_byte ys[k]
      obtain ⟨y, hy⟩ : ∃ y : Nat, ys[k].toNat = y := ⟨_, rfl⟩
      obtain ⟨z, hz⟩ : ∃ z : Nat, (UInt8.ofNat (ys[k].toNat ^^^ 255)).toNat = z := ⟨_, rfl⟩
      have HY := hid hyl
      have HT := hid t3
      rw [hy] at t1 hx
      rw [hy] at hz
      rw [hz] at hx
      have HZ := hid hz
      have HYy := hid hy
      have HN := hid hon
      clear t3 hy hz hown hon hyl
      go_wp2
      go_roundw
      case rel =>
        refine ⟨k + 1, ys.set k (UInt8.ofNat (ys[k].toNat ^^^ 255)), by omega, by rw [List.length_set]; exact HY.out, by go_num, ?_, HN.out.setCell (p := ⟨g, k, none⟩) (fun _ => rfl) _⟩
        have := HT.out
        rw [HYy.out, HZ.out] at this
        rw [HYy.out]
        exact this
      case measure => simp [intOf]; omega
    · have HN := hid hon
      clear hown hon
      have hk4 : Kept w wr := HK.out.trans HN.out (fun j hj e => absurd hj (by have := (Hl2.out j e).1; omega))
      have hR4 : RdAt wr b3 v3 bs 0 := HR3.out.only HN.out (fun e => by have := (Hl2.out b3 e).2; omega) (fun j hj e => by have := (Hl2.out j e).2; have := Hg3.out j hj; omega)
      have hb4 : w.heap.size ≤ b3 := by have := HK12.out.size; omega
      have HR4 := hid hR4
      have HK4 := hid hk4
      clear hR4
      go_wp2_with fail
      refine (of_any wr _ bs (H0.out.stay hk4) (by have := HL.out; omega)).mono ?_
      rintro e w5 ⟨v5, rfl, ho5, hk5⟩
      obtain ⟨a5, c5, rfl⟩ := own_slice ho5
      have HR5 : Hid (RdAt (w5.alloc (.cells #[.slice a5 (8 * bs.length) c5, .int .i64 0] 56)) b3 v3 bs 0) := HR4.out.only (hk5.alloc _) (fun f => f) (fun _ _ f => f)
      have HX5 : Hid (RrAt (w5.alloc (.cells #[.slice a5 (8 * bs.length) c5, .int .i64 0] 56)) w5.heap.size (.slice a5 (8 * bs.length) c5) (unpackL bs) 0) := by
        refine ⟨Blk.new w5 _ _, ?_, by rw [unpackL_length]; have := HL.out; omega, by omega⟩
        rw [unpackL_length]
        exact own_base (ho5.alloc _) (Nat.zero_le _)
      have HK5 : Hid (Kept w (w5.alloc (.cells #[.slice a5 (8 * bs.length) c5, .int .i64 0] 56))) := (hk4.trans hk5 (fun _ _ f => f)).alloc _
      have hb5 : w.heap.size ≤ w5.heap.size := (hk4.trans hk5 (fun _ _ f => f)).size
      clear ho5 hk5 hk4
      rw [HL.out] at HR5 HX5 HK5 ⊢
      go_wp2_with fail
      go_loopw [10] (fun i wr => ∃ (k t : Nat), k ≤ M ∧ i = .int .i64 (k : Int) ∧ t ≤ 8 * L ∧ RdAt wr b3 v3 bs t ∧ RrAt wr w5.heap.size (.slice a5 (8 * L) c5) (unpackL bs) t ∧ Kept w wr) (fun i _ => M - (intOf i).toNat)
      case atStart => exact ⟨0, 0, by omega, rfl, by omega, HR5.out, HX5.out, HK5.out⟩
      case round =>
        obtain ⟨k, t, hk, rfl, ht, hR, hX, hkp⟩ := hrel
        by_cases hlt : k < M
        · have hkl : k < ns.length := by have := HM.out; omega
          obtain ⟨N, hN⟩ : ∃ N, ns[k] = N := ⟨_, rfl⟩
          rcases H1.out.shape with ⟨e, _⟩ | ⟨_, b1, o1, c1', e1, hc1⟩
          · exfalso
            have e2 : ns.length = 0 := by rw [← List.length_map (f := Value.int .i64), e]; rfl
            omega
          rw [List.length_map, HM.out] at e1
          cases e1
          have cell : ∀ W, Kept w W → W.cell? ⟨b1, o1 + k, none⟩ = some (.int .i64 N) := by
            intro W hW
            have h2 := hc1 k (.int .i64 N) (by rw [List.getElem?_map, List.getElem?_eq_getElem hkl, hN]; rfl)
            rw [World.cell?_of_block (w := w) (w' := W) (a := ⟨b1, o1 + k, none⟩) (hW.block b1 (World.block_lt_of_cell? w _ h2) (fun f => f))]
            exact h2
          have cc := cell wr hkp
          have HCl := hid cell
          have HKp := hid hkp
          have HRr := hid hR
          have HXx := hid hX
          clear hN cell hc1 hR hX hkp
          obtain ⟨X, E, t', ht', hg1, hg2⟩ := gets bs N t (by have := HL.out; omega)
          have hbx : w5.heap.size ≠ b3 := HXx.out.blk.typed.ne HRr.out.blk.typed (by decide)
          have HG1 := hid hg1
          have HG2 := hid hg2
          clear hg1 hg2
          go_wp2_with fail
          refine (HG1.out wr b3 v3 HRr.out).mono ?_
          rintro e w6 ⟨rfl, hk6, hR6⟩
          have hkp6 : Kept w w6 := HKp.out.trans hk6 (fun j hj e => by omega)
          have cc6 := HCl.out w6 hkp6
          have hX6 := HXx.out.only hk6 hbx (fun j hj => (own_typed HXx.out.own hj).ne HRr.out.blk.typed (by decide))
          clear cc
          go_wp2_with fail
          refine (HG2.out w6 _ _ hX6).mono ?_
          rintro e w7 ⟨rfl, hk7, hX7⟩
          have hR7 := hR6.only hk7 (Ne.symm hbx) (fun j hj => (own_typed hR6.own hj).ne hX6.blk.typed (by decide))
          have hk8 : Kept w w7 := hkp6.trans hk7 (fun j hj e => by omega)
          obtain ⟨a7, c7, e7⟩ := own_slice hR7.own
          subst e7
          have x0 := hX7.blk.cell 0 rfl
          have x1 := hX7.blk.cell 1 rfl
          have HR7 := hid hR7
          have HX7 := hid hX7
          have HK8 := hid hk8
          obtain ⟨q, hq⟩ : ∃ q : Nat, 8 * bs.length - t' = q := ⟨_, rfl⟩
          have hqL : (q : Int) = 8 * (L : Int) - (t' : Int) := by have := HL.out; omega
          have htL : t' ≤ 8 * L := by have := HL.out; omega
          have hlf := fun n => left_drew (w7.drewN n) b3 a7 bs.length c7 t' (Blk.drewN hR7.blk n) hR7.len ht'
          rw [hq] at hlf
          have HF := hid hlf
          clear hR7 hX7 hk8 hk6 hk7 hlf hq hX6 hR6 hkp6 ht'
          go_wp2_with fail
          go_quiet ((first | (go_at_call 29; exact Calls.quiet_of_same (num_any _ _)) | (go_at_call 30; exact Calls.quiet_of_drew (HF.out _))))
          go_wp2
          go_roundw
          case rel => exact ⟨k + 1, t', by omega, by go_num, htL, ⟨HR7.out.blk, HR7.out.own, HR7.out.len, HR7.out.top⟩, ⟨HX7.out.blk, HX7.out.own, HX7.out.len, HX7.out.top⟩, Kept.drewN HK8.out _⟩
          case measure => simp [intOf]; omega
        · clear hR hX
          have HKp := hid hkp
          clear hkp
          go_wp2
          go_ret
          exact ⟨rfl, HKp.out⟩
end
end Go.Proofs.Ytephpgiiljjieab
