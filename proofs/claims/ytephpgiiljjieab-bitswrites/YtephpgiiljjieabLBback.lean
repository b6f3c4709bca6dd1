/-
  The walk of the law BitsBack.
-/
import Derived.Test.YtephpgiiljjieabBopen
import Derived.Test.YtephpgiiljjieabLreads
namespace Go.Proofs.Ytephpgiiljjieab
open Go.RowKit Go.Proofs.Lys
set_option linter.unusedVariables false

def wd (N : Int) : Nat := if N < 0 then 0 else if 64 < N then 64 else N.toNat
def bitsOf (ps : List (Int × Int)) : List Bool := ps.flatMap (fun p => bitsL (uN p.1) (wd p.2))
theorem wd_le (N : Int) : wd N ≤ 64 := by unfold wd; split <;> (try split) <;> omega
theorem wd_is (N : Int) : (N < 0 ∧ wd N = 0) ∨ (64 < N ∧ wd N = 64) ∨ (N = wd N ∧ wd N ≤ 64) := by
  unfold wd
  split
  · exact .inl ⟨by omega, rfl⟩
  · split
    · exact .inr (.inl ⟨by omega, rfl⟩)
    · exact .inr (.inr ⟨by omega, by omega⟩)
theorem bitsOf_take (ps : List (Int × Int)) (k : Nat) (h : k < ps.length) : bitsOf (ps.take (k + 1)) = bitsOf (ps.take k) ++ bitsL (uN ps[k].1) (wd ps[k].2) := by
  unfold bitsOf
  rw [List.take_succ_eq_append_getElem h, List.flatMap_append]
  simp only [List.flatMap_cons, List.flatMap_nil, List.append_nil]
theorem bitsOf_le (ps : List (Int × Int)) : (bitsOf ps).length ≤ 64 * ps.length := by
  induction ps with
  | nil => simp [bitsOf]
  | cons p t ih =>
    have : bitsOf (p :: t) = bitsL (uN p.1) (wd p.2) ++ bitsOf t := rfl
    rw [this, List.length_append, bitsL_length, List.length_cons]
    have := wd_le p.2
    omega
theorem bitsOf_split (ps : List (Int × Int)) (k : Nat) (h : k < ps.length) : bitsOf ps = bitsOf (ps.take k) ++ (bitsL (uN ps[k].1) (wd ps[k].2) ++ bitsOf (ps.drop (k + 1))) := by
  conv => lhs; rw [← List.take_append_drop (k + 1) ps]
  rw [← List.append_assoc, ← bitsOf_take ps k h]
  unfold bitsOf
  rw [List.flatMap_append]
/-- What was put is what is taken. -/
theorem back_val (ps : List (Int × Int)) (k : Nat) (h : k < ps.length) :
    valL (((unpackL (packL (bitsOf ps))).drop (bitsOf (ps.take k)).length).take (wd ps[k].2)) = uN ps[k].1 % 2 ^ wd ps[k].2 ∧
    (bitsOf (ps.take k)).length + wd ps[k].2 ≤ 8 * (packL (bitsOf ps)).length := by
  obtain ⟨z, _, hz⟩ := unpack_pack (bitsOf ps)
  have hl := unpackL_length (packL (bitsOf ps))
  have e := bitsOf_split ps k h
  constructor
  · rw [hz, e, List.append_assoc, List.drop_left, List.append_assoc, List.take_left' (bitsL_length _ _), valL_bits]
  · rw [← hl, hz, e]
    simp only [List.length_append, bitsL_length]
    omega
theorem mask_any (x : Int) (n : Nat) (hn : n ≤ 63) (h0 : -9223372036854775808 ≤ x) (h1 : x ≤ 9223372036854775807) : bits .and .i64 x (2 ^ n - 1) = ((uN x % 2 ^ n : Nat) : Int) := by
  have hp : (2 : Nat) ^ n ≤ 2 ^ 63 := Nat.pow_le_pow_right (by decide) hn
  have hp1 : 0 < (2 : Nat) ^ n := Nat.two_pow_pos _
  have e0 : (2 : Int) ^ n - 1 = ((2 ^ n - 1 : Nat) : Int) := by
    have : (2 : Int) ^ n = ((2 ^ n : Nat) : Int) := by simp
    omega
  have e : (BitVec.ofInt 64 x &&& BitVec.ofInt 64 ((2 ^ n - 1 : Nat) : Int)).toNat = uN x % 2 ^ n := by
    have e2 : (BitVec.ofInt 64 ((2 ^ n - 1 : Nat) : Int)).toNat = 2 ^ n - 1 := ofInt_u64 _ (by omega)
    rw [BitVec.toNat_and, e2, Nat.and_two_pow_sub_one_eq_mod]
    unfold uN
    simp only [BitVec.toNat_ofInt]
    rfl
  rw [e0]
  show IntKind.i64.wrap (((BitVec.ofInt 64 x &&& BitVec.ofInt 64 ((2 ^ n - 1 : Nat) : Int)).toNat : Nat) : Int) = _
  rw [e, IntKind.wrap_i64]
  have := Nat.mod_lt (uN x) hp1
  omega
theorem whole_any (x : Int) (h0 : -9223372036854775808 ≤ x) (h1 : x ≤ 9223372036854775807) : wrap64 ((uN x % 2 ^ 64 : Nat) : Int) = x := by
  unfold wrap64 uN
  omega
theorem part_any (x : Int) (n : Nat) (hn : n ≤ 63) : wrap64 ((uN x % 2 ^ n : Nat) : Int) = ((uN x % 2 ^ n : Nat) : Int) := by
  have hp : (2 : Nat) ^ n ≤ 2 ^ 63 := Nat.pow_le_pow_right (by decide) hn
  have := Nat.mod_lt (uN x) (Nat.two_pow_pos n)
  unfold wrap64
  omega

theorem wrap_pow (n : Nat) (h : n ≤ 63) : wrap64 (wrap64 (2 ^ n) - 1) = 2 ^ n - 1 := by
  have hp : (2 : Nat) ^ n ≤ 2 ^ 63 := Nat.pow_le_pow_right (by decide) h
  have hp1 : 0 < (2 : Nat) ^ n := Nat.two_pow_pos _
  have e : (2 : Int) ^ n = ((2 ^ n : Nat) : Int) := by simp
  rw [e]
  generalize (2 : Nat) ^ n = p at hp hp1
  unfold wrap64
  omega
theorem pair_cell {w : World} {ps : List (Int × Int)} {b o : Nat} (hc : ∀ i (hi : i < ps.length), w.cell? ⟨b, o + i * 2, none⟩ = some (.int .i64 ps[i].1) ∧ w.cell? ⟨b, o + i * 2 + 1, none⟩ = some (.int .i64 ps[i].2) ∧ -9223372036854775808 ≤ ps[i].1 ∧ ps[i].1 ≤ 9223372036854775807) (k : Nat) (hk : k < ps.length) :
    ∀ W, Kept w W → W.cell? ⟨b, o + k * 2, none⟩ = some (.int .i64 ps[k].1) ∧ W.cell? ⟨b, o + k * 2 + 1, none⟩ = some (.int .i64 ps[k].2) := by
  intro W hW
  have each : ∀ a u, w.cell? a = some u → W.cell? a = some u := fun a u hc => by
    rw [World.cell?_of_block (w := w) (w' := W) (a := a) (hW.block a.block (World.block_lt_of_cell? w a hc) (fun f => f))]
    exact hc
  exact ⟨each _ _ (hc k hk).1, each _ _ (hc k hk).2.1⟩
theorem foot_kept {w w1 w2 : World} {b : Nat} {v : Value} (h : Kept w w1) (k : Only (Foot b v) w1 w2) (hb : w.heap.size ≤ b) (hv : ∀ j, v.ownBlock = some j → w.heap.size ≤ j) : Kept w w2 :=
  h.trans k (fun j hj e => by
    rcases e with e | e
    · omega
    · have := hv j e
      omega)

set_option maxRecDepth 100000 in
set_option maxHeartbeats 1600000 in
theorem back_walk (w : World) (v0 : Value) (ps : List (Int × Int)) (h0 : PairSrc w v0 ps) :
    Calls Try.prog 7 #[v0] w fun e w' => e = .returned (.bool true) ∧ Kept w w' := by
  obtain ⟨a0, c0, e0⟩ := h0.len
  obtain ⟨M, hM⟩ : ∃ M, ps.length = M := ⟨_, rfl⟩
  rw [hM] at e0
  subst e0
  have hnot : ∀ (x : Bool) (w : World), (Op.unary .not (.bool x)).run Try.prog w = .ok (.bool (!x)) w := fun _ _ => rfl
  by_cases hb0 : 200 < M
  · go_enter Try.func7, Try.ntmps7
    go_wp2_with (go_at_call 19; refine (alive_any _).mono ?_; rintro e w1 ⟨rfl, hk⟩)
    go_ret
    exact ⟨rfl, hk⟩
  have d0 : decide ((200 : Int) < (M : Int)) = false := by simp; omega
  have HM := hid hM
  have H0 := hid h0
  clear hM h0
  go_enter Try.func7, Try.ntmps7
  go_wp2_with fail
  refine (alive_any _).mono ?_
  rintro e w1 ⟨rfl, hk1⟩
  have hsz1 := hk1.size
  have HK1 := hid hk1
  clear hk1
  go_wp2_with fail
  go_loopw [5] (fun i wr => ∃ (k : Nat) (vw : Value), k ≤ M ∧ i = .int .i64 (k : Int) ∧ WrAt wr w1.heap.size vw (bitsOf (ps.take k)) ∧ Kept w wr ∧ ∀ j, vw.ownBlock = some j → w.heap.size ≤ j) (fun i _ => M - (intOf i).toNat)
  case atStart => exact ⟨0, _, by omega, rfl, WrAt.new w1, HK1.out.alloc _, fun j hj => by cases hj⟩
  case round =>
    obtain ⟨k, vw, hk, rfl, hW, hkp, hnew⟩ := hrel
    by_cases hlt : k < M
    · have hkl : k < ps.length := by have := HM.out; omega
      rcases H0.out with ⟨a, c, e, e2⟩ | ⟨hpos, b, o, c, e1, hc⟩
      · exfalso
        rw [e2] at hkl
        exact absurd hkl (by simp)
      rw [HM.out] at e1
      cases e1
      have hcl := pair_cell hc k hkl
      obtain ⟨x0, x1⟩ := hcl wr hkp
      obtain ⟨x, hx⟩ : ∃ x, ps[k].1 = x := ⟨_, rfl⟩
      obtain ⟨N, hN⟩ : ∃ N, ps[k].2 = N := ⟨_, rfl⟩
      have HT : Hid (bitsOf (ps.take (k + 1)) = bitsOf (ps.take k) ++ bitsL (uN x) (wd N)) := by show _ = _; rw [bitsOf_take ps k hkl, hx, hN]
      rw [hx] at x0 hcl
      rw [hN] at x1 hcl
      have HCl := hid hcl
      have hle : (bitsOf (ps.take k)).length ≤ 1000000 := by
        have := bitsOf_le (ps.take k)
        rw [List.length_take] at this
        omega
      have HW : Hid (WrAt wr.drew w1.heap.size vw (bitsOf (ps.take k))) := ⟨hW.blk, hW.own⟩
      have HKp := hid hkp
      have HN := hid hnew
      have hput := hid (put_wr HW.out x N (wd N) (wd_is N) hle)
      clear hx hN hc hW hkp hnew hle hcl
      go_wp2_with fail
      go_region_held3 (fun w' => w'.cell? ⟨b, o + k * 2, none⟩ = some (.int .i64 x) ∧ w'.cell? ⟨b, o + k * 2 + 1, none⟩ = some (.int .i64 N))
        (first | exact ⟨x0, x1⟩ | exact HCl.out w2 hk2)
        ((go_at_call 20; refine hput.out.mono ?_; rintro e w2 ⟨rfl, v2, h2, k2, n2⟩; have hk2 : Kept w w2 := foot_kept HKp.out.drew k2 (by omega) HN.out))
      go_wp2_with fail
      go_roundw
      case rel =>
        refine ⟨k + 1, v2, by omega, by go_num, by rw [HT.out]; exact h2, hk2, fun j hj => ?_⟩
        · rcases n2 j hj with e | e
          · exact HN.out j e
          · have := HKp.out.size
            exact Nat.le_trans this e
      case measure => simp [intOf]; omega
    · have eT : ps.take k = ps := List.take_of_length_le (by have := HM.out; omega)
      rw [eT] at hW
      have hle : (bitsOf ps).length ≤ 64 * M := by have := bitsOf_le ps; have := HM.out; omega
      have hpl := packL_length (bitsOf ps)
      obtain ⟨bs, hbs⟩ : ∃ bs, packL (bitsOf ps) = bs := ⟨_, rfl⟩
      obtain ⟨T, hT⟩ : ∃ T, (bitsOf ps).length = T := ⟨_, rfl⟩
      rw [hbs, hT] at hpl
      rw [hT] at hle
      have hbl : bs.length ≤ 100000 := by omega
      have HB := hid hbs
      have HT := hid hT
      have hsrc := hW.src
      rw [hbs] at hsrc
      have hby := wbytes_any wr w1.heap.size vw _ bs hW.blk hsrc (by omega)
      have HKp := hid hkp
      clear hbs hT eT hW hnew hsrc hkp
      go_wp2_with fail
      refine hby.mono ?_
      rintro e w2 ⟨v2, rfl, h2, k2⟩
      clear hby
      go_wp2_with fail
      refine (newReader_any w2 v2 bs (own_src h2) (by omega)).mono ?_
      rintro e w3 ⟨b3, v3, rfl, hb3, hB3, ho3, k3⟩
      have hkw2 : Kept w w2 := HKp.out.trans k2 (fun _ _ f => f)
      have hb3' : w.heap.size ≤ b3 := by have := hkw2.size; omega
      have HR3 : Hid (RdAt w3 b3 v3 bs 0) := ⟨hB3, own_base ho3 (Nat.zero_le _), by omega, by omega⟩
      have HK3 : Hid (Kept w w3) := hkw2.trans k3 (fun _ _ f => f)
      clear h2 k2 k3 hB3 ho3 hkw2
      go_wp2_with fail
      go_loopw [7] (fun i wr => ∃ (k t : Nat), k ≤ M ∧ i = .int .i64 (k : Int) ∧ t = (bitsOf (ps.take k)).length ∧ RdAt wr b3 v3 bs t ∧ Kept w wr) (fun i _ => M - (intOf i).toNat)
      case atStart => exact ⟨0, 0, by omega, rfl, rfl, HR3.out, HK3.out⟩
      case round =>
        obtain ⟨k, t, hk, rfl, ht, hR, hkp⟩ := hrel
        by_cases hlt : k < M
        · have hkl : k < ps.length := by have := HM.out; omega
          rcases H0.out with ⟨a, c, e, e2⟩ | ⟨hpos, b, o, c, e1, hc⟩
          · exfalso
            rw [e2] at hkl
            exact absurd hkl (by simp)
          rw [HM.out] at e1
          cases e1
          have hcl := pair_cell hc k hkl
          obtain ⟨x0, x1⟩ := hcl wr hkp
          obtain ⟨i0, i1⟩ := (hc k hkl).2.2
          obtain ⟨bv, bl⟩ := back_val ps k hkl
          have eN : Hid ((bitsOf (ps.take (k + 1))).length = t + wd ps[k].2) := by show _ = _; rw [bitsOf_take ps k hkl, List.length_append, bitsL_length, ht]
          rw [HB.out, ← ht] at bv bl
          obtain ⟨x, hx⟩ : ∃ x, ps[k].1 = x := ⟨_, rfl⟩
          obtain ⟨N, hN⟩ : ∃ N, ps[k].2 = N := ⟨_, rfl⟩
          rw [hx] at x0 hcl bv i0 i1
          rw [hN] at x1 hcl bv bl eN
          have hwd := wd_is N
          obtain ⟨n, hn⟩ : ∃ n, wd N = n := ⟨_, rfl⟩
          rw [hn] at bv bl eN hwd
          have hn64 : n ≤ 64 := by rw [← hn]; exact wd_le N
          have hget := get_any hR n bl hn64
          rw [bv] at hget
          have HG := hid hget
          have HKp := hid hkp
          have HR := hid hR
          have HCl := hid hcl
          have Hmask : Hid (n ≤ 63 → bits .and .i64 x (2 ^ n - 1) = wrap64 ((uN x % 2 ^ n : Nat) : Int)) := fun h => by rw [part_any x n h]; exact mask_any x n h i0 i1
          have Hwhole : Hid (n = 64 → wrap64 ((uN x % 2 ^ n : Nat) : Int) = x) := fun h => by rw [h]; exact whole_any x i0 i1
          have hkpos : (0 : Int) ≤ (n : Int) := by omega
          clear hx hN hn hget hc hR hkp hcl bv bl ht i0 i1
          obtain ⟨X, hX⟩ : ∃ X, wrap64 ((uN x % 2 ^ n : Nat) : Int) = X := ⟨_, rfl⟩
          rw [hX] at HG Hmask Hwhole
          clear hX
          have fin : ∀ W, Only (· = b3) wr W → RdAt W b3 v3 bs (t + n) → Hid (∃ (k1 t1 : Nat), k1 ≤ M ∧ Value.int .i64 ((k : Int) + 1) = .int .i64 (k1 : Int) ∧ t1 = (bitsOf (ps.take k1)).length ∧ RdAt W b3 v3 bs t1 ∧ Kept w W) := fun W h1 h2 =>
            ⟨k + 1, t + n, by omega, by go_num, eN.out.symm, h2, HKp.out.trans h1 (fun j hj e => by omega)⟩
          have Hfin := hid fin
          clear fin
          have hxx : ∀ W, Only (· = b3) wr W → W.cell? ⟨b, o + k * 2, none⟩ = some (.int .i64 x) := fun W h1 => (HCl.out W (HKp.out.trans h1 (fun j hj e => by omega))).1
          have Hxx := hid hxx
          clear hxx
          rcases hwd with ⟨hN0, hn0⟩ | ⟨hN0, hn0⟩ | ⟨hN0, hn0⟩
          · subst hn0
            have em : bits .and .i64 x 0 = X := by simpa using Hmask.out (by omega)
            clear Hmask Hwhole
            go_wp2_with fail
            refine HG.out.mono ?_
            rintro e w6 ⟨rfl, k6, h6⟩
            have xx := Hxx.out w6 k6
            have hf := Hfin.out w6 k6 h6
            clear k6 h6
            go_wp2_with (go_at_call 29; refine (num_any _ _).mono ?_; rintro e w' ⟨rfl, hw⟩; replace hw := hw.symm; subst hw)
            go_roundw
            case rel => exact hf.out
            case measure => simp [intOf]; omega
          · subst hn0
            have em := Hwhole.out rfl
            subst em
            clear Hmask Hwhole
            go_wp2_with fail
            refine HG.out.mono ?_
            rintro e w6 ⟨rfl, k6, h6⟩
            have xx := Hxx.out w6 k6
            have hf := Hfin.out w6 k6 h6
            clear k6 h6
            go_wp2_with (go_at_call 29; refine (num_any _ _).mono ?_; rintro e w' ⟨rfl, hw⟩; replace hw := hw.symm; subst hw)
            go_roundw
            case rel => exact hf.out
            case measure => simp [intOf]; omega
          · subst hN0
            by_cases h63 : n ≤ 63
            · have em : bits .and .i64 x (wrap64 (wrap64 (2 ^ n) - 1)) = X := by rw [wrap_pow n h63]; exact Hmask.out h63
              clear Hmask Hwhole
              go_wp2_with fail
              refine HG.out.mono ?_
              rintro e w6 ⟨rfl, k6, h6⟩
              have xx := Hxx.out w6 k6
              have hf := Hfin.out w6 k6 h6
              clear k6 h6
              go_wp2_with (go_at_call 29; refine (num_any _ _).mono ?_; rintro e w' ⟨rfl, hw⟩; replace hw := hw.symm; subst hw)
              go_roundw
              case rel => exact hf.out
              case measure => simp [intOf]; omega
            · have em := Hwhole.out (by omega)
              subst em
              clear Hmask Hwhole
              go_wp2_with fail
              refine HG.out.mono ?_
              rintro e w6 ⟨rfl, k6, h6⟩
              have xx := Hxx.out w6 k6
              have hf := Hfin.out w6 k6 h6
              clear k6 h6
              go_wp2_with (go_at_call 29; refine (num_any _ _).mono ?_; rintro e w' ⟨rfl, hw⟩; replace hw := hw.symm; subst hw)
              go_roundw
              case rel => exact hf.out
              case measure => simp [intOf]; omega
        · have eT : ps.take k = ps := List.take_of_length_le (by have := HM.out; omega)
          rw [eT, HT.out] at ht
          obtain ⟨a7, c7, e7⟩ := own_slice hR.own
          subst e7
          have hlf := left_any wr b3 a7 bs.length c7 t hR.blk (by omega) hR.top
          obtain ⟨q, hq⟩ : ∃ q : Nat, 8 * bs.length - t = q := ⟨_, rfl⟩
          have hq8 : q < 8 := by omega
          rw [hq] at hlf
          have HKp := hid hkp
          clear hq hR hkp eT
          go_wp2_with fail
          refine hlf.mono ?_
          rintro e w6 ⟨rfl, k6⟩
          clear hlf
          have d8 : decide ((q : Int) < 8) = true := by simp; omega
          go_wp2_with fail
          go_ret
          exact ⟨rfl, HKp.out.trans k6 (fun _ _ f => f)⟩
end Go.Proofs.Ytephpgiiljjieab
