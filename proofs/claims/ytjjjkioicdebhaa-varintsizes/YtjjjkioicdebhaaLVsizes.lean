/-
  The walk of the law VarintSizes.
-/
import Derived.Test.YtjjjkioicdebhaaVlaw
import Derived.Maps.AppendAt
namespace Go.Proofs.Ytjjjkioicdebhaa.U
open Go.RowKit Go.Proofs.Lys
set_option linter.unusedVariables false

theorem mask_low (x : Nat) (k : Nat) (hx : x < 9223372036854775808) (hk : k ≤ 63) : bits .and .i64 (x : Int) (2 ^ k - 1) = ((x % 2 ^ k : Nat) : Int) := by
  have hp : (2 : Nat) ^ k ≤ 2 ^ 63 := Nat.pow_le_pow_right (by decide) hk
  have e63 : (2 : Nat) ^ 63 = 9223372036854775808 := by decide
  have hp1 : 0 < (2 : Nat) ^ k := Nat.two_pow_pos _
  have e0 : (2 : Int) ^ k - 1 = ((2 ^ k - 1 : Nat) : Int) := by
    have : (2 : Int) ^ k = ((2 ^ k : Nat) : Int) := by simp
    omega
  have e : (BitVec.ofInt 64 (x : Int) &&& BitVec.ofInt 64 ((2 ^ k - 1 : Nat) : Int)).toNat = x % 2 ^ k := by
    have e1 : (BitVec.ofInt 64 (x : Int)).toNat = x := by rw [BitVec.toNat_ofInt]; omega
    have e2 : (BitVec.ofInt 64 ((2 ^ k - 1 : Nat) : Int)).toNat = 2 ^ k - 1 := by rw [BitVec.toNat_ofInt]; omega
    rw [BitVec.toNat_and, e1, e2, Nat.and_two_pow_sub_one_eq_mod]
  rw [e0]
  show IntKind.i64.wrap (((BitVec.ofInt 64 (x : Int) &&& BitVec.ofInt 64 ((2 ^ k - 1 : Nat) : Int)).toNat : Nat) : Int) = _
  rw [e, IntKind.wrap_i64]
  have := Nat.mod_lt x hp1
  omega
theorem wrap_pow (n : Nat) (h : n ≤ 63) : wrap64 (wrap64 (2 ^ n) - 1) = 2 ^ n - 1 := by
  have hp : (2 : Nat) ^ n ≤ 2 ^ 63 := Nat.pow_le_pow_right (by decide) h
  have hp1 : 0 < (2 : Nat) ^ n := Nat.two_pow_pos _
  have e : (2 : Int) ^ n = ((2 ^ n : Nat) : Int) := by simp
  rw [e]
  generalize (2 : Nat) ^ n = p at hp hp1
  unfold wrap64
  omega
theorem or_last (c : Nat) (h : c < 128) : bits .or .u8 (c : Int) 128 = ((c + 128 : Nat) : Int) := by
  have := or_more c
  rw [show ((c : Int) % 256) = (c : Int) by omega, show c % 128 = c by omega] at this
  exact this

theorem out_any (w : World) (k n p : Int) (hb : k < 1 ∨ 9 < k ∨ n < 0 ∨ p < 1 ∨ 5 < p) : Calls Try.prog 6 #[.int .i64 k, .int .i64 n, .int .i64 p] w fun e w' => e = .returned (.bool true) ∧ Kept w w' := by
  have hnot : ∀ (x : Bool) (w : World), (Op.unary .not (.bool x)).run Try.prog w = .ok (.bool (!x)) w := fun _ _ => rfl
  by_cases b1 : k < 1
  · go_enter Try.func6, Try.ntmps6
    go_wp2_with (go_at_call 7; refine (alive_any _).mono ?_; rintro e w1 ⟨rfl, hk⟩)
    go_ret
    exact ⟨rfl, hk⟩
  have d1 : decide (k < 1) = false := by simp; omega
  by_cases b2 : 9 < k
  · go_enter Try.func6, Try.ntmps6
    go_wp2_with (go_at_call 7; refine (alive_any _).mono ?_; rintro e w1 ⟨rfl, hk⟩)
    go_ret
    exact ⟨rfl, hk⟩
  have d2 : decide (9 < k) = false := by simp; omega
  by_cases b3 : n < 0
  · go_enter Try.func6, Try.ntmps6
    go_wp2_with (go_at_call 7; refine (alive_any _).mono ?_; rintro e w1 ⟨rfl, hk⟩)
    go_ret
    exact ⟨rfl, hk⟩
  have d3 : decide (n < 0) = false := by simp; omega
  by_cases b4 : p < 1
  · go_enter Try.func6, Try.ntmps6
    go_wp2_with (go_at_call 7; refine (alive_any _).mono ?_; rintro e w1 ⟨rfl, hk⟩)
    go_ret
    exact ⟨rfl, hk⟩
  have d4 : decide (p < 1) = false := by simp; omega
  have b5 : 5 < p := by omega
  go_enter Try.func6, Try.ntmps6
  go_wp2_with (go_at_call 7; refine (alive_any _).mono ?_; rintro e w1 ⟨rfl, hk⟩)
  go_ret
  exact ⟨rfl, hk⟩

theorem slice_to (g L cap M : Nat) (m : Int) (hm : m = (M : Int)) (hM : M ≤ cap) (hc : cap ≠ 0) (w : World) : (Instr.sliceAt 22 (.slice (some ⟨g, 0, none⟩) L cap) none (some (.int .i64 m)) none).run Try.prog w = .ok (.slice (some ⟨g, 0, none⟩) M cap) w := by
  subst hm
  have h1 : (0 : Int) ≤ (M : Int) ∧ (M : Int) ≤ (cap : Int) := by omega
  have hs : (sizeOf 5).run Try.prog w = .ok 1 w := by kernel_rfl
  simp [Instr.sliceAt, Instr.slice, Instr.sliceBounds, Instr.sliceBound, run_underlying Try.underlying22, asIntOf, hM, hs, Addr.add, Result.andThen]

/-- The beginning of bytes that are owned. -/
theorem cut_row {w : World} {base g n cap k : Nat} {B : List UInt8} (h : w.ownsRow base 5 1 (.slice (some ⟨g, 0, none⟩) n cap) n (B.map bV)) (hn : 0 < n) (hk : k ≤ n) :
    (∀ W, (Instr.sliceAt 22 (.slice (some ⟨g, 0, none⟩) n cap) none (some (.int .i64 (k : Int))) none).run Try.prog W = .ok (.slice (some ⟨g, 0, none⟩) k cap) W) ∧ SrcOf w (.slice (some ⟨g, 0, none⟩) k cap) ((B.take k).map bV) := by
  have hl := own_len h
  rw [List.length_map] at hl
  rcases h.2 with ⟨e, _⟩ | ⟨g', cap', cur, hv, _, _, hcap, _⟩
  · cases e
  · cases hv
    refine ⟨fun W => slice_to g n cap k _ rfl (by omega) (by omega) W, .inr ⟨⟨g, 0, none⟩, cap, ?_, fun j u hu => ?_⟩⟩
    · rw [List.length_map, List.length_take, Nat.min_eq_left (by omega)]
    · have hj := (List.getElem?_eq_some_iff.1 hu).1
      rw [List.length_map, List.length_take] at hj
      rw [add_none, Nat.zero_add, h.cellAt j (by omega)]
      rw [List.map_take, List.getElem?_take, if_pos (by omega)] at hu
      exact hu

theorem wpList_slice_run {P : Program} {w : World} {ops : Array Oper} {rest : List Oper} {o : Oper} {a : Act} {Q : Exit → Act → World → Prop} (hgd : o.guard = none) (t : TypeId) (s x : Operand)
    (ho : o.op = Op.slice t s none (some x) none) {sv xv : Value} (hs : a.eval s = sv) (hx : a.eval x = xv) {v : Value}
    (hrun : Hid (∀ W, (Instr.sliceAt t sv none (some xv) none).run P W = .ok v W)) (h : wpList P ops Q rest (a.put o.dst v) w) : wpList P ops Q (o :: rest) a w := by
  refine wpList_plain hgd fun K hK => ?_
  have hr := hrun.out w
  unfold Oper.wp
  simp [execOp, ho, hs, hx, hr, Result.andThen]
  exact hK _ _ h

set_option maxRecDepth 100000 in
set_option maxHeartbeats 1600000 in
theorem sizes_walk (w : World) (K N p : Nat) (hK : 1 ≤ K ∧ K ≤ 9) (hN : N < 9223372036854775808) (hp : 1 ≤ p ∧ p ≤ 5) : Calls Try.prog 6 #[.int .i64 (K : Int), .int .i64 (N : Int), .int .i64 (p : Int)] w fun e w' => e = .returned (.bool true) ∧ Kept w w' := by
  have hnot : ∀ (x : Bool) (w : World), (Op.unary .not (.bool x)).run Try.prog w = .ok (.bool (!x)) w := fun _ _ => rfl
  obtain ⟨hK1, hK2⟩ := hK
  obtain ⟨hp1, hp2⟩ := hp
  have d1 : decide ((K : Int) < 1) = false := by simp; omega
  have d2 : decide (9 < (K : Int)) = false := by simp; omega
  have d3 : decide ((N : Int) < 0) = false := by simp
  have d4 : decide ((p : Int) < 1) = false := by simp; omega
  have d5 : decide (5 < (p : Int)) = false := by simp; omega
  obtain ⟨S, hS⟩ : ∃ S, 7 * K = S := ⟨_, rfl⟩
  have eS : 7 * (K : Int) = (S : Int) := by omega
  have hS63 : S ≤ 63 := by omega
  have hmask : bits .and .i64 (N : Int) (wrap64 (wrap64 (2 ^ S) - 1)) = ((N % 2 ^ S : Nat) : Int) := by rw [wrap_pow S hS63]; exact mask_low N S hN hS63
  have hM : N % 2 ^ S < 128 ^ K := by
    have : (128 : Nat) ^ K = 2 ^ S := by rw [← hS, Nat.pow_mul]
    rw [this]
    exact Nat.mod_lt _ (Nat.two_pow_pos _)
  have hM2 : N % 2 ^ S < 9223372036854775808 := Nat.lt_of_le_of_lt (Nat.mod_le _ _) hN
  obtain ⟨M, hMe⟩ : ∃ M, N % 2 ^ S = M := ⟨_, rfl⟩
  rw [hMe] at hmask hM hM2
  have hu : uN (M : Int) = M := by unfold uN; omega
  have hlen := putN_len K M hK1 hM
  have hpos := putN_pos M
  obtain ⟨ini, c, hparts, hc, hini⟩ := putN_parts M
  have hput := put_any
  have HPut : Hid (∀ w, Calls Try.prog 8 #[.int .i64 (M : Int)] w (PutPost w (putN M))) := fun w => by
    have := put_any w (M : Int)
    rw [hu] at this
    exact this
  rw [hparts] at hlen hpos HPut
  have e1 : (ini ++ [c]).length = ini.length + 1 := by simp
  rw [e1] at hlen
  obtain ⟨I, hI⟩ : ∃ I, ini.length = I := ⟨_, rfl⟩
  have d6 : decide ((K : Int) < ((I + 1 : Nat) : Int)) = false := by simp; omega
  have hIK : I + 1 ≤ K := by omega
  have HI := hid hI
  have Hini := hid hini
  have Hc := hid hc
  clear hput hM hM2 hMe hu hparts hlen hini hc hI e1 hpos hN
  go_enter Try.func6, Try.ntmps6
  go_wp2_with fail
  refine (alive_any _).mono ?_
  rintro e w1 ⟨rfl, hk1⟩
  have HK1 := hid hk1
  clear hk1
  go_wp2_with fail
  refine (HPut.out _).mono ?_
  rintro e w2 ⟨v2, rfl, o2, k2⟩
  have el : (ini ++ [c]).length = I + 1 := by rw [List.length_append, HI.out]; rfl
  rw [el] at o2
  obtain ⟨g2, cap2, rfl⟩ := own_some o2 (by omega)
  have HK2 : Hid (Kept w w2) := HK1.out.trans k2 (fun _ _ f => f)
  obtain ⟨v3, w3, hr3, o3, gr3, _⟩ := append_src (P := Try.prog) Try.underlying22 Try.infoB rfl (by decide) (World.ownsRow_nil w2 w2.heap.size 5 1) (own_src o2) (bytes_one _) (by rw [List.length_map, el]; omega) (Nat.le_refl _)
  have k3 : Kept w2 w3 := (Only.refl _ w2).grown gr3 (fun k hk _ => by cases hk)
  rw [List.length_map, Nat.zero_add, List.nil_append, el] at o3
  obtain ⟨g3, cap3, rfl⟩ := own_some o3 (by omega)
  have R3 := hid hr3
  have cc : w3.cell? ⟨g3, I, none⟩ = some (.int .u8 ((c.toNat : Nat) : Int)) := by
    rw [o3.cellAt I (by omega), List.getElem?_map, List.getElem?_append_right (by rw [HI.out]; omega), HI.out]
    simp [bV]
  have cf := o3.frozenAt I
  have hor := or_last c.toNat Hc.out
  have st := (o3.stored I (.int .u8 ((c.toNat + 128 : Nat) : Int))).1
  have erow : ((ini ++ [c]).map bV).set I (.int .u8 ((c.toNat + 128 : Nat) : Int)) = (ini ++ [UInt8.ofNat (c.toNat + 128)]).map bV := by
    rw [List.map_append, List.set_append_right _ _ (by rw [List.length_map, HI.out]; omega), List.length_map, HI.out, List.map_append]
    have : bV (UInt8.ofNat (c.toNat + 128)) = .int .u8 ((c.toNat + 128 : Nat) : Int) := by
      unfold bV
      rw [UInt8.toNat_ofNat']
      have := Hc.out
      congr 2
      omega
    rw [List.map_cons, List.map_nil, List.map_cons, List.map_nil, this, Nat.sub_self]
    rfl
  rw [erow] at st
  have hall : ∀ x ∈ ini ++ [UInt8.ofNat (c.toNat + 128)], 128 ≤ x.toNat := by
    intro x hx
    rcases List.mem_append.1 hx with h | h
    · exact Hini.out x h
    · rw [List.mem_singleton.1 h, UInt8.toNat_ofNat']
      have := Hc.out
      omega
  obtain ⟨C, hC⟩ : ∃ C : Nat, c.toNat = C := ⟨_, rfl⟩
  have hlow : w2.heap.size ≤ g3 := (o3.lt g3 rfl).1
  rw [hC] at cc hor st hall erow
  have hl0 : (ini ++ [UInt8.ofNat (C + 128)]).length = I + 1 := by rw [List.length_append, HI.out]; rfl
  obtain ⟨z0, hz0⟩ : ∃ z0, ini ++ [UInt8.ofNat (C + 128)] = z0 := ⟨_, rfl⟩
  rw [hz0] at st hall hl0
  have O2 := hid o2
  have ST := hid st
  have Hall := hid hall
  have K3 : Hid (Kept w2 (w3.setCell ⟨g3, I, none⟩ (.int .u8 ((C + 128 : Nat) : Int)))) := k3.setCell (fun hlt => absurd hlt (by show ¬ g3 < w2.heap.size; omega)) _
  obtain ⟨C8, hC8⟩ : ∃ C8 : Nat, C + 128 = C8 := ⟨_, rfl⟩
  rw [hC8] at hor ST K3
  have eI : ((I + 1 : Nat) : Int) - 1 = (I : Int) := by omega
  have HZ := hid hl0
  clear o2 o3 hr3 gr3 k3 k2 st hall erow hz0 hC hC8 HPut el hl0
  go_wp2_with (at_builtin; refine wpList_append_run rfl _ _ _ rfl rfl rfl R3 ?_)
  go_loopw [10, 9] (fun i s wr => ∃ (k : Nat) (zs : List UInt8), 1 ≤ k ∧ k ≤ p ∧ i = .int .i64 (k : Int) ∧ wr.ownsRow w2.heap.size 5 1 s zs.length (zs.map bV) ∧ zs.length = I + k ∧ (∀ x ∈ zs, 128 ≤ x.toNat) ∧ Kept w2 wr) (fun i _ _ => p - (intOf i).toNat)
  case atStart => exact ⟨1, z0, by omega, by omega, rfl, by rw [HZ.out]; exact ST.out, HZ.out, Hall.out, K3.out⟩
  case round =>
    obtain ⟨k, zs, h1, h2, rfl, hown, hzl, hza, hkp⟩ := hrel
    have HZA := hid hza
    have HZL := hid hzl
    by_cases hlt : k < p
    · obtain ⟨g, cap, w4, Hr, hown1, hon1⟩ := own_byte hown hkp.size (by omega) 128 (by omega)
      have HR := hid hown1
      have HKr : Hid (Kept w2 w4) := hid (hkp.trans hon1 (fun q hq e => absurd hq (by have := (hown.lt q e).1; omega)))
      clear hown hown1 hkp hon1 hza hzl
      go_wp2_with (at_builtin; refine wpList_append_run rfl _ _ _ rfl rfl rfl Hr ?_)
      go_roundw
      case rel =>
        refine ⟨k + 1, zs ++ [UInt8.ofNat 128], by omega, by omega, by go_num, HR.out, by rw [List.length_append, HZL.out]; rfl, ?_, HKr.out⟩
        intro x hx
        rcases List.mem_append.1 hx with h | h
        · exact HZA.out x h
        · simp at h
          subst h
          decide
      case measure => simp [intOf]; omega
    · obtain ⟨g, cap, w4, Hr, hown1, hon1⟩ := own_byte hown hkp.size (by omega) 0 (by omega)
      have hk4 : Kept w2 w4 := hkp.trans hon1 (fun q hq e => absurd hq (by have := (hown.lt q e).1; omega))
      have hsrc := own_src hown1
      have hgl : (zs ++ [UInt8.ofNat 0]).length ≤ 1000000 := by rw [List.length_append, hzl]; simp; omega
      have hG := get_any w4 _ _ hsrc hgl
      rw [show (UInt8.ofNat 0) = 0 from rfl, getA_zero zs 0 0 hza (by omega), got_err] at hG
      have o4 := own_only O2.out hk4 (fun _ _ f => f)
      obtain ⟨hcut, hs4⟩ := cut_row (k := I) o4 (by omega) (by omega)
      rw [List.take_left' HI.out] at hs4
      have hG2 := get_any w4 _ _ hs4 (by rw [HI.out]; omega)
      rw [getA_more ini 0 0 Hini.out, got_err] at hG2
      have HG := hid hG
      have HG2 := hid hG2
      have HK4 : Hid (Kept w w4) := HK2.out.trans hk4 (fun _ _ f => f)
      clear hown hown1 hkp hon1 hza hzl hG hG2 hs4 o4 hk4 hsrc hgl
      go_wp2_with (at_builtin; refine wpList_append_run rfl _ _ _ rfl rfl rfl Hr ?_)
      refine HG.out.mono ?_
      rintro e w' ⟨rfl, hw⟩; replace hw := hw.symm; subst hw
      go_wp2_with fail
      refine HG2.out.mono ?_
      rintro e w' ⟨rfl, hw⟩; replace hw := hw.symm; subst hw
      go_wp2_with (go_at_call 14; refine (num_any _ _).mono ?_; rintro e w' ⟨rfl, hw⟩; replace hw := hw.symm; subst hw)
      go_ret
      exact ⟨rfl, HK4.out⟩
end Go.Proofs.Ytjjjkioicdebhaa.U
