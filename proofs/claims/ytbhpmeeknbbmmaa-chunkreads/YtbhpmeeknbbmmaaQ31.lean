/-
  Cu5.
-/
import Derived.Test.YtbhpmeeknbbmmaaQ29
import Derived.Test.YtbhpmeeknbbmmaaQ07

/-
  Package chunk: the parts of bytes, by an iterator that is ranged over.
-/
namespace Go.Proofs.Ytbhpmeeknbbmmaa.C
open Go.RowKit Go.Proofs.Lys Go.Shelf
set_option linter.unusedVariables false
attribute [local go_sem] Oper.semAt_some

/-- A part of bytes: from where, up to where. -/
abbrev PartI (L : Nat) := { x : Nat × Nat // x.1 ≤ x.2 ∧ x.2 ≤ L }
def partV (b o : Nat) {L : Nat} (x : PartI L) : Value := .slice (some ⟨b, if x.1.2 = x.1.1 then o else o + x.1.1, none⟩) (x.1.2 - x.1.1) (x.1.2 - x.1.1)
def partB (bs : List UInt8) (x : PartI bs.length) : List UInt8 := (bs.take x.1.2).drop x.1.1
theorem partB_len (bs : List UInt8) (x : PartI bs.length) : (partB bs x).length = x.1.2 - x.1.1 := by
  have := x.2
  unfold partB
  rw [List.length_drop, List.length_take]
  omega
/-- Where the parts end that have come. -/
def endP {L : Nat} (pre : List (PartI L)) : Nat := (pre.getLast?.map (fun x => x.1.2)).getD 0
theorem endP_snoc {L : Nat} (pre : List (PartI L)) (x : PartI L) : endP (pre ++ [x]) = x.1.2 := by simp [endP]
/-- The parts, one behind the other. -/
def PartsC (bs : List UInt8) (at_ : Nat) : List (PartI bs.length) → Prop
  | [] => True
  | x :: r => cutR (bs.drop at_) = some (partB bs x, bs.drop x.1.2) ∧ at_ < x.1.2 ∧ PartsC bs x.1.2 r
theorem PartsC_snoc (bs : List UInt8) (x : PartI bs.length) : ∀ (pre : List (PartI bs.length)) (at_ e : Nat), PartsC bs at_ pre → e = (pre.getLast?.map (fun x => x.1.2)).getD at_ → cutR (bs.drop e) = some (partB bs x, bs.drop x.1.2) → e < x.1.2 → PartsC bs at_ (pre ++ [x])
  | [], at_, e, _, h1, h2, h3 => by
    have e1 : e = at_ := by simpa using h1
    subst e1
    exact ⟨h2, h3, trivial⟩
  | y :: r, at_, e, ⟨a, b, c⟩, h1, h2, h3 => by
    refine ⟨a, b, PartsC_snoc bs x r y.1.2 e c ?_ h2 h3⟩
    rw [h1]
    cases r with
    | nil => simp
    | cons z r => simp [List.getLast?_cons]

theorem getA_pos (l : List UInt8) : ∀ i n, (getA l i n).2.2 = 0 → i < (getA l i n).2.1 := by
  induction l with
  | nil => intro i n h; simp [getA] at h
  | cons c t ih =>
    intro i n
    unfold getA
    have := ih (i + 1) (n + c.toNat % 128 * 2 ^ (7 * i))
    split
    · intro h; simp at h
    · split
      · intro h
        have := this h
        omega
      · split
        · intro h; simp at h
        · intro _
          show i < i + 1
          omega

theorem bslice3 (b o L c lo hi : Nat) (h1 : lo ≤ hi) (h2 : hi ≤ L) (h3 : L ≤ c) (W : World) : (Instr.sliceAt 23 (.slice (some ⟨b, o, none⟩) L c) (some (.int .i64 (lo : Int))) (some (.int .i64 (hi : Int))) (some (.int .i64 (hi : Int)))).run Try.prog W = .ok (partV b o (⟨(lo, hi), h1, h2⟩ : PartI L)) W := by
  have hz : ∀ W, (sizeOf 5).run Try.prog W = .ok 1 W := fun W => by kernel_rfl
  have e2 : hi ≤ c := by omega
  unfold partV
  by_cases e3 : hi = lo
  · subst e3
    simp [Instr.sliceAt, Instr.slice, Instr.sliceBounds, Instr.sliceBound, run_underlying Try.underlying23, asIntOf, e2, hz, Result.andThen]
  · simp [Instr.sliceAt, Instr.slice, Instr.sliceBounds, Instr.sliceBound, run_underlying Try.underlying23, asIntOf, h1, e2, e3, hz, Result.andThen, add_none]

theorem part_bsrc {w : World} {b o c : Nat} {bs : List UInt8} (h : BSrc w (.slice (some ⟨b, o, none⟩) bs.length c) bs) (x : PartI bs.length) : BSrc w (partV b o x) (partB bs x) := by
  have hx := x.2
  have hlen := partB_len bs x
  refine ⟨?_, _, _, by rw [hlen]; rfl, by rw [hlen]; exact Nat.le_refl _⟩
  refine .inr ⟨_, _, by rw [List.length_map, hlen]; rfl, fun j u hu => ?_⟩
  have hj : j < (partB bs x).length := by
    have := (List.getElem?_eq_some_iff.1 hu).1
    rwa [List.length_map] at this
  rw [hlen] at hj
  rw [if_neg (by omega), add_none]
  rcases h.1 with ⟨e, _⟩ | ⟨a, c', e, hc⟩
  · cases e
  · rw [List.length_map] at e
    cases e
    have := hc (x.1.1 + j) u (by
      rw [List.getElem?_map] at hu ⊢
      unfold partB at hu
      rw [List.getElem?_drop, List.getElem?_take, if_pos (by omega)] at hu
      exact hu)
    rw [add_none] at this
    rw [Nat.add_assoc]
    exact this

set_option maxRecDepth 100000 in
set_option maxHeartbeats 3200000 in
theorem parts1_in (n : Nat) (hn : 1 ≤ n) (l Bn b o c : Nat) (bs : List UInt8) (hL : bs.length ≤ 100000) (a : Option Addr) (w : World) (hs : BSrc w (.slice a bs.length c) bs) (ha : 0 < bs.length → a = some ⟨b, o, none⟩) (J Jx : List (PartI bs.length) → World → Prop)
    (hY : ∀ pre x W, J pre W → pre.length < bs.length + 1 → YieldAt Fence.wide (n - 1) Try.prog l #[.int .i64 (x.1.2 : Int), partV b o x] W fun e W' =>
      (e = .returned (.bool true) ∧ J (pre ++ [x]) W' ∧ KpB w.heap.size Bn W W') ∨ (e = .returned (.bool false) ∧ Jx (pre ++ [x]) W'))
    (W : World) (hBn : W.cell? ⟨Bn, 0, none⟩ = some (.slice a bs.length c)) (hbel : Below w.heap.size w W) (h0 : J [] W) :
    CallsIn Fence.wide n Try.prog 58 #[.func (.yield l) #[] #[], .pointer (some ⟨Bn, 0, none⟩)] W fun e W' => (∃ v, e = .returned v) ∧
      ((∃ ys, (PartsC bs 0 ys ∧ cutR (bs.drop (endP ys)) = none) ∧ J ys W') ∨ (∃ pre, PartsC bs 0 pre ∧ Jx pre W')) := by
  refine callsIn_of_wp Try.func58 rfl trivial ?_ rfl
  simp only [Try.ntmps58, List.size_toArray, List.length_cons, List.length_nil, Nat.reduceAdd, Nat.reduceSub, Array.replicate_succ, Array.replicate_zero, List.push_toArray, List.append_toArray, List.nil_append, List.cons_append]
  have hnot : ∀ (x : Bool) (w : World), (Op.unary .not (.bool x)).run Try.prog w = .ok (.bool (!x)) w := fun _ _ => rfl
  obtain ⟨L, hLe⟩ : ∃ L, bs.length = L := ⟨_, rfl⟩
  have HLe := hid hLe
  have hlc : L ≤ c := by obtain ⟨_, x, y, e, h⟩ := hs; cases e; omega
  have HS := hid hs
  have HY := hid hY
  rw [hLe] at ha hBn hL
  clear hs hY hLe
  gi_wp2
  gi_loopw [3] (fun p wr => ∃ (pre : List (PartI bs.length)) (k : Nat), p = .int .i64 (k : Int) ∧ PartsC bs 0 pre ∧ endP pre = k ∧ pre.length ≤ k ∧ k ≤ L ∧ J pre wr ∧ wr.cell? ⟨Bn, 0, none⟩ = some (.slice a L c) ∧ Below w.heap.size w wr) (fun p _ => L - (intOf p).toNat)
  case atStart => exact ⟨[], 0, rfl, trivial, rfl, Nat.le_refl _, Nat.zero_le _, h0, hBn, hbel⟩
  case round =>
    obtain ⟨pre, k, rfl, hC, hE, hp, hk, hJ, hcell, hbr⟩ := hrel
    have hBS := HS.out.stay (Only.below hbr)
    obtain ⟨a1, c1, hr1, hb1⟩ := hBS.tail (lo := k) (by have := HLe.out; omega)
    have hg := U.get_any wr _ (bs.drop k) hb1.1 (by rw [List.length_drop]; have := HLe.out; omega)
    have hle := getA_le (bs.drop k) 0 0
    have hpos := getA_pos (bs.drop k) 0 0
    rw [List.length_drop, Nat.zero_add, HLe.out] at hle
    obtain ⟨⟨u, kk, er⟩, hG⟩ : ∃ x, getA (bs.drop k) 0 0 = x := ⟨_, rfl⟩
    rw [hG] at hg hle hpos
    simp only at hle hpos
    unfold U.got at hg
    simp only at hg
    obtain ⟨Z, hZ⟩ : ∃ Z, wrap64 (u : Int) = Z := ⟨_, rfl⟩
    rw [hZ] at hg
    obtain ⟨F, hF⟩ : ∃ F : Nat, k + kk = F := ⟨_, rfl⟩
    have hFi : (k : Int) + (kk : Int) = (F : Int) := by omega
    have HCR : Hid (cutR (bs.drop k) = if er ≠ 0 ∨ Z < 0 ∨ (L : Int) - (F : Int) < Z then none else some (((bs.drop k).drop kk).take Z.toNat, ((bs.drop k).drop kk).drop Z.toNat)) := by
      show _ = _
      unfold cutR
      rw [hG]
      simp only
      rw [hZ, List.length_drop, show ((bs.length - k : Nat) : Int) - (kk : Int) = (L : Int) - (F : Int) by have := HLe.out; omega]
    rw [HLe.out] at hr1 hg
    have HC := hid hC
    have HE := hid hE
    have HBel := hid hbr
    clear hBS hb1 hG hZ hC hE hbr
    have HFk := hid hF
    clear hF
    by_cases he : er = 0
    · subst he
      have hkk := hpos rfl
      by_cases hz0 : Z < 0
      · rw [if_pos (.inr (.inl hz0))] at HCR
        gi_wp2_with (refine ⟨trivial, ?_⟩; gi_at_call 25; refine (callsIn_wide.2 hg).mono ?_; rintro e w' ⟨rfl, hw⟩; replace hw := hw.symm; subst hw)
        refine bodyPost_ret (results_none rfl _ _ _) rfl ?_
        exact ⟨⟨_, rfl⟩, .inl ⟨_, ⟨HC.out, by rw [HE.out]; exact HCR.out⟩, hJ⟩⟩
      · by_cases hz1 : (L : Int) - (F : Int) < Z
        · rw [if_pos (.inr (.inr hz1))] at HCR
          gi_wp2_with (refine ⟨trivial, ?_⟩; gi_at_call 25; refine (callsIn_wide.2 hg).mono ?_; rintro e w' ⟨rfl, hw⟩; replace hw := hw.symm; subst hw)
          refine bodyPost_ret (results_none rfl _ _ _) rfl ?_
          exact ⟨⟨_, rfl⟩, .inl ⟨_, ⟨HC.out, by rw [HE.out]; exact HCR.out⟩, hJ⟩⟩
        · rw [if_neg (fun h => h.elim (fun h => h rfl) (fun h => h.elim hz0 hz1))] at HCR
          obtain ⟨z, rfl⟩ : ∃ z : Nat, Z = (z : Int) := ⟨Z.toNat, by omega⟩
          rw [Int.toNat_natCast] at HCR
          obtain ⟨T, hT⟩ : ∃ T : Nat, F + z = T := ⟨_, rfl⟩
          have hTi : (F : Int) + (z : Int) = (T : Int) := by omega
          have HT := hid hT
          have hTl : T ≤ L := by omega
          have hFT : F ≤ T := by omega
          have hTb : T ≤ bs.length := by have := HLe.out; omega
          have hkT : k < T := by have := HFk.out; omega
          obtain rfl := ha (by omega)
          have HX : Hid (cutR (bs.drop k) = some (partB bs ⟨(F, T), hFT, hTb⟩, bs.drop T)) := by
            have := HFk.out
            show _ = _
            rw [HCR.out]
            unfold partB
            simp only
            rw [List.drop_take, List.drop_drop, List.drop_drop, show T - F = z by omega, show k + kk = F by omega, hT]
          have hsl := bslice3 b o bs.length c F T hFT hTb (by have := HLe.out; omega)
          obtain ⟨fn, tmps, assign, body, hy, hR⟩ := HY.out pre ⟨(F, T), hFT, hTb⟩ wr hJ (by have := HLe.out; omega)
          simp only at hy
          have HN : Hid (PartsC bs 0 (pre ++ [(⟨(F, T), hFT, hTb⟩ : PartI bs.length)]) ∧ endP (pre ++ [(⟨(F, T), hFT, hTb⟩ : PartI bs.length)]) = T) :=
            ⟨PartsC_snoc bs _ pre 0 k HC.out HE.out.symm HX.out hkT, endP_snoc _ _⟩
          obtain ⟨PV, hPV⟩ : ∃ v, partV b o (⟨(F, T), hFT, hTb⟩ : PartI bs.length) = v := ⟨_, rfl⟩
          rw [hPV] at hy hsl
          rw [HLe.out] at hsl
          have hd0 : decide ((z : Int) < 0) = false := by simp
          have hd1 : decide ((L : Int) - (F : Int) < (z : Int)) = false := by simp; omega
          clear hPV hT hz0 hz1
          gi_wp2_with (refine ⟨trivial, ?_⟩; gi_at_call 25; refine (callsIn_wide.2 hg).mono ?_; rintro e w' ⟨rfl, hw⟩; replace hw := hw.symm; subst hw)
          refine hR.mono ?_
          rintro e W3 (⟨rfl, hJ3, hk3⟩ | ⟨rfl, hJx3⟩)
          · have hc3 := hk3.cell hcell
            have HB3 : Hid (Below w.heap.size w W3) := HBel.out.trans hk3.1
            clear hR hy hg hk3
            gi_wp2
            go_roundw
            case rel => exact ⟨_, T, by go_num, HN.out.1, HN.out.2, by simp; omega, hTl, hJ3, hc3, HB3.out⟩
            case measure => simp [intOf]; omega
          · clear hR hy hg
            gi_wp2
            refine bodyPost_ret (results_none rfl _ _ _) rfl ?_
            exact ⟨⟨_, rfl⟩, .inr ⟨_, HN.out.1, hJx3⟩⟩
    · rw [if_pos (.inl he)] at HCR
      have he' : ((er : Int) == 0) = false := by simp [he]
      have he2 : ((er : Int) != 0) = true := by simp [he]
      gi_wp2_with (refine ⟨trivial, ?_⟩; gi_at_call 25; refine (callsIn_wide.2 hg).mono ?_; rintro e w' ⟨rfl, hw⟩; replace hw := hw.symm; subst hw)
      refine bodyPost_ret (results_none rfl _ _ _) rfl ?_
      exact ⟨⟨_, rfl⟩, .inl ⟨_, ⟨HC.out, by rw [HE.out]; exact HCR.out⟩, hJ⟩⟩

set_option maxHeartbeats 400000 in
theorem parts_in (n : Nat) (a : Option Addr) (L c : Nat) (w : World) :
    CallsIn Fence.wide n Try.prog 45 #[.slice a L c] w fun e w' => e = .returned (.func (.func 58) #[] #[.pointer (some ⟨w.heap.size, 0, none⟩)]) ∧ w' = w.alloc (.cells #[.slice a L c] 23) := by
  have hmf : ∀ (fn : Fn) (first cap : Array Value) (w : World), (Instr.makeFunc fn first cap).run Try.prog w = .ok (.func fn first cap) w := fun _ _ _ _ => rfl
  refine callsIn_of_wp Try.func45 rfl trivial ?_ rfl
  simp only [Try.ntmps45, List.size_toArray, List.length_cons, List.length_nil, Nat.reduceAdd, Nat.reduceSub, Array.replicate_succ, Array.replicate_zero, List.push_toArray, List.append_toArray, List.nil_append, List.cons_append]
  gi_wp2
  go_ret
  exact ⟨rfl, rfl⟩

theorem parts_stops (n : Nat) (hn : 1 ≤ n) (Bn b o c : Nat) (bs : List UInt8) (hL : bs.length ≤ 100000) (a : Option Addr) (w W0 : World) (hs : BSrc w (.slice a bs.length c) bs) (ha : 0 < bs.length → a = some ⟨b, o, none⟩) (hlt : Bn < W0.heap.size) (hBn : W0.cell? ⟨Bn, 0, none⟩ = some (.slice a bs.length c)) (hb0 : Below w.heap.size w W0) :
    SeqStopsK Fence.wide n Try.prog 58 #[.pointer (some ⟨Bn, 0, none⟩)] (fun x : PartI bs.length => #[.int .i64 (x.1.2 : Int), partV b o x]) (KpB w.heap.size Bn) (fun ys => PartsC bs 0 ys ∧ cutR (bs.drop (endP ys)) = none) (fun pre => PartsC bs 0 pre) (bs.length + 1) W0 := fun l J Jx W hW _ _ hY h0 =>
  parts1_in n hn l Bn b o c bs hL a w hs ha J Jx hY W ((hW.cell (p := ⟨Bn, 0, none⟩) hlt).trans hBn) (hb0.trans (hW.mono hb0.size)) h0
end Go.Proofs.Ytbhpmeeknbbmmaa.C
