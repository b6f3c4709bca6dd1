/-
  The bytes of every list, by the code and by the document, and that they are read again.
-/
import Derived.Test.YtpbeenhaaaocpaaLread14
namespace Go.Proofs.Ytpbeenhaaaocpaa.Po
open Go.RowKit Go.Proofs.Lys
set_option linter.unusedVariables false

theorem uN_nat {x : Int} (h : 0 ≤ x) (h2 : x < 18446744073709551616) : ((U.uN x : Nat) : Int) = x := by
  unfold U.uN
  rw [Int.emod_eq_of_lt h h2]
  omega
theorem rd_gap (more : List UInt8) : ∀ (l : List Int) (last : Int) (acc : List Int) (at_ : Nat), upB last l = true → -1 ≤ last → rdA l.length last acc at_ (gapB last l ++ more) = some (acc ++ l, at_ + (gapB last l).length) := by
  intro l
  induction l with
  | nil =>
    intro last acc at_ _ _
    rw [List.length_nil, rdA, gapB]
    simp
  | cons x t ih =>
    intro last acc at_ h h0
    obtain ⟨h1, h2, h3⟩ := up_cons.1 h
    have hu := uN_nat (x := x - last - 1) (by omega) (by omega)
    rw [gapB, List.append_assoc, List.length_cons, List.length_append]
    generalize U.uN (x - last - 1) = u at hu
    have hn := num_put (u := u) (by omega) (gapB x t ++ more)
    rw [rd_go hn (by omega), List.drop_append_of_le_length (Nat.le_refl _), List.drop_length, List.nil_append, show last + (u : Int) + 1 = x by omega, ih x _ _ h3 (by omega), List.append_assoc]
    simp only [List.singleton_append, Option.some.injEq, Prod.mk.injEq, true_and]
    omega
theorem read_back {l : List Int} (h : upB (-1) l = true) (hl : l.length ≤ 10000) (more : List UInt8) : readR (packL l ++ more) = some (l, (packL l).length) := by
  have hu := uN_nat (x := (l.length : Int)) (by omega) (by omega)
  unfold readR packL
  rw [List.append_assoc, List.length_append]
  generalize U.uN (l.length : Int) = u at hu
  have hul : u = l.length := by omega
  rw [num_put (u := u) (by omega)]
  simp only
  rw [if_pos (by omega), List.drop_append_of_le_length (Nat.le_refl _), List.drop_length, List.nil_append, hul, rd_gap more l (-1) [] _ h (by omega)]
  rfl

set_option maxRecDepth 100000 in
set_option maxHeartbeats 3200000 in
theorem pack_walk (w : World) (v vm : Value) (l : List Int) (bs : List UInt8) (h : IIn w v l) (hb : BIn w vm bs) :
    Calls Try.prog 5 #[v, vm] w fun e w' => e = .returned (.bool true) ∧ Kept w w' := by
  obtain ⟨hs, hm⟩ := h
  obtain ⟨hbs, hbm⟩ := hb
  obtain ⟨a, c, rfl⟩ := hs.len
  obtain ⟨a2, c2, rfl⟩ : ∃ a c, vm = .slice a bs.length c := ⟨_, _, hbs.2.choose_spec.choose_spec.1⟩
  have HS := hid hs
  have HB := hid hbs
  have HA := hid (alive_any w)
  obtain ⟨L, hL⟩ : ∃ L, l.length = L := ⟨_, rfl⟩
  obtain ⟨M, hM⟩ : ∃ M, bs.length = M := ⟨_, rfl⟩
  have HL := hid hL
  have HM := hid hM
  rw [hL] at hm HS ⊢
  rw [hM] at hbm HB ⊢
  clear hs hbs hL hM
  by_cases hl : L ≤ 2000
  · by_cases hl2 : M ≤ 1000
    · have HP := hid (fun (W : World) (k : Kept w W) => pack_any W _ l (HS.out.stay k).1 (by have := HL.out; omega))
      have HQ := hid (fun (W : World) (k : Kept w W) => rpack_any W _ l (HS.out.stay k).1 (by have := HL.out; omega))
      have HC : Hid ((packR l).2 = 1 ∧ (packR l).1 = [] ∨ (packR l).2 = 0 ∧ (packR l).1.length ≤ 100000 ∧ readR ((packR l).1 ++ bs) = some (l, (packR l).1.length)) := by
        have h1 : ¬ 10000 < l.length := by have := HL.out; omega
        cases h2 : upB (-1) l with
        | false =>
          refine hid (.inl ?_)
          rw [pack_bad h1 h2]
          exact ⟨rfl, rfl⟩
        | true =>
          refine hid (.inr ?_)
          rw [pack_good h1 h2]
          exact ⟨rfl, by have := pack_len l; have := HL.out; simp only; omega, read_back h2 (by omega) bs⟩
      unfold PackPost at HP HQ
      generalize packR l = Q at HP HQ HC
      obtain ⟨pb, px⟩ := Q
      simp only at HP HQ HC
      go_enter Try.func5, Try.ntmps5
      go_wp2_with fail
      refine HA.out.mono ?_
      rintro e w1 ⟨rfl, k1⟩
      have HK1 := hid k1
      clear k1 HA
      go_wp2_with fail
      refine (HP.out _ HK1.out).mono ?_
      rintro e w2 ⟨u2, rfl, ho2, k2⟩
      have HO2 := hid ho2
      have HK2 := hid (HK1.out.trans k2 (fun _ _ f => f))
      clear k2 HK1
      go_wp2_with fail
      refine (HQ.out _ HK2.out).mono ?_
      rintro e w3 ⟨u3, rfl, ho3, k3⟩
      have HK3 := hid (HK2.out.trans k3 (fun _ _ f => f))
      have hc2 := bytes_str ((own_src HO2.out).stay k3)
      have hc3 := bytes_str (own_src ho3)
      have hse := str_eq pb pb
      rw [decide_eq_true rfl] at hse
      have HO2b := hid (own_only HO2.out k3 (fun _ _ f => f))
      obtain ⟨a4, c4, rfl⟩ := own_slice ho2
      obtain ⟨a5, c5, rfl⟩ := own_slice ho3
      clear k3 ho2 ho3
      generalize (⟨pb.toArray⟩ : ByteArray) = SB at hc2 hc3 hse
      rcases HC.out with ⟨h1, h2⟩ | ⟨h1, hpl, hrd⟩
      · subst h1
        clear h2 HC
        go_wp2_with (go_at_call 20; refine (num_any _ _).mono ?_; rintro e w' ⟨rfl, hw⟩; replace hw := hw.symm; subst hw)
        go_ret
        exact ⟨rfl, HK3.out⟩
      · subst h1
        obtain ⟨v4, w4, Hr4, ho4, k4⟩ := copy_bytes (own_src HO2b.out) (by omega)
        have hk34 := HK3.out.trans k4 (fun _ _ f => f)
        obtain ⟨v5, w5, Hr5, ho5, hg5, _⟩ := append_src (P := Try.prog) Try.underlying31 Try.infoB rfl (by decide) ho4 (HB.out.stay hk34).1 (bytes_one bs) (by have := HM.out; simp; omega) k4.size
        have HR5 := hid Hr5
        have ho5' : w5.ownsRow w3.heap.size 5 1 v5 (pb ++ bs).length ((pb ++ bs).map bV) := by
          rw [List.map_append, List.length_append]
          simpa using ho5
        have hk35 : Kept w3 w5 := k4.grown hg5 (fun k e hk => by have := (ho4.lt k e).1; omega)
        have HK5 := hid (HK3.out.trans hk35 (fun _ _ f => f))
        have HU := hid (unpack_any w5 v5 (pb ++ bs) (own_bsrc ho5') (by have := HM.out; rw [List.length_append]; omega))
        rw [hrd] at HU
        have HPL := hid hpl
        obtain ⟨PL, hPL⟩ : ∃ PL, pb.length = PL := ⟨_, rfl⟩
        rw [hPL] at Hr4 HU hc2 hc3 ⊢
        clear Hr5 ho5 ho5' hk35 hg5 ho4 k4 hk34 hrd hpl hPL HC
        go_wp2_with (first | (at_builtin; refine wpList_append_run rfl _ _ _ rfl rfl rfl Hr4 ?_) | (at_builtin; refine wpList_append_run rfl _ _ _ rfl rfl rfl HR5 ?_) | (go_at_call 20; refine (num_any _ _).mono ?_; rintro e w' ⟨rfl, hw⟩; replace hw := hw.symm; subst hw))
        refine HU.out.mono ?_
        rintro e w6 ⟨k6, hR6⟩
        rcases hR6 with ⟨h, _⟩ | ⟨u6, l6, k6', h, rfl, ho6⟩
        · cases h
        · simp only [Option.some.injEq, Prod.mk.injEq] at h
          obtain ⟨rfl, rfl⟩ := h
          have HK6 := hid (HK5.out.trans k6 (fun _ _ f => f))
          have HO6 := hid ho6
          clear k6 ho6 HU
          go_wp2_with (go_at_call 20; refine (num_any _ _).mono ?_; rintro e w' ⟨rfl, hw⟩; replace hw := hw.symm; subst hw)
          refine (same_any _ _ _ l (own_src HO6.out) (HS.out.stay HK6.out).1 (by have := HL.out; omega)).mono ?_
          rintro e w7 ⟨rfl, k7⟩
          have HK7 := hid (HK6.out.trans k7 (fun _ _ f => f))
          clear k7
          go_wp2_with fail
          go_ret
          exact ⟨rfl, HK7.out⟩
    · clear HS HB HL HM
      go_enter Try.func5, Try.ntmps5
      go_wp2_with fail
      refine HA.out.mono ?_
      rintro e w1 ⟨rfl, k1⟩
      go_wp2_with fail
      go_ret
      exact ⟨rfl, k1⟩
  · clear HS HB HL HM
    go_enter Try.func5, Try.ntmps5
    go_wp2_with fail
    refine HA.out.mono ?_
    rintro e w1 ⟨rfl, k1⟩
    go_wp2_with fail
    go_ret
    exact ⟨rfl, k1⟩
end Go.Proofs.Ytpbeenhaaaocpaa.Po
