/-
  The walk of the law VarintPuts.
-/
import Derived.Test.YtjjjkioicdebhaaVlaw
import Derived.Deep.RegionHeld
namespace Go.Proofs.Ytjjjkioicdebhaa.U
open Go.RowKit Go.Proofs.Lys
set_option linter.unusedVariables false

/-- A copy of bytes with others behind it. -/
theorem copy_two {w : World} {v0 v1 : Value} {a b : List UInt8} (h0 : SrcOf w v0 (a.map bV)) (h1 : SrcOf w v1 (b.map bV)) (hl : a.length + b.length ≤ 1000000) :
    ∃ u0 w0 u1 w1, Hid ((Builtin.append_ #[22, 22] 0 #[.slice none 0 0, v0]).run Try.prog w = .ok u0 w0) ∧ Hid ((Builtin.append_ #[22, 22] 0 #[u0, v1]).run Try.prog w0 = .ok u1 w1) ∧ SrcOf w1 u1 ((a ++ b).map bV) ∧ Kept w w1 := by
  obtain ⟨u0, w0, hrun, hown, hgrow, _⟩ := append_src (P := Try.prog) Try.underlying22 Try.infoB rfl (by decide) (World.ownsRow_nil w w.heap.size 5 1) h0 (bytes_one a) (by simp; omega) (Nat.le_refl _)
  have hk : Kept w w0 := (Only.refl _ w).grown hgrow (fun k hk _ => by cases hk)
  rw [List.length_map, Nat.zero_add, List.nil_append] at hown
  obtain ⟨u1, w1, hrun1, hown1, hgrow1, _⟩ := append_src (P := Try.prog) Try.underlying22 Try.infoB rfl (by decide) hown (h1.stay hk) (bytes_one b) (by simp; omega) hk.size
  refine ⟨u0, w0, u1, w1, hrun, hrun1, ?_, ?_⟩
  · rw [List.map_append]
    exact own_src hown1
  · have h2 : Only (fun k => u0.ownBlock = some k) w0 w1 := (Only.refl _ w0).grown hgrow1 (fun j hj _ => hj)
    exact hk.trans h2 (fun j hj e => absurd hj (by have := (hown.lt j e).1; omega))

set_option maxRecDepth 100000 in
set_option maxHeartbeats 3200000 in
theorem puts_walk (w : World) (n : Int) (v : Value) (bs : List UInt8) (hn : In64 n) (h : SrcOf w v (bs.map bV)) : Calls Try.prog 3 #[.int .i64 n, v] w fun e w' => e = .returned (.bool true) ∧ Kept w w' := by
  obtain ⟨a, c, e0⟩ := h.len
  rw [List.length_map] at e0
  obtain ⟨L, hL⟩ : ∃ L, bs.length = L := ⟨_, rfl⟩
  rw [hL] at e0
  subst e0
  have hnot : ∀ (x : Bool) (w : World), (Op.unary .not (.bool x)).run Try.prog w = .ok (.bool (!x)) w := fun _ _ => rfl
  by_cases hb : 1000 < L
  · go_enter Try.func3, Try.ntmps3
    go_wp2_with (go_at_call 7; refine (alive_any _).mono ?_; rintro e w1 ⟨rfl, hk⟩)
    go_ret
    exact ⟨rfl, hk⟩
  have d0 : decide ((1000 : Int) < (L : Int)) = false := by simp; omega
  have p1 := fun w => put_any w n
  have p2 := fun w => signed_any w n hn
  have p3 := fun w => rput_any w n
  have p4 := fun w => rsigned_any w n hn
  have g1 := get_put0 (uN_lt n) bs
  have g2 := get_put0 (zigN_lt hn) bs
  have l1 := putN_ten (uN_lt n)
  have l2 := putN_ten (zigN_lt hn)
  obtain ⟨B, hB⟩ : ∃ B, putN (uN n) = B := ⟨_, rfl⟩
  obtain ⟨S, hS⟩ : ∃ S, putN (zigN n) = S := ⟨_, rfl⟩
  rw [hB] at p1 p3 g1 l1
  rw [hS] at p2 p4 g2 l2
  have q1 := fun w v (h : SrcOf w v ((B ++ bs).map bV)) => get_any w v (B ++ bs) h (by rw [List.length_append]; omega)
  have q2 := fun w v (h : SrcOf w v ((S ++ bs).map bV)) => getS_any w v (S ++ bs) h (by rw [List.length_append]; omega)
  rw [g1] at q1
  rw [g2] at q2
  have e1 : got (uN n, B.length, 0) = .tuple #[.int .i64 n, .int .i64 (B.length : Int), .int .i64 0] := by
    show Value.tuple #[.int .i64 (wrap64 ((uN n : Nat) : Int)), _, _] = _
    rw [uN_back hn]
    rfl
  have e2 : gotS (zigN n, S.length, 0) = .tuple #[.int .i64 n, .int .i64 (S.length : Int), .int .i64 0] := by
    show Value.tuple #[.int .i64 (zagI (zigN n)), _, _] = _
    rw [zag_zig hn]
  rw [e1] at q1
  rw [e2] at q2
  have P1 := hid p1
  have P2 := hid p2
  have P3 := hid p3
  have P4 := hid p4
  have Q1 := hid q1
  have Q2 := hid q2
  have H := hid h
  have HL := hid hL
  clear p1 p2 p3 p4 q1 q2 g1 g2 e1 e2 hB hS h hL
  go_enter Try.func3, Try.ntmps3
  go_wp2_with fail
  refine (alive_any _).mono ?_
  rintro e w1 ⟨rfl, hk1⟩
  have HK1 := hid hk1
  clear hk1
  go_wp2_with fail
  refine (P1.out _).mono ?_
  rintro e w2 ⟨vB, rfl, oB, hk2⟩
  go_wp2_with fail
  refine (P2.out _).mono ?_
  rintro e w3 ⟨vS, rfl, oS, hk3⟩
  have K3 : Kept w w3 := (HK1.out.trans hk2 (fun _ _ f => f)).trans hk3 (fun _ _ f => f)
  have oB3 := own_only oB hk3 (fun _ _ f => f)
  obtain ⟨u0, w4, u1, w5, r1, r2, s1, k5⟩ := copy_two (own_src oB3) (H.out.stay K3) (by have := HL.out; omega)
  have hQ1 := Q1.out _ _ s1
  have oS5 := own_only oS k5 (fun _ _ f => f)
  have oB5 := own_only oB3 k5 (fun _ _ f => f)
  have K5 : Kept w w5 := K3.trans k5 (fun _ _ f => f)
  obtain ⟨t0, w6, t1, w7, r3, r4, s2, k7⟩ := copy_two (own_src oS5) (H.out.stay K5) (by have := HL.out; omega)
  have hQ2 := Q2.out _ _ s2
  have oS7 := own_only oS5 k7 (fun _ _ f => f)
  have oB7 := own_only oB5 k7 (fun _ _ f => f)
  have K7 : Kept w w7 := K5.trans k7 (fun _ _ f => f)
  have OS := hid oS7
  have OB := hid oB7
  have HK7 := hid K7
  clear oB oS hk2 hk3 K3 oB3 s1 k5 oS5 oB5 K5 s2 k7 oS7 oB7 K7
  go_wp2_with (at_builtin; first | refine wpList_append_run rfl _ _ _ rfl rfl rfl r1 ?_ | refine wpList_append_run rfl _ _ _ rfl rfl rfl r2 ?_)
  refine hQ1.mono ?_
  rintro e w' ⟨rfl, hw⟩; replace hw := hw.symm; subst hw
  go_wp2_with (at_builtin; first | refine wpList_append_run rfl _ _ _ rfl rfl rfl r3 ?_ | refine wpList_append_run rfl _ _ _ rfl rfl rfl r4 ?_)
  refine hQ2.mono ?_
  rintro e w' ⟨rfl, hw⟩; replace hw := hw.symm; subst hw
  clear hQ1 hQ2 r1 r2 r3 r4
  go_wp2_with fail
  have ob1 := fun W (h : Kept w7 W) => bytes_conv (own_src (own_only OB.out h (fun _ _ f => f)))
  have os1 := fun W (h : Kept w7 W) => bytes_conv (own_src (own_only OS.out h (fun _ _ f => f)))
  have C1 := hid ob1
  have C2 := hid os1
  have cB0 := ob1 w7.drew (Only.refl _ _).drew
  have cS0 := os1 w7.drew (Only.refl _ _).drew
  obtain ⟨aB, kB, eB⟩ := own_slice OB.out
  obtain ⟨aS, kS, eS⟩ := own_slice OS.out
  subst eB
  subst eS
  clear ob1 os1
  clear P1 P2 Q1 Q2 H HL HK1 hnot d0 hb OB OS
  generalize B.length = lB at *
  generalize S.length = lS at *
  generalize hBs : (⟨B.toArray⟩ : ByteArray) = sB at *
  generalize hSs : (⟨S.toArray⟩ : ByteArray) = sS at *
  have D3 : Hid (∀ W, Calls Try.prog 12 #[.int .i64 n] W fun e w' => ∃ v, e = .returned v ∧ Kept W w' ∧ (convert 22 9 v).run Try.prog w' = .ok (.string sB) w') := fun W => (P3.out W).mono (by rintro e wA ⟨vA, rfl, oA, kA⟩; exact ⟨vA, rfl, kA, by rw [← hBs]; exact bytes_conv (own_src oA)⟩)
  have D4 : Hid (∀ W, Calls Try.prog 13 #[.int .i64 n] W fun e w' => ∃ v, e = .returned v ∧ Kept W w' ∧ (convert 22 9 v).run Try.prog w' = .ok (.string sS) w') := fun W => (P4.out W).mono (by rintro e wA ⟨vA, rfl, oA, kA⟩; exact ⟨vA, rfl, kA, by rw [← hSs]; exact bytes_conv (own_src oA)⟩)
  clear P3 P4 hBs hSs
  go_region_held (fun w' => (convert 22 9 (.slice aB lB kB)).run Try.prog w' = .ok (.string sB) w' ∧ (convert 22 9 (.slice aS lS kS)).run Try.prog w' = .ok (.string sS) w')
    (first | exact ⟨cB0, cS0⟩ | exact ⟨cB1, cS1⟩ | exact ⟨cB2, cS2⟩)
    ((first
    | (go_at_call 12; refine (D3.out _).mono ?_; rintro e wA ⟨vA, rfl, kA, cA⟩; have cB1 := C1.out wA ((Only.refl _ _).drew.trans kA (fun _ _ f => f)); have cS1 := C2.out wA ((Only.refl _ _).drew.trans kA (fun _ _ f => f)))
    | (go_at_call 13; refine (D4.out _).mono ?_; rintro e wC ⟨vC, rfl, kC, cC⟩; have cB2 := C1.out wC (((Only.refl _ _).drew.trans kA (fun _ _ f => f)).trans kC (fun _ _ f => f)); have cS2 := C2.out wC (((Only.refl _ _).drew.trans kA (fun _ _ f => f)).trans kC (fun _ _ f => f)))
    | (go_at_call 14; refine (num_any _ _).mono ?_; rintro e w' ⟨rfl, hw⟩; replace hw := hw.symm; subst hw)))
  all_goals
    go_wp2
    go_ret
    exact ⟨rfl, ((HK7.out.drew.trans kA (fun _ _ f => f)).trans kC (fun _ _ f => f))⟩
end Go.Proofs.Ytjjjkioicdebhaa.U
