/-
  The road of the document's own Parse through its loops: no sign, a point.
-/
import Derived.Test.YtcpgamhekelamaaDoorRmain
namespace Go.Proofs.YtcpgamhekelamaaDoor
open Go.RowKit
set_option linter.unusedVariables false

set_option maxHeartbeats 6400000 in
set_option maxRecDepth 100000 in
theorem rp_main_n (s W F : ByteArray) (n m q : Nat) (w : World) (hm : s.size ≤ 1000) (hnan : (s.toList == [110, 97, 110]) = false) (h0 : 0 < s.size) (hc1 : (((s[0].toNat : Nat) : Int) == 45) = false) (hc2 : (((s[0].toNat : Nat) : Int) == 43) = false) (hinf : ((s.extract 0 s.size).toList == [105, 110, 102]) = false) (hinf2 : (s.toList == [105, 110, 102]) = false) (hn1 : 1 ≤ n) (hn2 : n ≤ 30)
    (hd : ∀ w, Calls Tryd.prog 34 #[.string s, .int .i64 0] w fun e w' => e = .returned (.int .i64 (n : Int)) ∧ w' = w)
    (hsl : ∀ w, (Instr.slice 9 (.string s) (some (.int .i64 0)) (some (.int .i64 (n : Int))) none).run Tryd.prog w = .ok (.string W) w)
    (hd2 : ∀ w, Calls Tryd.prog 34 #[.string s, .int .i64 ((n : Int) + 1)] w fun e w' => e = .returned (.int .i64 (m : Int)) ∧ w' = w) (hp : n < s.size) (hpt : (((s[n].toNat : Nat) : Int) == 46) = true) (hmm : 1 ≤ m) (hmm2 : m ≤ 30) (hne : ((((n : Nat) : Int) + 1 + (m : Int)) == (s.size : Int)) = true)
    (hsl2 : ∀ w, (Instr.slice 9 (.string s) (some (.int .i64 ((n : Int) + 1))) (some (.int .i64 ((n : Int) + 1 + (m : Int)))) none).run Tryd.prog w = .ok (.string F) w)
    (hW : W.size = n) (hWd : Hid (allDig W.data.toList = true)) (hF : F.size = m) (hFd : Hid (allDig F.data.toList = true)) :
    Calls Tryd.prog 20 #[.string s] w fun e w' => e = .returned (.tuple #[.int .i64 (readZ false W.data.toList F.data.toList), .int .i64 0]) ∧ Stay w w' := by
  obtain ⟨i0, hi, hz0, hz1, hz2⟩ := info_parts info3
  go_enter Tryd.func20, Tryd.ntmps20
  go_wp2_with fail
  refine (hd _).mono ?_
  rintro e w1 ⟨rfl, hw1⟩
  replace hw1 := hw1.symm
  subst hw1
  go_wp2_with fail
  refine (hd2 _).mono ?_
  rintro e w1 ⟨rfl, hw1⟩
  replace hw1 := hw1.symm
  subst hw1
  go_wp2_with fail
  clear hd hd2 hsl hsl2 hnan hinf hinf2
  go_loop [10, 11] (fun v k => ∃ j : Nat, j ≤ n ∧ k = .int .i64 (j : Int) ∧ v = .int .u64 (min (numL (W.data.toList.take j)) 1099511627776)) (fun _ k => (n - intOf k).toNat)
  case atStart => exact ⟨0, by omega, rfl, rfl⟩
  case round =>
    obtain ⟨j, j1, rfl, rfl⟩ := hrel
    have x0 : Hid (0 ≤ numL (W.data.toList.take j)) := (numL_bd (all_take hWd.out j)).1
    by_cases hj : j < n
    · have hjW : j < W.size := by omega
      obtain ⟨c0, c1⟩ := dig_num (dig_at W j hjW hWd.out)
      have em := take_more W j hjW
      have e2 := numL_more (W.data.toList.take j) W[j]
      rw [← em] at e2
      unfold digV at e2
      have E2 : Hid _ := e2
      clear em e2
      generalize numL (W.data.toList.take j) = x at *
      obtain ⟨y, hy⟩ : ∃ y, min x 1099511627776 = y := ⟨_, rfl⟩
      have X0 := x0.out
      have y0 : 0 ≤ y := by omega
      have y1 : y ≤ 1099511627776 := by omega
      have HY : Hid (min x 1099511627776 = y) := hy
      rw [hy]
      clear hy X0
      by_cases hbig : 1099511627776 < 10 * y + ((W[j].toNat : Int) - 48)
      · go_wp2
        go_round
        case rel => exact ⟨j + 1, by omega, by go_num, by rw [E2.out]; congr 1; have := HY.out; have := x0.out; omega⟩
        case measure => simp [intOf]; omega
      · go_wp2
        go_round
        case rel => exact ⟨j + 1, by omega, by go_num, by rw [E2.out]; congr 1; have := HY.out; have := x0.out; omega⟩
        case measure => simp [intOf]; omega
    · have ej : j = n := by omega
      subst ej
      have ht := take_all W j (by omega)
      rw [ht] at x0
      rw [ht]
      obtain ⟨x, hx⟩ : ∃ x, numL W.data.toList = x := ⟨_, rfl⟩
      have HX : Hid (numL W.data.toList = x) := hx
      rw [hx] at x0
      rw [hx]
      clear hx
      obtain ⟨y, hy⟩ : ∃ y, min x 1099511627776 = y := ⟨_, rfl⟩
      have X0 := x0.out
      have y0 : 0 ≤ y := by omega
      have y1 : y ≤ 1099511627776 := by omega
      have HY : Hid (min x 1099511627776 = y) := hy
      rw [hy]
      clear hy X0 ht
      have hmk : ∀ w, (Instr.makeSlice 34 (.int .i64 (m : Int)) (.int .i64 (m : Int))).run Tryd.prog w = .ok (.slice (some ⟨w.heap.size, 0, none⟩) m m) (w.alloc (.cells (madeCells #[Value.int .i64 0] m) 3)) := fun w => by
        have := run_make (P := Tryd.prog) w 34 3 i0 (.int .i64 0) Tryd.underlying34 hi hz0 .i64 .i64 (m : Int) (m : Int) (by omega) (by omega) (by rw [hz2]; omega) (by omega)
        rw [Int.toNat_natCast, hz1, Nat.mul_one] at this
        exact this
      have hmade := made_zero m
      have hmsz : (madeCells #[Value.int .i64 0] m).size = m := size_madeCells _ _
      generalize madeCells #[Value.int .i64 0] m = C at *
      have HC : Hid (C.toList = (List.replicate m (0 : Int)).map vI) := hmade
      have HCs : Hid (C.size = m) := hmsz
      clear hmade hmsz
      go_wp2
      go_loopw [13] (fun k wr => ∃ j : Nat, j ≤ m ∧ k = .int .i64 (j : Int) ∧ wr.ownsRow w.heap.size 3 1 (.slice (some ⟨w.heap.size, 0, none⟩) m m) m ((fillL F m j).map vI) ∧ Stay w wr) (fun k _ => (m - intOf k).toNat)
      case atStart =>
        refine ⟨0, by omega, rfl, ?_, (Stay.refl _).alloc _⟩
        have := World.ownsRow_lit (base := w.heap.size) (e := 3) (size := 1) w C m (Nat.le_refl _) (by unfold maxLen; omega) (by rw [HCs.out]; omega)
        rw [HC.out] at this
        exact this
      case round =>
        obtain ⟨k, k1, rfl, hown, hst⟩ := hrel
        by_cases hk : k < m
        · have hkF : k < F.size := by omega
          obtain ⟨c0, c1⟩ := dig_num (dig_at F k hkF hFd.out)
          have hcell : wr.cell? ⟨w.heap.size, k, none⟩ = some (.int .i64 0) := by rw [hown.cellAt k (by omega)]; exact map_at _ _ _ (fill_at F m k hkF hF)
          have hfz : wr.frozen? ⟨w.heap.size, k, none⟩ = false := hown.frozenAt k
          have hset : Hid ((fillL F m k).set k ((F[k].toNat : Int) - 48) = fillL F m (k + 1)) := fill_set F m k hkF hF
          have HO : Hid _ := hown
          have HS : Hid (Stay w wr) := hst
          clear hown hst
          go_wp2
          go_roundw
          case rel =>
            refine ⟨k + 1, by omega, by go_num, ?_, Stay.setCell HS.out (Nat.le_refl _) _⟩
            have := (World.ownsRow.stored HO.out k (.int .i64 ((F[k].toNat : Int) - 48))).1
            rw [map_set, hset.out] at this
            exact this
          case measure => simp [intOf]; omega
        · have ek : k = m := by omega
          subst ek
          have hf0 : fillL F k k = F.data.toList.map digV := by unfold fillL; rw [Nat.sub_self, take_all F k (by omega)]; simp
          rw [hf0] at hown
          have HO : Hid _ := hown
          have HS : Hid (Stay w wr) := hst
          have hFl : Hid (F.data.toList.length = k) := by show _ = _; rw [← Lib.size_eq]; exact hF
          clear hown hst hf0
          go_wp2
          go_loopw [14, 15] (fun f r wq => ∃ (j : Nat) (x : Int) (ds : List Int), j ≤ 32 ∧ r = .int .i64 (j : Int) ∧ f = .int .u64 x ∧ 0 ≤ x ∧ smallZ ds ∧ ds.length = k ∧ numL F.data.toList * 2 ^ j = x * 10 ^ k + numZ ds ∧ wq.ownsRow w.heap.size 3 1 (.slice (some ⟨w.heap.size, 0, none⟩) k k) k (ds.map vI) ∧ Stay w wq) (fun _ r _ => (32 - intOf r).toNat)
          case atStart =>
            refine ⟨0, 0, F.data.toList.map digV, by omega, rfl, rfl, by omega, ?_, by rw [List.length_map]; exact hFl.out, by rw [numZ_map]; simp, HO.out, HS.out⟩
            intro d hd
            obtain ⟨c, hc, rfl⟩ := List.mem_map.mp hd
            exact dig_bd (List.all_eq_true.mp hFd.out c hc)
          case round =>
            obtain ⟨j, f, ds, j1, rfl, rfl, f0, hsm, hdl, heq, hown, hst⟩ := hrel
            have hFb := numL_bd hFd.out
            rw [hFl.out] at hFb
            have fb : Hid (f < 2 ^ j) := dbl_bits _ f _ _ j hFb.2 (ten_pos k) (numZ_bd hsm).1 heq
            by_cases hj : j < 32
            · have HO : Hid _ := hown
              have HS : Hid (Stay w wr) := hst
              have HE : Hid _ := heq
              have HSM : Hid (smallZ ds) := hsm
              have HDL : Hid (ds.length = k) := hdl
              clear hown hst heq hsm hdl hFb
              have fb2 : f < 4294967296 := by
                have h1 := fb.out
                have : (2 : Int) ^ j ≤ 2 ^ 32 := by
                  have h2 : (2 : Nat) ^ j ≤ 2 ^ 32 := Nat.pow_le_pow_right (by decide) (by omega)
                  have h3 : ((2 ^ j : Nat) : Int) ≤ ((2 ^ 32 : Nat) : Int) := by omega
                  simpa using h3
                omega
              go_wp2
              go_loopw [16, 17] (fun c r wq => ∃ (A S B : List Int) (cc : Int), ds = A ++ S ∧ r = .int .i64 ((A.length : Int) - 1) ∧ c = .int .i64 cc ∧ 0 ≤ cc ∧ cc ≤ 1 ∧ smallZ B ∧ B.length = S.length ∧ 2 * numZ S = cc * 10 ^ S.length + numZ B ∧ wq.ownsRow w.heap.size 3 1 (.slice (some ⟨w.heap.size, 0, none⟩) k k) k ((A ++ B).map vI) ∧ Stay w wq) (fun _ r _ => (intOf r + 1).toNat)
              case atStart =>
                exact ⟨ds, [], [], 0, by simp, by rw [HDL.out], rfl, by omega, by omega, (fun d hd => by cases hd), rfl, by simp [numZ], by rw [List.append_nil]; exact HO.out, HS.out⟩
              case round =>
                obtain ⟨A, S, B, cc, hds, rfl, rfl, cc0, cc1, hsB, hlB, h2, hown, hst⟩ := hrel
                have HO2 : Hid _ := hown
                have HS2 : Hid _ := hst
                have H2 : Hid _ := h2
                have HSB : Hid (smallZ B) := hsB
                have HLB : Hid (B.length = S.length) := hlB
                have HDS : Hid (ds = A ++ S) := hds
                clear h2 hsB hlB hds
                rcases List.eq_nil_or_concat A with hA | ⟨A', a, hA⟩
                · subst hA
                  have hSk : Hid (S.length = k) := by show _ = _; have := HDL.out; rw [HDS.out] at this; simpa using this
                  have hor : bits .or .u64 (f * 2) cc = f * 2 + cc := by
                    obtain ⟨x, rfl⟩ : ∃ n : Nat, f = n := ⟨f.toNat, by omega⟩
                    obtain ⟨b, rfl⟩ : ∃ n : Nat, cc = n := ⟨cc.toNat, by omega⟩
                    have := bits_or_u64_nat (x * 2) b (by omega) (by omega)
                    rw [show (((x * 2 : Nat)) : Int) = (x : Int) * 2 by omega] at this
                    rw [this]
                    have e := Nat.two_pow_add_eq_or_of_lt (i := 1) (b := b) (by omega) x
                    rw [show x * 2 = 2 ^ 1 * x by omega, ← e]
                    omega
                  clear hown hst
                  go_wp2
                  go_roundw
                  case rel =>
                    refine ⟨j + 1, f * 2 + cc, B, by omega, by go_num, rfl, by omega, HSB.out, by rw [HLB.out]; exact hSk.out, ?_, HO2.out, HS2.out⟩
                    have e3 := dbl_round _ f cc _ j _ (numZ B) HE.out (by have := H2.out; rw [hSk.out] at this; rw [HDS.out]; exact this)
                    rw [e3]
                    congr 2
                    omega
                  case measure => simp [intOf]; omega
                · replace hA : A = A' ++ [a] := by rw [hA]; simp
                  subst hA
                  have hal : (A' ++ [a]).length = A'.length + 1 := by simp
                  have hAk : A'.length + 1 ≤ k := by have := HDL.out; rw [HDS.out] at this; simp at this; omega
                  have ha : 0 ≤ a ∧ a ≤ 9 := HSM.out a (by rw [HDS.out]; simp)
                  obtain ⟨a0, a1⟩ := ha
                  have hcell : wr.cell? ⟨w.heap.size, A'.length, none⟩ = some (.int .i64 a) := by
                    rw [hown.cellAt A'.length (by omega)]
                    exact map_at _ _ _ (by simp)
                  have hfz : wr.frozen? ⟨w.heap.size, A'.length, none⟩ = false := hown.frozenAt _
                  have hset : Hid ((A' ++ [a] ++ B).set A'.length ((2 * a + cc) % 10) = A' ++ ((2 * a + cc) % 10 :: B)) := by
                    show _ = _
                    rw [List.append_assoc, List.set_append_right _ _ (Nat.le_refl _), Nat.sub_self]
                    rfl
                  rw [hal]
                  rw [show ((A'.length + 1 : Nat) : Int) - 1 = (A'.length : Int) by omega]
                  clear hown hst hal
                  have H3 := dbl_step a cc S B HLB.out H2.out
                  have H4 : Hid _ := H3
                  clear H3
                  go_wp2
                  go_roundw
                  case rel =>
                    refine ⟨A', a :: S, (2 * a + cc) % 10 :: B, (2 * a + cc) / 10, by rw [HDS.out]; simp, by go_num, rfl, by omega, by omega, ?_, by simp [HLB.out], H4.out, ?_, Stay.setCell HS2.out (Nat.le_refl _) _⟩
                    · intro d hd
                      rcases List.mem_cons.mp hd with rfl | hd
                      · omega
                      · exact HSB.out d hd
                    · have := (World.ownsRow.stored HO2.out A'.length (.int .i64 ((2 * a + cc) % 10))).1
                      rw [map_set, hset.out] at this
                      exact this
                  case measure => simp [intOf]
            · have ej : j = 32 := by omega
              subst ej
              obtain ⟨d1, d2⟩ := dbl_end F.data.toList ds f hsm (by rw [hdl, hFl.out]) (by rw [hFl.out]; exact heq)
              have D1 : Hid _ := d1
              have D2 : Hid _ := d2
              have HS : Hid (Stay w wr) := hst
              have HO : Hid _ := hown
              have HDL : Hid (ds.length = k) := hdl
              have f1 : f < 4294967296 := fb.out
              clear d1 d2 hst heq hsm hdl hFb
              go_wp2
              go_loop [19, 20] (fun r q => ∃ t : Nat, t ≤ k ∧ q = .int .i64 (t : Int) ∧ r = .bool ((ds.take t).any fun d => d != 0)) (fun _ q => (k - intOf q).toNat)
              case atStart => exact ⟨0, by omega, rfl, rfl⟩
              case round =>
                obtain ⟨t, t1, rfl, rfl⟩ := hrel
                by_cases ht : t < k
                · have htd : t < ds.length := by have := HDL.out; omega
                  obtain ⟨d, hd⟩ : ∃ d, ds[t] = d := ⟨_, rfl⟩
                  have hget : ds[t]? = some d := by rw [List.getElem?_eq_getElem htd, hd]
                  have hcell : wr.cell? ⟨w.heap.size, t, none⟩ = some (.int .i64 d) := by
                    rw [hown.cellAt t (by omega)]
                    exact map_at _ _ _ hget
                  have hnext : Hid (((ds.take t).any fun d => d != 0 || d != d) = ((ds.take t).any fun d => d != 0)) := by show _ = _; simp
                  have hmore : Hid (((ds.take (t + 1)).any fun d => d != 0) = (((ds.take t).any fun d => d != 0) || d != 0)) := by
                    show _ = _
                    rw [List.take_add_one, hget, List.any_append]
                    simp
                  generalize ((ds.take t).any fun d => d != 0) = b at *
                  clear hget hd htd hnext
                  cases b
                  · go_wp2
                    go_round
                    case rel => exact ⟨t + 1, by omega, by go_num, by rw [hmore.out]; rfl⟩
                    case measure => simp [intOf]; omega
                  · go_wp2
                    go_round
                    case rel => exact ⟨t + 1, by omega, by go_num, by rw [hmore.out]; rfl⟩
                    case measure => simp [intOf]; omega
                · have hall : ds.take t = ds := List.take_of_length_le (by have := HDL.out; omega)
                  have et : (t : Int) = (k : Int) := by omega
                  rw [hall, et]
                  have hfin := fin_meet false W.data.toList F.data.toList x y f _ HX.out x0.out HY.out D1.out D2.out f0 f1
                  have hlo := join_f y f y0 y1 f0 f1
                  have HF : Hid (scut false (y / 4294967296 * 18446744073709551616 + (y % 4294967296 * 4294967296 + f)) = readZ false W.data.toList F.data.toList) := by
                    show _ = _
                    rw [← hfin]
                    congr 1
                    simp
                    omega
                  obtain ⟨l, hl⟩ : ∃ l, y % 4294967296 * 4294967296 + f = l := ⟨_, rfl⟩
                  have l0 : 0 ≤ l := by omega
                  have l1 : l ≤ 18446744073709551615 := by omega
                  rw [hl] at hlo HF
                  clear hfin hl hall et hown
                  generalize (ds.any fun d => d != 0) = b at *
                  go_wp2_with (go_at_call 26; refine (back_any _ _ _ _ (by omega) (by omega) (by omega) (by omega)).mono ?_; rintro e w2 ⟨rfl, hg⟩)
                  exact bodyPost_ret (v := .tuple #[.int .i64 (scut false (y / 4294967296 * 18446744073709551616 + l)), .int .i64 0]) (by simp [results, Tryd.results20, go_sem]) rfl ⟨by rw [HF.out], Stay.trans (Stay.alloc HS.out _) hg⟩
end Go.Proofs.YtcpgamhekelamaaDoor
