/-
  The place of the first of some signs in a text.
-/
import Derived.Test.YtbdcaikcdhfdoaaMplain
import Derived.Test.YtbdcaikcdhfdoaaNread
import Derived.BigQuiet
namespace Go.Proofs.Ytbdcaikcdhfdoaa.N
open Go.RowKit Go.Proofs.Lys
set_option linter.unusedVariables false
set_option linter.unusedSimpArgs false

abbrev signs : ByteArray := ⟨#[44, 61, 33, 94]⟩
theorem encode_last (r : Int) (h : 128 ≤ r) : ∃ (E : ByteArray) (n : Nat), Utf8.encode r = E ∧ (n = 1 ∨ n = 2 ∨ n = 3) ∧ E.size = n + 1 ∧ ∃ h : n < E.size, 128 ≤ (E[n]'h).toNat := by
  have hc : ¬ (if Utf8.valid r = true then r.toNat else Utf8.runeError) < 0x80 := by
    split
    · omega
    · decide
  have hall : ∀ c : Nat, ¬ c < 0x80 → ∃ (E : ByteArray) (n : Nat), (if c < 0x80 then (⟨#[UInt8.ofNat c]⟩ : ByteArray) else if c < 0x800 then ⟨#[UInt8.ofNat (0xC0 + c / 64), UInt8.ofNat (0x80 + c % 64)]⟩ else if c < 0x10000 then ⟨#[UInt8.ofNat (0xE0 + c / 4096), UInt8.ofNat (0x80 + c / 64 % 64), UInt8.ofNat (0x80 + c % 64)]⟩ else ⟨#[UInt8.ofNat (0xF0 + c / 262144), UInt8.ofNat (0x80 + c / 4096 % 64), UInt8.ofNat (0x80 + c / 64 % 64), UInt8.ofNat (0x80 + c % 64)]⟩) = E ∧ (n = 1 ∨ n = 2 ∨ n = 3) ∧ E.size = n + 1 ∧ ∃ h : n < E.size, 128 ≤ (E[n]'h).toNat := by
    intro c hc
    have key : 128 ≤ (UInt8.ofNat (0x80 + c % 64)).toNat := by
      rw [UInt8.toNat_ofNat']
      omega
    rw [if_neg hc]
    split
    · exact ⟨_, 1, rfl, .inl rfl, rfl, by show 1 < 2; decide, key⟩
    · split
      · exact ⟨_, 2, rfl, .inr (.inl rfl), rfl, by show 2 < 3; decide, key⟩
      · exact ⟨_, 3, rfl, .inr (.inr rfl), rfl, by show 3 < 4; decide, key⟩
  exact hall _ hc

theorem sign_lt : ∀ x ∈ signs.data.toList, x.toNat < 128 := by decide
theorem sub_mem {s : ByteArray} {a b : Nat} {x : UInt8} (h : x ∈ (s.extract a b).data.toList) : x ∈ s.data.toList := by
  rw [sub_bytes] at h
  exact List.mem_of_mem_take (List.mem_of_mem_drop h)
theorem index_no {s : ByteArray} {c : UInt8} (hs : ∀ x ∈ s.data.toList, x.toNat < 128) (hc : 128 ≤ c.toNat) (W : World) :
    Calls Try.prog 72 #[.string s, .int .u8 (c.toNat : Int)] W fun e w' => e = .returned (.int .i64 (-1)) ∧ w' = W := by
  refine (Try.strings_IndexByte s (c.toNat : Int) W).mono ?_
  rintro e w' ⟨rfl, rfl⟩
  have hb : ((c.toNat : Int)).toNat.toUInt8 = c := by simp
  rw [hb]
  have := Lib.contains_iff_indexByte s.data.toList c
  have hnc : s.data.toList.contains c = false := by
    cases e : s.data.toList.contains c with
    | false => rfl
    | true =>
      have := hs c (by simpa using e)
      omega
  rw [hnc] at this
  have h0 : ¬ (0 : Int) ≤ Lib.indexByte s.data.toList c := of_decide_eq_false this.symm
  have h1 := Lib.indexByte_ge s.data.toList c
  have : Lib.indexByte s.data.toList c = -1 := by omega
  rw [this]
  exact ⟨rfl, rfl⟩

set_option maxRecDepth 100000 in
set_option maxHeartbeats 4000000 in
theorem rune_hi (w : World) (r : Int) (h : 128 ≤ r) : Calls Try.prog 59 #[.string signs, .int .i32 r] w fun e w' => e = .returned (.int .i64 (-1)) ∧ Kept w w' := by
  by_cases h1 : r = 65533
  · subst h1
    go_enter Try.func59, Try.ntmps59
    go_wp2_with fail
    go_loopw [] (fun wr => ∃ (pos : Nat), pos ≤ 4 ∧ wr = w.iter signs pos) (fun wr => 4 - wr.iterPos w.heap.size)
    case atStart => exact ⟨0, by omega, rfl⟩
    case round =>
      obtain ⟨pos, hp, rfl⟩ := hrel
      have hs4 : signs.size = 4 := rfl
      by_cases hlt : pos < 4
      · have ha : (signs[pos]'(by rw [hs4]; exact hlt)).toNat < 128 := by
          have : pos = 0 ∨ pos = 1 ∨ pos = 2 ∨ pos = 3 := by omega
          rcases this with rfl | rfl | rfl | rfl
          · show (44 : UInt8).toNat < 128; decide
          · show (61 : UInt8).toNat < 128; decide
          · show (33 : UInt8).toNat < 128; decide
          · show (94 : UInt8).toNat < 128; decide
        have hnx : ∀ ty, (Instr.next (.pointer (some ⟨w.heap.size, 0, none⟩)) true ty).run Try.prog (w.iter signs pos) = _ := fun ty => run_next_ascii w signs pos ty (by rw [hs4]; exact hlt) ha
        generalize (signs[pos]'(by rw [hs4]; exact hlt)) = c at hnx ha
        have hne : ((c.toNat : Int) == 65533) = false := by simp; omega
        go_wp2
        all_goals first
          | exact ⟨⟨pos + 1, by omega, rfl⟩, by simp; omega⟩
          | (go_roundw
             case rel => exact ⟨pos + 1, by omega, rfl⟩
             case measure => simp; omega)
          | (exfalso; omega)
      · have e : pos = 4 := by omega
        subst e
        have hnx : ∀ ty, (Instr.next (.pointer (some ⟨w.heap.size, 0, none⟩)) true ty).run Try.prog (w.iter signs 4) = _ := fun ty => run_next_end w signs 4 ty (by rw [hs4]; omega)
        go_wp2
        (try simp only [Exit.inBlock, Exit.then])
        go_ret
        exact ⟨rfl, kept_iter _ _ _⟩
  · have HV := hid (fun W => Try.utf8_ValidRune r W)
    obtain ⟨E, n, hE, hn, hz, hlt, hlast⟩ := encode_last r h
    have hcv : ∀ W, (convert 21 9 (.int .i32 r)).run Try.prog W = .ok (.string E) W := fun W => by
      rw [← hE]
      simp [convert, run_underlying Try.underlying21, run_underlying Try.underlying9, Conv.intToString]
    go_enter Try.func59, Try.ntmps59
    go_wp2_with fail
    refine (HV.out w).mono ?_
    rintro e w1 ⟨rfl, hq⟩
    replace hq := hq.symm
    subst hq
    cases hv : Lib.validRune r with
    | false =>
      go_wp2
      go_ret
      exact ⟨rfl, Only.refl _ _⟩
    | true =>
      generalize hc : E[n]'hlt = c at hlast
      rcases hn with rfl | rfl | rfl
      · have hne : (((signs[1]'(by decide)).toNat : Int) != (c.toNat : Int)) = true := by
          show ((61 : Int) != (c.toNat : Int)) = true
          simp
          omega
        have hw : IntKind.i64.wrap 2 = 2 := by decide
        have hsl : ∀ W, (Instr.sliceAt 9 (.string signs) (some (.int .i64 2)) none none).run Try.prog W = .ok (.string (signs.extract 2 4)) W := fun W => by kernel_rfl
        have HX := hid (index_no (s := signs.extract 2 4) (c := c) (fun x hx => sign_lt x (sub_mem hx)) hlast)
        clear hE h1
        go_wp2
        go_step3
        go_wp2
        refine wp_loop_rounds 1 ?_
        rw [rounds_succ]
        go_wp2_with fail
        go_step3
        go_wp2_with fail
        go_quiet (fail)
        go_wp2_with fail
        have HKq := hid (kept_drewN (Only.refl (fun _ => False) w) nq)
        generalize w.drewN nq = wq at HKq ⊢
        go_quiet ((go_at_call 72; exact Calls.quiet_of_same (HX.out _)))
        go_wp2_with fail
        simp only [Exit.noGoto_ret, Exit.inBlock, Exit.then]
        go_ret
        exact ⟨rfl, kept_drewN HKq.out nq⟩
      · have hne : (((signs[2]'(by decide)).toNat : Int) != (c.toNat : Int)) = true := by
          show ((33 : Int) != (c.toNat : Int)) = true
          simp
          omega
        have hw : IntKind.i64.wrap 3 = 3 := by decide
        have hsl : ∀ W, (Instr.sliceAt 9 (.string signs) (some (.int .i64 3)) none none).run Try.prog W = .ok (.string (signs.extract 3 4)) W := fun W => by kernel_rfl
        have HX := hid (index_no (s := signs.extract 3 4) (c := c) (fun x hx => sign_lt x (sub_mem hx)) hlast)
        clear hE h1
        go_wp2
        go_step3
        go_wp2
        refine wp_loop_rounds 1 ?_
        rw [rounds_succ]
        go_wp2_with fail
        go_step3
        go_wp2_with fail
        go_quiet (fail)
        go_wp2_with fail
        have HKq := hid (kept_drewN (Only.refl (fun _ => False) w) nq)
        generalize w.drewN nq = wq at HKq ⊢
        go_quiet ((go_at_call 72; exact Calls.quiet_of_same (HX.out _)))
        go_wp2_with fail
        simp only [Exit.noGoto_ret, Exit.inBlock, Exit.then]
        go_ret
        exact ⟨rfl, kept_drewN HKq.out nq⟩
      · have hne : (((signs[3]'(by decide)).toNat : Int) != (c.toNat : Int)) = true := by
          show ((94 : Int) != (c.toNat : Int)) = true
          simp
          omega
        have hw : IntKind.i64.wrap 4 = 4 := by decide
        have hsl : ∀ W, (Instr.sliceAt 9 (.string signs) (some (.int .i64 4)) none none).run Try.prog W = .ok (.string (signs.extract 4 4)) W := fun W => by kernel_rfl
        have HX := hid (index_no (s := signs.extract 4 4) (c := c) (fun x hx => sign_lt x (sub_mem hx)) hlast)
        clear hE h1
        go_wp2
        go_step3
        go_wp2
        refine wp_loop_rounds 1 ?_
        rw [rounds_succ]
        go_wp2_with fail
        go_step3
        go_wp2_with fail
        go_quiet (fail)
        go_wp2_with fail
        have HKq := hid (kept_drewN (Only.refl (fun _ => False) w) nq)
        generalize w.drewN nq = wq at HKq ⊢
        go_quiet ((go_at_call 72; exact Calls.quiet_of_same (HX.out _)))
        go_wp2_with fail
        simp only [Exit.noGoto_ret, Exit.inBlock, Exit.then]
        go_ret
        exact ⟨rfl, kept_drewN HKq.out nq⟩
end Go.Proofs.Ytbdcaikcdhfdoaa.N
