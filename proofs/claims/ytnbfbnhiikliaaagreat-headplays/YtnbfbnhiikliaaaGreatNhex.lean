/-
  What stands between the quotes, read.
-/
import Derived.Test.YtnbfbnhiikliaaaGreatNwrite
namespace Go.Proofs.YtnbfbnhiikliaaaGreat.N
open Go.RowKit Go.Proofs.Lys
set_option linter.unusedVariables false
set_option linter.unusedSimpArgs false

set_option maxRecDepth 100000 in
theorem digit_any (w : World) (c : UInt8) : Calls Tryz.prog 125 #[.int .u8 c.toNat] w fun e w' => e = .returned (.tuple #[.int .u8 (((hexV c).getD 0 : Nat) : Int), .bool (hexV c).isSome]) ∧ w' = w := by
  have hcl := c.toNat_lt
  by_cases h1 : 48 ≤ c.toNat ∧ c.toNat ≤ 57
  · have HV : Hid (hexV c = some (c.toNat - 48)) := by refine hid ?_; unfold hexV; rw [if_pos h1]
    obtain ⟨p1, p2⟩ := h1
    have q1 : (48 : Int) ≤ (c.toNat : Int) := by omega
    have q2 : (c.toNat : Int) ≤ 57 := by omega
    go_enter Tryz.func125, Tryz.ntmps125
    go_wp2
    go_ret2
    refine ⟨?_, rfl⟩
    rw [HV.out]
    simp
    omega
  · by_cases h2 : 97 ≤ c.toNat ∧ c.toNat ≤ 102
    · have HV : Hid (hexV c = some (c.toNat - 87)) := by refine hid ?_; unfold hexV; rw [if_neg h1, if_pos h2]
      obtain ⟨p1, p2⟩ := h2
      have q1 : (97 : Int) ≤ (c.toNat : Int) := by omega
      have q2 : (c.toNat : Int) ≤ 102 := by omega
      go_enter Tryz.func125, Tryz.ntmps125
      go_wp2
      all_goals try (exfalso; omega)
      all_goals go_ret2
      all_goals refine ⟨?_, rfl⟩
      all_goals rw [HV.out]
      all_goals simp
      all_goals omega
    · have HV : Hid (hexV c = none) := by refine hid ?_; unfold hexV; rw [if_neg h1, if_neg h2]
      go_enter Tryz.func125, Tryz.ntmps125
      go_wp2
      all_goals try (exfalso; omega)
      all_goals go_ret2
      all_goals refine ⟨?_, rfl⟩
      all_goals rw [HV.out]
      all_goals simp

theorem two_digits : ∀ a b : Nat, a < 16 → b < 16 → bits .or .u8 ((a : Int) * 16) (b : Int) = ((16 * a + b : Nat) : Int) := by
  have : ∀ a, a < 16 → ∀ b, b < 16 → bits .or .u8 (((a : Nat) : Int) * 16) ((b : Nat) : Int) = ((16 * a + b : Nat) : Int) := by decide +kernel
  exact fun a b ha hb => this a ha b hb
theorem list_two (s : ByteArray) (h : 2 ≤ s.size) : s.data.toList = s[0] :: s[1] :: s.data.toList.drop 2 := by
  have hl : 2 ≤ s.data.toList.length := by rw [← Lib.size_eq]; exact h
  have e1 := List.drop_eq_getElem_cons (l := s.data.toList) (i := 0) (by omega)
  have e2 := List.drop_eq_getElem_cons (l := s.data.toList) (i := 1) (by omega)
  rw [List.drop_zero] at e1
  rw [e1, e2]
  rfl
set_option maxRecDepth 100000 in
set_option maxHeartbeats 1600000 in
theorem hex_any (w : World) (s : ByteArray) (hs : s.size ≤ 1000000) : Calls Tryz.prog 120 #[.string s] w fun e w' => (∃ v : Int, e = .returned (.tuple #[.int .u8 v, .bool (hex2 s.data.toList).isSome]) ∧ ∀ x, hex2 s.data.toList = some x → v = x.toNat) ∧ w' = w := by
  by_cases h2 : s.size < 2
  · have HN : Hid (hex2 s.data.toList = none) := by
      refine hid ?_
      have hl : s.data.toList.length < 2 := by rw [← Lib.size_eq]; exact h2
      match hh : s.data.toList, hl with
      | [], _ => rfl
      | [a], _ => rfl
    go_enter Tryz.func120, Tryz.ntmps120
    go_wp2
    go_ret2
    refine ⟨⟨0, ?_, ?_⟩, rfl⟩
    · rw [HN.out]; rfl
    · intro x hx; rw [HN.out] at hx; cases hx
  · have hl2 := list_two s (by omega)
    have D0 := hid (fun W => digit_any W (s[0]'(by omega)))
    have D1 := hid (fun W => digit_any W (s[1]'(by omega)))
    have HX : Hid (hex2 s.data.toList = match hexV (s[0]'(by omega)), hexV (s[1]'(by omega)) with | some a, some b => some (UInt8.ofNat (16 * a + b)) | _, _ => none) := by
      refine hid ?_
      rw [hl2]
      rfl
    clear hl2
    have h0' : 0 < s.size := by omega
    have h1' : 1 < s.size := by omega
    have hv0 : ∀ n, hexV (s[0]'(by omega)) = some n → n < 16 := fun n h => (hexV_lt h).1
    have hv1 : ∀ n, hexV (s[1]'(by omega)) = some n → n < 16 := fun n h => (hexV_lt h).1
    generalize hexV (s[0]'(by omega)) = A at D0 HX hv0
    generalize hexV (s[1]'(by omega)) = C at D1 HX hv1
    generalize hex2 s.data.toList = R at HX ⊢
    go_enter Tryz.func120, Tryz.ntmps120
    go_wp2_with fail
    refine (D0.out _).mono ?_
    rintro e w1 ⟨rfl, hw⟩
    replace hw := hw.symm
    subst hw
    go_wp2_with fail
    refine (D1.out _).mono ?_
    rintro e w1 ⟨rfl, hw⟩
    replace hw := hw.symm
    subst hw
    cases A with
    | none =>
      go_wp2
      go_ret2
      obtain rfl : R = none := by have := HX.out; simpa using this
      exact ⟨⟨_, rfl, fun x hx => by cases hx⟩, rfl⟩
    | some a =>
      have ha := hv0 a rfl
      cases C with
      | none =>
        go_wp2
        go_ret2
        obtain rfl : R = none := by have := HX.out; simpa using this
        exact ⟨⟨_, rfl, fun x hx => by cases hx⟩, rfl⟩
      | some c =>
        have hc := hv1 c rfl
        have ht := two_digits a c ha hc
        go_wp2
        go_ret2
        have hR : R = some (UInt8.ofNat (16 * a + c)) := HX.out
        subst hR
        refine ⟨⟨16 * (a : Int) + (c : Int), rfl, fun x hx => ?_⟩, rfl⟩
        cases hx
        rw [UInt8.toNat_ofNat']
        omega

/-- How far what stands between the quotes is read. -/
structure Rd (s : ByteArray) (pos nx : Nat) (acc : List UInt8) : Prop where
  p : pos ≤ s.size
  n : nx ≤ s.size
  eq : unqL s.data.toList = (unqL (s.data.toList.drop (max pos nx))).map (acc ++ ·)
  low : ∀ j (h : j < s.size), pos ≤ j → j < nx → (s[j]'h).toNat < 128
  len : acc.length ≤ max pos nx
theorem drop_more (s : ByteArray) (k : Nat) (h : k < s.size) : s.data.toList.drop k = s[k] :: s.data.toList.drop (k + 1) := by
  have h' : k < s.data.toList.length := by rw [← Lib.size_eq]; exact h
  rw [List.drop_eq_getElem_cons h']
  rfl
theorem Rd.skip {s : ByteArray} {pos nx : Nat} {acc : List UInt8} (h : Rd s pos nx acc) (hp : pos < s.size) (hn : pos < nx) : Rd s (pos + 1) nx acc := by
  have e1 : max pos nx = nx := by omega
  have e2 : max (pos + 1) nx = nx := by omega
  refine ⟨by omega, h.n, ?_, fun j hj h1 h2 => h.low j hj (by omega) h2, ?_⟩
  · rw [e2, ← e1]; exact h.eq
  · rw [e2, ← e1]; exact h.len
theorem Rd.shown {s : ByteArray} {pos nx : Nat} {acc : List UInt8} (h : Rd s pos nx acc) (hp : pos < s.size) (hn : ¬ pos < nx) (hs : shownB (s[pos]'hp) = true) : Rd s (pos + 1) nx (acc ++ [s[pos]'hp]) := by
  have e1 : max pos nx = pos := by omega
  have e2 : max (pos + 1) nx = pos + 1 := by omega
  refine ⟨by omega, h.n, ?_, fun j hj h1 h2 => absurd h2 (by omega), ?_⟩
  · rw [h.eq, e1, e2, drop_more s pos hp, unqL_shown _ hs, Option.map_map]
    congr 1
    funext z
    simp
  · have := h.len
    rw [List.length_append, e2]
    simp
    omega
theorem Rd.hex {s : ByteArray} {pos nx : Nat} {acc : List UInt8} {v : UInt8} (h : Rd s pos nx acc) (hp : pos < s.size) (hn : ¬ pos < nx) (hc : (s[pos]'hp).toNat = 92) (hx : hex2 (s.data.toList.drop (pos + 1)) = some v) : Rd s (pos + 1) (pos + 3) (acc ++ [v]) := by
  have e1 : max pos nx = pos := by omega
  have e2 : max (pos + 1) (pos + 3) = pos + 3 := by omega
  obtain ⟨a, b, r', hr, ha, hb⟩ := hex2_two hx
  have hl : (s.data.toList.drop (pos + 1)).length = r'.length + 2 := by rw [hr]; rfl
  rw [List.length_drop, ← Lib.size_eq] at hl
  have hns : shownB (s[pos]'hp) = false := by
    cases e : shownB (s[pos]'hp) with
    | false => rfl
    | true => simp only [shownB, Bool.and_eq_true, decide_eq_true_eq] at e; omega
  refine ⟨by omega, by omega, ?_, fun j hj h1 h2 => ?_, ?_⟩
  · rw [h.eq, e1, e2, drop_more s pos hp, unqL_cons, if_neg (by rw [hns]; decide), if_pos hc, hx]
    simp only [List.drop_drop, Option.map_map]
    congr 1
    funext z
    simp
  · have h0 := drop_more s (pos + 1) (by omega)
    have h3 := drop_more s (pos + 2) (by omega)
    rw [hr] at h0
    have q1 : a = s[pos + 1]'(by omega) := (List.cons.inj h0).1
    have q2 := (List.cons.inj h0).2
    rw [h3] at q2
    have q3 : b = s[pos + 2]'(by omega) := (List.cons.inj q2).1
    have : j = pos + 1 ∨ j = pos + 2 := by omega
    rcases this with rfl | rfl
    · rw [← q1]; exact ha
    · rw [← q3]; exact hb
  · have := h.len
    rw [List.length_append, e2]
    simp
    omega
theorem Rd.bad {s : ByteArray} {pos nx : Nat} {acc : List UInt8} (h : Rd s pos nx acc) (hp : pos < s.size) (hn : ¬ pos < nx) (hs : shownB (s[pos]'hp) = false) (hc : (s[pos]'hp).toNat = 92 → hex2 (s.data.toList.drop (pos + 1)) = none) : unqL s.data.toList = none := by
  have e1 : max pos nx = pos := by omega
  rw [h.eq, e1, drop_more s pos hp, unqL_cons, if_neg (by rw [hs]; decide)]
  by_cases h92 : (s[pos]'hp).toNat = 92
  · rw [if_pos h92, hc h92]
    rfl
  · rw [if_neg h92]
    rfl
theorem Rd.fin {s : ByteArray} {pos nx : Nat} {acc : List UInt8} (h : Rd s pos nx acc) (hp : ¬ pos < s.size) : unqL s.data.toList = some acc := by
  have h1 := h.p
  have h2 := h.n
  rw [h.eq, List.drop_of_length_le (by rw [← Lib.size_eq]; omega), unqL_nil]
  simp

/-- What readQuoted answers. -/
def QuoA (v : Value) (b : Bool) : Option (List UInt8) → Prop
  | some l => b = true ∧ v = .string (mkB l)
  | none => b = false ∧ v = .string ⟨#[]⟩
set_option maxRecDepth 100000 in
set_option maxHeartbeats 1600000 in
theorem rquoted_any (w : World) (s : ByteArray) (hs : s.size ≤ 100000) :
    Calls Tryz.prog 108 #[.string s] w fun e w' => (∃ v b, e = .returned (.tuple #[v, .bool b]) ∧ QuoA v b (unqL s.data.toList)) ∧ Kept w w' := by
  have HS0 : Hid (Bld ((w.alloc (.cells #[.pointer none, .slice none 0 0] 95)).iter s 0) w.heap.size w.heap.size [] ∧ Below w.heap.size w ((w.alloc (.cells #[.pointer none, .slice none 0 0] 95)).iter s 0) ∧ ((w.alloc (.cells #[.pointer none, .slice none 0 0] 95)).iter s 0).heap[w.heap.size + 1]? = some (.stringIter s 0)) := by
    refine ⟨Lib.IsBuilderF.alloc (Lib.IsBuilderF.of (Lib.fresh_isBuilder 95 5 w)) _, ((Below.refl _ w).alloc (Nat.le_refl _) _).alloc (by simp) _, ?_⟩
    have := World.iter_heap (w.alloc (.cells #[.pointer none, .slice none 0 0] 95)) s 0
    simpa using this
  go_enter Tryz.func108, Tryz.ntmps108
  go_wp2
  generalize (w.alloc (.cells #[.pointer none, .slice none 0 0] 95)).iter s 0 = w0 at HS0 ⊢
  go_loopw [5] (fun d wr => ∃ (pos nx : Nat) (acc : List UInt8), d = .int .i64 (nx : Int) ∧ wr.heap[w.heap.size + 1]? = some (.stringIter s pos) ∧ Bld wr w.heap.size w.heap.size acc ∧ Below w.heap.size w wr ∧ Rd s pos nx acc) (fun _ wr => s.size - wr.iterPos (w.heap.size + 1))
  case atStart => exact ⟨0, 0, [], rfl, HS0.out.2.2, HS0.out.1, HS0.out.2.1, ⟨by omega, by omega, by simp, fun j _ _ h => absurd h (by omega), by simp⟩⟩
  case round =>
    obtain ⟨pos, nx, acc, rfl, hit, hb, hw, hR⟩ := hrel
    have hsz : w.heap.size + 1 < wr.heap.size := (Array.getElem?_eq_some_iff.1 hit).1
    have hpm := iterPos_at hit
    have HR := hid hR
    have HB := hid hb
    have HW := hid hw
    have hla := hR.len
    have hps := hR.p
    have hns := hR.n
    clear hb hw hR
    have HKW : Hid (∀ (W : World), Below w.heap.size w W → Kept w W) := fun W h => ⟨h.os, h.tape, h.output, h.size, fun q hq _ => h.block q hq⟩
    by_cases hp : pos < s.size
    · by_cases ha : (s[pos]'hp).toNat < 128
      · have hnx : ∀ ty, (Instr.next (.pointer (some ⟨w.heap.size + 1, 0, none⟩)) true ty).run Tryz.prog wr = _ := fun ty => Lib.run_next_ascii_at wr (w.heap.size + 1) s pos ty hit hp ha
        have HB2 := hid (Lib.IsBuilderF.iterAt HB.out hit (pos + 1))
        have HW2 := hid (Lib.below_iterAt HW.out (k := w.heap.size + 1) (by omega) s (pos + 1))
        have hit2 := Lib.iterAt_heap wr (w.heap.size + 1) s pos (pos + 1) hit
        have hpm2 := iterPos_at hit2
        have hsz2 : (wr.iterAt (w.heap.size + 1) s (pos + 1)).heap.size = wr.heap.size := Lib.iterAt_size _ _ _ _
        by_cases hlt : pos < nx
        · have hlt' : (pos : Int) < (nx : Int) := by omega
          have HR2 := hid (HR.out.skip hp hlt)
          go_wp2
          refine ⟨⟨pos + 1, nx, acc, rfl, hit2, HB2.out, HW2.out, HR2.out⟩, ?_⟩
          rw [hpm, hpm2]
          omega
        · have hlt' : ¬ ((pos : Int) < (nx : Int)) := by omega
          have HSh := hid (fun W => isShown_any W ((s[pos]'hp).toNat : Int))
          rw [shownI_byte] at HSh
          have hcl := (s[pos]'hp).toNat_lt
          cases hsh : shownB (s[pos]'hp) with
          | true =>
            rw [hsh] at HSh
            have hcw : IntKind.u8.wrap ((s[pos]'hp).toNat : Int) = ((s[pos]'hp).toNat : Int) := by simp [IntKind.wrap, IntKind.bits, IntKind.signed]; omega
            have HR2 := hid (HR.out.shown hp hlt hsh)
            have H2 := hid (wbyte_any HB2.out (s[pos]'hp) (by omega) (by omega))
            go_wp2_with (go_at_call 72; refine (HSh.out _).mono ?_)
            refine H2.out.mono ?_
            rintro e w2 ⟨rfl, hb2, hk2⟩
            have hit4 := hk2.others.iter hit2 (by omega)
            have HB3 := hid hb2
            have hpm4 := iterPos_at hit4
            clear hb2 H2
            go_wp2
            refine ⟨⟨pos + 1, nx, _, rfl, hit4, HB3.out, HW2.out.trans hk2.below, HR2.out⟩, ?_⟩
            rw [hpm, hpm4]
            omega
          | false =>
            rw [hsh] at HSh
            by_cases h92 : (s[pos]'hp).toNat = 92
            · have hcw : (((s[pos]'hp).toNat : Int) == 92) = true := by simp; omega
              have e1 : IntKind.i64.wrap ((pos : Int) + 1) = (pos : Int) + 1 := by rw [IntKind.wrap_i64]; omega
              have hex := hex_any (wr.iterAt (w.heap.size + 1) s (pos + 1)) (s.extract (pos + 1) s.size) (by rw [ByteArray.size_extract]; omega)
              rw [sub_bytes, List.take_of_length_le (by rw [← Lib.size_eq]; omega)] at hex
              have HX := hid hex
              have HHx := hid (fun v h => HR.out.hex (v := v) hp hlt h92 h)
              have HBd := hid (fun h => HR.out.bad hp hlt hsh (fun _ => h))
              have H92 := hid h92
              clear hex h92
              go_wp2_with (go_at_call 72; refine (HSh.out _).mono ?_)
              refine HX.out.mono ?_
              rintro e w1 ⟨⟨v, rfl, hv⟩, hq⟩
              replace hq := hq.symm
              subst hq
              cases hxx : hex2 (s.data.toList.drop (pos + 1)) with
              | none =>
                have hbad := hid (HBd.out hxx)
                go_wp2
                go_ret2
                refine ⟨⟨_, _, rfl, ?_⟩, HKW.out _ HW2.out⟩
                rw [hbad.out]
                exact ⟨rfl, rfl⟩
              | some y =>
                have hvy := hv y hxx
                subst hvy
                have HR2 := hid (HHx.out y hxx)
                have H2 := hid (wbyte_any HB2.out y (by omega) (by omega))
                clear hv hxx HHx HBd HX
                go_wp2_with fail
                refine H2.out.mono ?_
                rintro e w2 ⟨rfl, hb2, hk2⟩
                have hit4 := hk2.others.iter hit2 (by omega)
                have HB3 := hid hb2
                have hpm4 := iterPos_at hit4
                clear hb2 H2
                go_wp2
                refine ⟨⟨pos + 1, pos + 3, _, by go_num, hit4, HB3.out, HW2.out.trans hk2.below, HR2.out⟩, ?_⟩
                rw [hpm, hpm4]
                omega
            · have hcw : (((s[pos]'hp).toNat : Int) == 92) = false := by simp; omega
              have hbad := hid (HR.out.bad hp hlt hsh (fun h => absurd h h92))
              have H92 := hid h92
              clear h92
              go_wp2_with (go_at_call 72; refine (HSh.out _).mono ?_)
              go_ret2
              refine ⟨⟨_, _, rfl, ?_⟩, HKW.out _ HW2.out⟩
              rw [hbad.out]
              exact ⟨rfl, rfl⟩
      · have hlt : ¬ pos < nx := fun h => by
          have := HR.out.low pos hp (Nat.le_refl _) h
          omega
        have hlt' : ¬ ((pos : Int) < (nx : Int)) := by omega
        have hdh := decode_high s pos hp (by omega)
        have hm := decode_le s pos
        have hsh : shownB (s[pos]'hp) = false := by
          cases e : shownB (s[pos]'hp) with
          | false => rfl
          | true => simp only [shownB, Bool.and_eq_true, decide_eq_true_eq] at e; omega
        have hbad := hid (HR.out.bad hp hlt hsh (fun h => absurd h (by omega)))
        have hnx : ∀ ty, (Instr.next (.pointer (some ⟨w.heap.size + 1, 0, none⟩)) true ty).run Tryz.prog wr = _ := fun ty => Lib.run_next_any_at wr (w.heap.size + 1) s pos ty hit hp
        have HW2 := hid (Lib.below_iterAt HW.out (k := w.heap.size + 1) (by omega) s (pos + (Utf8.decode s pos).2))
        have HSh := hid (fun W => isShown_any W ((Utf8.decode s pos).1 : Int))
        have hshI : shownI ((Utf8.decode s pos).1 : Int) = false := by
          unfold shownI
          rw [show decide (((Utf8.decode s pos).1 : Int) ≤ 126) = false by simp; omega]
          simp
        rw [hshI] at HSh
        have hr92 : (((Utf8.decode s pos).1 : Int) == 92) = false := by simp; omega
        clear hshI hdh hsh ha
        generalize (Utf8.decode s pos).1 = r at hnx HSh hm hr92
        generalize (Utf8.decode s pos).2 = n at hnx HW2
        go_wp2_with (go_at_call 72; refine (HSh.out _).mono ?_)
        go_ret2
        refine ⟨⟨_, _, rfl, ?_⟩, HKW.out _ HW2.out⟩
        rw [hbad.out]
        exact ⟨rfl, rfl⟩
    · have hfin := hid (HR.out.fin hp)
      have hnx : ∀ ty, (Instr.next (.pointer (some ⟨w.heap.size + 1, 0, none⟩)) true ty).run Tryz.prog wr = _ := fun ty => Lib.run_next_end_at wr (w.heap.size + 1) s pos ty hit hp
      have H2 := hid (bstring_any HB.out (by omega))
      go_wp2_with fail
      refine H2.out.mono ?_
      rintro e w2 ⟨rfl, hk2⟩
      go_wp2
      go_ret2
      refine ⟨⟨_, _, rfl, ?_⟩, HKW.out _ (HW.out.trans hk2)⟩
      rw [hfin.out]
      exact ⟨rfl, rfl⟩
end Go.Proofs.YtnbfbnhiikliaaaGreat.N
