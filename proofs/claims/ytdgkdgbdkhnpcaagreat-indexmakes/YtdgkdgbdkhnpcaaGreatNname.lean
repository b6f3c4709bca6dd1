/-
  Names and values of labels: which can be.
-/
import Derived.Test.YtdgkdgbdkhnpcaaGreatNrow
namespace Go.Proofs.YtdgkdgbdkhnpcaaGreat.N
open Go.RowKit Go.Proofs.Lys
set_option linter.unusedVariables false

/-- The bytes up to a place are a name's. -/
def Upto (s : ByteArray) (pos : Nat) : Prop := ∀ k (h : k < s.size), k < pos → plainB (s[k]'h) = true ∧ (k = 0 → digitB (s[k]'h) = false)
theorem at_list (s : ByteArray) (k : Nat) (h : k < s.size) : s.data.toList[k]'(by rw [← Lib.size_eq]; exact h) = s[k]'h := rfl
theorem upto_ok {s : ByteArray} (h0 : 0 < s.size) (h64 : s.size ≤ 64) (h : Upto s s.size) : nameOk s = true := by
  simp only [nameOk, Bool.and_eq_true, decide_eq_true_eq]
  refine ⟨⟨⟨h0, h64⟩, List.all_eq_true.2 (fun x hx => ?_)⟩, ?_⟩
  · obtain ⟨k, hk, rfl⟩ := List.getElem_of_mem hx
    exact (h k (by rw [Lib.size_eq]; exact hk) (by rw [Lib.size_eq]; exact hk)).1
  · have e : s.data.toList.headD 0 = s[0]'h0 := by
      have hl : 0 < s.data.toList.length := by rw [← Lib.size_eq]; exact h0
      rw [← at_list s 0 h0, List.headD_eq_head?_getD, List.head?_eq_getElem?, List.getElem?_eq_getElem hl]
      rfl
    rw [e, (h 0 h0 h0).2 rfl]
    rfl
theorem bad_plain {s : ByteArray} {k : Nat} (h : k < s.size) (hb : plainB (s[k]'h) = false) : nameOk s = false := by
  cases e : nameOk s with
  | false => rfl
  | true =>
    simp only [nameOk, Bool.and_eq_true, decide_eq_true_eq] at e
    have := List.all_eq_true.1 e.1.2 _ (List.getElem_mem (show k < s.data.toList.length by rw [← Lib.size_eq]; exact h))
    rw [at_list s k h, hb] at this
    cases this
theorem bad_digit {s : ByteArray} (h : 0 < s.size) (hb : digitB (s[0]'h) = true) : nameOk s = false := by
  cases e : nameOk s with
  | false => rfl
  | true =>
    simp only [nameOk, Bool.and_eq_true, decide_eq_true_eq] at e
    have hl : 0 < s.data.toList.length := by rw [← Lib.size_eq]; exact h
    have e2 : s.data.toList.headD 0 = s[0]'h := by
      rw [← at_list s 0 h, List.headD_eq_head?_getD, List.head?_eq_getElem?, List.getElem?_eq_getElem hl]
      rfl
    rw [e2, hb] at e
    simp at e
theorem bad_size {s : ByteArray} (h : s.size = 0 ∨ 64 < s.size) : nameOk s = false := by
  unfold nameOk
  rcases h with h | h
  · rw [h]; rfl
  · rw [show decide (s.size ≤ 64) = false by simp; omega]
    simp
theorem plain_of {c : UInt8} (h : (97 ≤ c.toNat ∧ c.toNat ≤ 122) ∨ (65 ≤ c.toNat ∧ c.toNat ≤ 90) ∨ c.toNat = 95) : plainB c = true ∧ digitB c = false := by
  constructor
  · simp only [plainB, digitB, Bool.or_eq_true, Bool.and_eq_true, decide_eq_true_eq]; omega
  · cases e : digitB c with
    | false => rfl
    | true => simp only [digitB, Bool.and_eq_true, decide_eq_true_eq] at e; omega
theorem plain_dig {c : UInt8} (h : 48 ≤ c.toNat ∧ c.toNat ≤ 57) : plainB c = true ∧ digitB c = true := by
  constructor
  · simp only [plainB, digitB, Bool.or_eq_true, Bool.and_eq_true, decide_eq_true_eq]; omega
  · simp only [digitB, Bool.and_eq_true, decide_eq_true_eq]; omega
theorem plain_no {c : UInt8} (h : ¬ (97 ≤ c.toNat ∧ c.toNat ≤ 122)) (h2 : ¬ (65 ≤ c.toNat ∧ c.toNat ≤ 90)) (h3 : c.toNat ≠ 95) (h4 : ¬ (48 ≤ c.toNat ∧ c.toNat ≤ 57)) : plainB c = false := by
  cases e : plainB c with
  | false => rfl
  | true => simp only [plainB, digitB, Bool.or_eq_true, Bool.and_eq_true, decide_eq_true_eq] at e; omega
theorem Upto.step {s : ByteArray} {pos : Nat} (h : Upto s pos) (hp : pos < s.size) (h1 : plainB (s[pos]'hp) = true) (h2 : pos = 0 → digitB (s[pos]'hp) = false) : Upto s (pos + 1) := by
  intro k hk hlt
  by_cases e : k < pos
  · exact h k hk e
  · have : k = pos := by omega
    subst this
    exact ⟨h1, h2⟩

theorem kept_iter (w : World) (s : ByteArray) (pos : Nat) : Kept w (w.iter s pos) := (Only.refl _ w).alloc _

set_option maxRecDepth 100000 in
set_option maxHeartbeats 1600000 in
theorem isName_any (w : World) (s : ByteArray) (hs : s.size ≤ 9223372036854775807) :
    Calls Tryz.prog 76 #[.string s] w fun e w' => e = .returned (.bool (nameOk s)) ∧ Kept w w' := by
  have HZ := hid (fun h => bad_size (s := s) h)
  go_enter Tryz.func76, Tryz.ntmps76
  go_wp2
  · rename_i hz
    have hb := HZ.out (.inl (by rw [hz]; rfl))
    go_ret
    exact ⟨by rw [hb]; rfl, Only.refl _ _⟩
  · rename_i h1 hz
    have hb := HZ.out (by rcases hz with hz | hz; exact .inl (by simpa using congrArg ByteArray.size (show s = ByteArray.empty by simpa using hz)); exact .inr (by omega))
    go_ret
    exact ⟨by rw [hb]; rfl, Only.refl _ _⟩
  rename_i hne hz _ _
  have hN : Hid (s.size ≠ 0) := fun e => by have := hz.1; simp [e] at this
  have h64 : s.size ≤ 64 := by have := hz.2; omega
  clear HZ hne hz
  go_loopw [] (fun wr => ∃ (pos : Nat), pos ≤ s.size ∧ wr = w.iter s pos ∧ Upto s pos) (fun wr => s.size - wr.iterPos w.heap.size)
  case atStart => exact ⟨0, by omega, rfl, fun k _ hk => by omega⟩
  case round =>
    obtain ⟨pos, hle, rfl, hU⟩ := hrel
    have HU := hid hU
    clear hU
    by_cases hp : pos < s.size
    · by_cases ha : (s[pos]'hp).toNat < 128
      · have hnx : ∀ ty, (Instr.next (.pointer (some ⟨w.heap.size, 0, none⟩)) true ty).run Tryz.prog (w.iter s pos) = _ := fun ty => run_next_ascii w s pos ty hp ha
        have HS := hid (fun (h1 : plainB (s[pos]'hp) = true) (h2 : pos = 0 → digitB (s[pos]'hp) = false) => HU.out.step hp h1 h2)
        have HB := hid (fun (h1 : plainB (s[pos]'hp) = false) => bad_plain hp h1)
        have HD := hid (fun (e : pos = 0) (h1 : digitB (s[pos]'hp) = true) => show nameOk s = false by subst e; exact bad_digit hp h1)
        clear HU
        generalize s[pos]'hp = c at hnx HS HB HD ha
        by_cases hl : (97 ≤ c.toNat ∧ c.toNat ≤ 122) ∨ (65 ≤ c.toNat ∧ c.toNat ≤ 90) ∨ c.toNat = 95
        · have hc := plain_of hl
          go_wp2
          all_goals first
            | exact ⟨⟨pos + 1, by omega, rfl, HS.out hc.1 (fun _ => hc.2)⟩, by omega⟩
            | (go_roundw
               case rel => exact ⟨_, _, _, _, _, _, _, _, _, _, _, _, _, _, _, _, _, _, _, _, _, _, _, _, _, _, _, _, _, _, _, _, _, rfl, pos + 1, by omega, rfl, HS.out hc.1 (fun _ => hc.2)⟩
               case measure => simp; omega)
            | (go_roundw
               case rel => exact ⟨pos + 1, by omega, rfl, HS.out hc.1 (fun _ => hc.2)⟩
               case measure => simp; omega)
            | (exfalso; omega)
        · by_cases hd : 48 ≤ c.toNat ∧ c.toNat ≤ 57
          · have hc := plain_dig hd
            by_cases hz : pos = 0
            · have hb := hid (HD.out hz hc.2)
              have HZ := hid hz
              clear hz
              go_wp2
              all_goals first
                | (go_ret; exact ⟨by rw [hb.out]; rfl, kept_iter _ _ _⟩)
                | (exfalso; have := HZ.out; omega)
            · have HZ := hid hz
              go_wp2
              all_goals first
                | exact ⟨⟨pos + 1, by omega, rfl, HS.out hc.1 (fun e => absurd e HZ.out)⟩, by omega⟩
                | (go_roundw
                   case rel => exact ⟨pos + 1, by omega, rfl, HS.out hc.1 (fun e => absurd e HZ.out)⟩
                   case measure => simp; omega)
                | (exfalso; omega)
          · have hb := hid (HB.out (plain_no (by omega) (by omega) (by omega) hd))
            go_wp2
            all_goals first
              | (go_ret; exact ⟨by rw [hb.out]; rfl, kept_iter _ _ _⟩)
              | (exfalso; omega)
      · have hw := decode_high s pos hp (by omega)
        have hm := decode_le s pos
        have hb := hid (bad_plain hp (plain_no (by omega) (by omega) (by omega) (by omega)))
        have hnx : ∀ ty, (Instr.next (.pointer (some ⟨w.heap.size, 0, none⟩)) true ty).run Tryz.prog (w.iter s pos) = _ := fun ty => run_next_any w s pos ty hp
        generalize (Utf8.decode s pos).1 = r at hnx hw hm
        generalize (Utf8.decode s pos).2 = n at hnx hw
        clear ha
        go_wp2
        all_goals first
          | (go_ret; exact ⟨by rw [hb.out]; rfl, kept_iter _ _ _⟩)
          | (exfalso; omega)
    · have e : pos = s.size := by omega
      subst e
      have hok := hid (upto_ok (by have := hN.out; omega) (by omega) HU.out)
      have hnx : ∀ ty, (Instr.next (.pointer (some ⟨w.heap.size, 0, none⟩)) true ty).run Tryz.prog (w.iter s s.size) = _ := fun ty => run_next_end w s s.size ty hp
      go_wp2
      go_ret
      exact ⟨by rw [hok.out]; rfl, kept_iter _ _ _⟩

set_option maxRecDepth 100000 in
theorem isValue_any (w : World) (s : ByteArray) (hs : s.size ≤ 9223372036854775807) :
    Calls Tryz.prog 77 #[.string s] w fun e w' => e = .returned (.bool (valOk s)) ∧ w' = w := by
  go_enter Tryz.func77, Tryz.ntmps77
  go_wp2
  all_goals go_ret
  all_goals refine ⟨?_, rfl⟩
  all_goals simp_all [valOk]
  all_goals omega

end Go.Proofs.YtdgkdgbdkhnpcaaGreat.N
