/-
  A value as it stands in a text.
-/
import Derived.Test.YtdgkdgbdkhnpcaaGreatNbuild
namespace Go.Proofs.YtdgkdgbdkhnpcaaGreat.N
open Go.RowKit Go.Proofs.Lys
set_option linter.unusedVariables false
set_option linter.unusedSimpArgs false

def shownI (r : Int) : Bool := decide (32 ≤ r) && decide (r ≤ 126) && decide (r ≠ 34) && decide (r ≠ 92)
set_option maxRecDepth 100000 in
theorem isShown_any (w : World) (r : Int) : Calls Tryz.prog 100 #[.int .i32 r] w fun e w' => e = .returned (.bool (shownI r)) ∧ w' = w := by
  go_enter Tryz.func100, Tryz.ntmps100
  go_wp2
  all_goals go_ret
  all_goals refine ⟨?_, rfl⟩
  all_goals simp only [shownI]
  all_goals congr 1
  all_goals (simp_all; try omega)
  all_goals (rw [Bool.eq_iff_iff]; simp; omega)

theorem shownI_byte (c : UInt8) : shownI (c.toNat : Int) = shownB c := by
  unfold shownI shownB
  have e1 : decide ((32 : Int) ≤ (c.toNat : Int)) = decide (32 ≤ c.toNat) := by congr 1; exact propext (by omega)
  have e2 : decide ((c.toNat : Int) ≤ 126) = decide (c.toNat ≤ 126) := by congr 1; exact propext (by omega)
  have e3 : decide ((c.toNat : Int) ≠ 34) = decide (c.toNat ≠ 34) := by congr 1; exact propext (by omega)
  have e4 : decide ((c.toNat : Int) ≠ 92) = decide (c.toNat ≠ 92) := by congr 1; exact propext (by omega)
  rw [e1, e2, e3, e4]

theorem take_snoc (s : ByteArray) (k : Nat) (h : k < s.size) : s.data.toList.take (k + 1) = s.data.toList.take k ++ [s[k]'h] := by
  have hl : k < s.data.toList.length := by rw [← Lib.size_eq]; exact h
  rw [← List.take_append_getElem hl]
  rfl
theorem hide_len (l : List UInt8) : (l.flatMap hideB).length = 3 * l.length := by
  induction l with
  | nil => rfl
  | cons c l ih => rw [List.flatMap_cons, List.length_append, ih, List.length_cons]; simp [hideB]; omega

theorem and15 (c : Nat) (h : c < 256) : bits .and .u8 (c : Int) 15 = ((c % 16 : Nat) : Int) := by
  have : ∀ c, c < 256 → bits .and .u8 ((c : Nat) : Int) 15 = ((c % 16 : Nat) : Int) := by decide +kernel
  exact this c h
theorem digits_at (n : Nat) (h : n < 16) : (⟨#[48, 49, 50, 51, 52, 53, 54, 55, 56, 57, 97, 98, 99, 100, 101, 102]⟩ : ByteArray)[n]'h = hexD n := by
  revert n
  decide

set_option maxRecDepth 100000 in
set_option maxHeartbeats 1600000 in
theorem hidden_any {B b : Nat} {l : List UInt8} {w : World} (h : Bld w B b l) (s : ByteArray) (hlen : l.length + 3 * s.size < 100000000) (hBw : B ≤ w.heap.size) :
    Calls Tryz.prog 101 #[.pointer (some ⟨b, 0, none⟩), .string s] w fun e w' => e = .returned (.tuple #[]) ∧ Bld w' B b (l ++ s.data.toList.flatMap hideB) ∧ Wrote B b w w' := by
  have H := hid h
  clear h
  go_enter Tryz.func101, Tryz.ntmps101
  go_wp2
  go_loopw [7] (fun i wr => ∃ (k : Nat), k ≤ s.size ∧ i = .int .i64 (k : Int) ∧ Bld wr B b (l ++ (s.data.toList.take k).flatMap hideB) ∧ Wrote B b w wr) (fun i _ => s.size - (intOf i).toNat)
  case atStart => exact ⟨0, by omega, rfl, by simpa using H.out, Wrote.refl _ _ _⟩
  case round =>
    obtain ⟨k, hk, rfl, hb, hw⟩ := hrel
    have HB := hid hb
    have HW := hid hw
    have hsz := hw.size
    have hlk : ((s.data.toList.take k).flatMap hideB).length ≤ 3 * k := by rw [hide_len, List.length_take]; omega
    clear hb hw
    by_cases hlt : k < s.size
    · have Hs : Hid (∀ acc, l ++ (s.data.toList.take k).flatMap hideB = acc → l ++ (s.data.toList.take (k + 1)).flatMap hideB = acc ++ [92] ++ [hexD ((s[k]'hlt).toNat / 16)] ++ [hexD ((s[k]'hlt).toNat % 16)]) := fun acc e => by
        rw [take_snoc s k hlt, List.flatMap_append, ← List.append_assoc, e]
        simp [hideB]
      have hcl := (s[k]'hlt).toNat_lt
      have hla : (l ++ (s.data.toList.take k).flatMap hideB).length < 100000000 := by rw [List.length_append]; omega
      generalize hac : l ++ (s.data.toList.take k).flatMap hideB = acc at HB hla
      have Hs2 := hid (Hs.out acc hac)
      have ea := and15 (s[k]'hlt).toNat hcl
      clear Hs hac hlk
      have H1 := hid (wbyte_any HB.out 92 (by omega) (by omega))
      go_wp2_with (go_at_call 81; refine H1.out.mono ?_)
      rintro e w1 ⟨rfl, hb1, hk1⟩
      have HK1 := hid hk1
      have hs1 := hk1.size
      have H2 := hid (fun c => wbyte_any hb1 c (by rw [List.length_append]; simp; omega) (by omega))
      clear hb1 hk1 H1
      go_wp2_with (go_at_call 81; refine (H2.out _).mono ?_)
      rintro e w2 ⟨rfl, hb2, hk2⟩
      rw [digits_at _ (by omega)] at hb2
      have HK2 := hid hk2
      have hs2 := hk2.size
      have H3 := hid (fun c => wbyte_any hb2 c (by rw [List.length_append, List.length_append]; simp; omega) (by omega))
      clear hb2 hk2 H2
      go_wp2_with (go_at_call 81; refine (H3.out _).mono ?_)
      rintro e w3 ⟨rfl, hb3, hk3⟩
      rw [digits_at _ (by omega), ← Hs2.out] at hb3
      have HB3 := hid hb3
      clear hb3 H3
      go_wp2
      refine ⟨⟨k + 1, by omega, by go_num, HB3.out, HW.out.trans (HK1.out.trans (HK2.out.trans hk3))⟩, ?_⟩
      simp [intOf]
      omega
    · have e : k = s.size := by omega
      subst e
      go_wp2
      go_end0
      refine ⟨rfl, ?_, HW.out⟩
      have := HB.out
      rw [List.take_of_length_le (by rw [← Lib.size_eq]; omega)] at this
      exact this

theorem iterPos_at {w : World} {k : Nat} {s : ByteArray} {pos : Nat} (h : w.heap[k]? = some (.stringIter s pos)) : w.iterPos k = pos := by
  unfold World.iterPos
  rw [h]
theorem Wrote.iterAt {B b IT : Nat} {w wr : World} (h : Wrote B b w wr) (hI : w.heap.size ≤ IT) (hB : B ≤ w.heap.size) (s : ByteArray) (pos : Nat) : Wrote B b w (wr.iterAt IT s pos) :=
  ⟨Lib.below_iterAt h.below (Nat.le_trans hB hI) s pos, fun k o hk hb ho => by
    have hlt := (Array.getElem?_eq_some_iff.1 hk).1
    rw [Lib.iterAt_other _ _ _ _ _ (by omega)]
    exact h.others k o hk hb ho⟩
theorem quote_len (l : List UInt8) : (quoteL l).length ≤ 3 * l.length := by
  induction l with
  | nil => simp [quoteL]
  | cons c l ih =>
    unfold quoteL at ih ⊢
    rw [List.flatMap_cons, List.length_append, List.length_cons]
    have : (quoteB c).length ≤ 3 := by unfold quoteB; split <;> simp [hideB]
    omega
/-- The bytes from one place to another are none that are shown. -/
def Hide (s : ByteArray) (a b : Nat) : Prop := ∀ k (h : k < s.size), a ≤ k → k < b → shownB (s[k]'h) = false
theorem hide_quote {s : ByteArray} {a b : Nat} (h : Hide s a b) (hb : b ≤ s.size) : ((s.data.toList.take b).drop a).flatMap hideB = quoteL ((s.data.toList.take b).drop a) := by
  have key : ∀ m : List UInt8, (∀ c ∈ m, hideB c = quoteB c) → m.flatMap hideB = quoteL m := fun m hm => by
    induction m with
    | nil => rfl
    | cons x m ih =>
      unfold quoteL at ih ⊢
      rw [List.flatMap_cons, List.flatMap_cons, hm x (List.mem_cons_self ..), ih (fun c hc => hm c (List.mem_cons_of_mem _ hc))]
  refine key _ (fun c hc => ?_)
  obtain ⟨i, hi, rfl⟩ := List.getElem_of_mem hc
  have hi2 := hi
  rw [List.length_drop, List.length_take, ← Lib.size_eq] at hi2
  have := h (a + i) (by omega) (by omega) (by omega)
  have e : ((s.data.toList.take b).drop a)[i] = s[a + i]'(by omega) := by
    rw [List.getElem_drop, List.getElem_take]
    rfl
  rw [e]
  unfold quoteB
  rw [this]
  simp
theorem take_cut (l : List UInt8) {a b : Nat} (h : a ≤ b) : l.take b = l.take a ++ (l.take b).drop a := by
  have := List.take_append_drop a (l.take b)
  rw [List.take_take, Nat.min_eq_left h] at this
  exact this.symm
theorem quote_cut (l : List UInt8) {a b : Nat} (h : a ≤ b) : quoteL (l.take a) ++ quoteL ((l.take b).drop a) = quoteL (l.take b) := by
  rw [← quoteL_app, ← take_cut l h]
theorem sub_bytes (s : ByteArray) (a b : Nat) : (s.extract a b).data.toList = (s.data.toList.take b).drop a := by
  rw [← ByteArray.toList_eq]
  simp [ByteArray.toList_eq]
  rw [List.drop_take]

set_option maxRecDepth 100000 in
set_option maxHeartbeats 1600000 in
theorem quoted_any {B b : Nat} {l : List UInt8} {w : World} (h : Bld w B b l) (s : ByteArray) (hlen : l.length + 3 * s.size < 10000000) (hBw : B ≤ w.heap.size) (hbB : b < w.heap.size) :
    Calls Tryz.prog 80 #[.pointer (some ⟨b, 0, none⟩), .string s] w fun e w' => e = .returned (.tuple #[]) ∧ Bld w' B b (l ++ quoteL s.data.toList) ∧ Wrote B b w w' := by
  have H := hid h
  clear h
  have hS : Hid (Bld (w.iter s 0) B b (l ++ quoteL (s.data.toList.take 0)) ∧ Wrote B b w (w.iter s 0)) := by
    refine ⟨?_, (Below.refl B w).alloc hBw _, (Lib.OthersKept.refl _ _ w).alloc _⟩
    have : l ++ quoteL (s.data.toList.take 0) = l := by simp [quoteL]
    rw [this]
    exact Lib.IsBuilderF.alloc H.out _
  go_enter Tryz.func80, Tryz.ntmps80
  go_wp2
  go_loopw [4] (fun d wr => ∃ (pos dn : Nat), dn ≤ pos ∧ pos ≤ s.size ∧ d = .int .i64 (dn : Int) ∧ wr.heap[w.heap.size]? = some (.stringIter s pos) ∧ Bld wr B b (l ++ quoteL (s.data.toList.take dn)) ∧ Wrote B b w wr ∧ Hide s dn pos) (fun _ wr => s.size - wr.iterPos w.heap.size)
  case atStart => exact ⟨0, 0, by omega, by omega, rfl, World.iter_heap w s 0, hS.out.1, hS.out.2, fun k _ _ h => absurd h (by omega)⟩
  case round =>
    obtain ⟨pos, dn, hdp, hps, rfl, hit, hb, hw, hh⟩ := hrel
    have hsz := hw.size
    have hpm := iterPos_at hit
    have HIT := hid hit
    have HB := hid hb
    have HW := hid hw
    have HH := hid hh
    have hla : (l ++ quoteL (s.data.toList.take dn)).length ≤ l.length + 3 * dn := by
      rw [List.length_append]
      have := quote_len (s.data.toList.take dn)
      rw [List.length_take] at this
      omega
    clear hb hw hh
    by_cases hp : pos < s.size
    · by_cases ha : (s[pos]'hp).toNat < 128
      · have hnx : ∀ ty, (Instr.next (.pointer (some ⟨w.heap.size, 0, none⟩)) true ty).run Tryz.prog wr = _ := fun ty => Lib.run_next_ascii_at wr w.heap.size s pos ty hit hp ha
        have HB2 := hid (Lib.IsBuilderF.iterAt HB.out hit (pos + 1))
        have HW2 := hid (HW.out.iterAt (IT := w.heap.size) (Nat.le_refl _) hBw s (pos + 1))
        have hit2 := Lib.iterAt_heap wr w.heap.size s pos (pos + 1) hit
        have hpm2 := iterPos_at hit2
        have hsz2 := HW2.out.size
        have HS := hid (fun W => isShown_any W ((s[pos]'hp).toNat : Int))
        rw [shownI_byte] at HS
        cases hsh : shownB (s[pos]'hp) with
        | false =>
          rw [hsh] at HS
          have HH2 : Hid (Hide s dn (pos + 1)) := fun k hk h1 h2 => by
            by_cases e : k < pos
            · exact HH.out k hk h1 e
            · have : k = pos := by omega
              subst this
              exact hsh
          go_wp2_with (go_at_call 100; refine (HS.out _).mono ?_)
          rintro e w1 ⟨rfl, hq⟩
          replace hq := hq.symm
          subst hq
          go_wp2
          refine ⟨⟨pos + 1, dn, by omega, by omega, rfl, hit2, HB2.out, HW2.out, HH2.out⟩, ?_⟩
          rw [hpm, hpm2]
          omega
        | true =>
          rw [hsh] at HS
          have hcl := (s[pos]'hp).toNat_lt
          have hcw : IntKind.u8.wrap ((s[pos]'hp).toNat : Int) = ((s[pos]'hp).toNat : Int) := by simp [IntKind.wrap, IntKind.bits, IntKind.signed]; omega
          have Hq : Hid (l ++ quoteL (s.data.toList.take dn) ++ (s.extract dn pos).data.toList.flatMap hideB ++ [s[pos]'hp] = l ++ quoteL (s.data.toList.take (pos + 1))) := by
            refine hid ?_
            rw [sub_bytes, hide_quote HH.out hps, take_snoc s pos hp, quoteL_app, ← quote_cut s.data.toList hdp]
            have : quoteL [s[pos]'hp] = [s[pos]'hp] := by simp [quoteL, quoteB, hsh]
            rw [this]
            simp only [List.append_assoc]
          have H1 := hid (hidden_any HB2.out (s.extract dn pos) (by rw [ByteArray.size_extract]; omega) (by omega))
          have hlh : (l ++ quoteL (s.data.toList.take dn) ++ (s.extract dn pos).data.toList.flatMap hideB).length < 100000000 := by
            rw [List.length_append, hide_len, ← Lib.size_eq, ByteArray.size_extract]
            omega
          have hdp' : (dn : Int) ≤ (pos : Int) := by omega
          have hps' : (pos : Int) ≤ (s.size : Int) := by omega
          go_wp2_with (go_at_call 100; refine (HS.out _).mono ?_)
          rintro e w1 ⟨rfl, hq⟩
          replace hq := hq.symm
          subst hq
          go_wp2_with (go_at_call 101; refine H1.out.mono ?_)
          rintro e w1 ⟨rfl, hb1, hk1⟩
          have hs1 := hk1.size
          have hit3 := hk1.others.iter hit2 (by omega)
          have H2 := hid (wbyte_any hb1 (s[pos]'hp) (by omega) (by omega))
          have HK1 := hid hk1
          clear hb1 hk1 H1
          go_wp2_with (go_at_call 81; refine H2.out.mono ?_)
          rintro e w2 ⟨rfl, hb2, hk2⟩
          have hit4 := hk2.others.iter hit3 (by omega)
          have HB3 := hid hb2
          have hpm4 := iterPos_at hit4
          clear hb2 H2
          go_wp2
          refine ⟨⟨pos + 1, pos + 1, by omega, by omega, by go_num, hit4, ?_, HW2.out.trans (HK1.out.trans hk2), fun k _ h1 h2 => absurd h2 (by omega)⟩, ?_⟩
          · rw [← Hq.out]
            exact HB3.out
          · rw [hpm, hpm4]
            omega
      · have hdw := decode_wide s pos hp (by omega)
        have hdh := decode_high s pos hp (by omega)
        have hm := decode_le s pos
        have hnx : ∀ ty, (Instr.next (.pointer (some ⟨w.heap.size, 0, none⟩)) true ty).run Tryz.prog wr = _ := fun ty => Lib.run_next_any_at wr w.heap.size s pos ty hit hp
        have HB2 := hid (Lib.IsBuilderF.iterAt HB.out hit (pos + (Utf8.decode s pos).2))
        have HW2 := hid (HW.out.iterAt (IT := w.heap.size) (Nat.le_refl _) hBw s (pos + (Utf8.decode s pos).2))
        have hit2 := Lib.iterAt_heap wr w.heap.size s pos (pos + (Utf8.decode s pos).2) hit
        have hpm2 := iterPos_at hit2
        have HS := hid (fun W => isShown_any W ((Utf8.decode s pos).1 : Int))
        have hsh : shownI ((Utf8.decode s pos).1 : Int) = false := by
          unfold shownI
          rw [show decide (((Utf8.decode s pos).1 : Int) ≤ 126) = false by simp; omega]
          simp
        rw [hsh] at HS
        have HH2 : Hid (Hide s dn (pos + (Utf8.decode s pos).2)) := fun k hk h1 h2 => by
          by_cases e : k < pos
          · exact HH.out k hk h1 e
          · have h3 := hdw.2 (k - pos) (by omega)
            rw [show pos + (k - pos) = k + 0 by omega, get_at s k hk] at h3
            cases e2 : shownB (s[k]'hk) with
            | false => rfl
            | true => simp only [shownB, Bool.and_eq_true, decide_eq_true_eq] at e2; omega
        have hw1 := hdh.2
        have hw2 := hdw.1
        clear hdw hdh hsh ha
        generalize (Utf8.decode s pos).1 = r at hnx HS hm
        generalize (Utf8.decode s pos).2 = n at hnx HB2 HW2 hit2 hpm2 HH2 hw1 hw2
        go_wp2_with (go_at_call 100; refine (HS.out _).mono ?_)
        rintro e w1 ⟨rfl, hq⟩
        replace hq := hq.symm
        subst hq
        go_wp2
        refine ⟨⟨pos + n, dn, by omega, by omega, rfl, hit2, HB2.out, HW2.out, HH2.out⟩, ?_⟩
        rw [hpm, hpm2]
        omega
    · have e : pos = s.size := by omega
      subst e
      have hnx : ∀ ty, (Instr.next (.pointer (some ⟨w.heap.size, 0, none⟩)) true ty).run Tryz.prog wr = _ := fun ty => Lib.run_next_end_at wr w.heap.size s s.size ty hit hp
      have Hq : Hid (l ++ quoteL (s.data.toList.take dn) ++ (s.extract dn s.size).data.toList.flatMap hideB = l ++ quoteL s.data.toList) := by
        refine hid ?_
        rw [sub_bytes, hide_quote HH.out hps, List.append_assoc, quote_cut s.data.toList hdp, List.take_of_length_le (by rw [← Lib.size_eq]; omega)]
      have H1 := hid (hidden_any HB.out (s.extract dn s.size) (by rw [ByteArray.size_extract]; omega) (by omega))
      have hdp' : (dn : Int) ≤ (s.size : Int) := by omega
      go_wp2_with (go_at_call 101; refine H1.out.mono ?_)
      rintro e w1 ⟨rfl, hb1, hk1⟩
      have HB3 := hid hb1
      clear hb1
      go_wp2
      go_end0
      refine ⟨rfl, ?_, HW.out.trans hk1⟩
      rw [← Hq.out]
      exact HB3.out
end Go.Proofs.YtdgkdgbdkhnpcaaGreat.N
