/-
  Base, Gplain, Gtab.
-/
import Derived.Test.YtllfanlhgnkcfaaGreatDoorQ01
import Derived.Maps.AppendAt
import Derived.Laws.OwnMore
import Derived.OwnWalk
namespace Go.Proofs.Lys
open Go Go.RowKit
theorem hid {p : Prop} (h : p) : Hid p := h
def bV (x : UInt8) : Value := .int .u8 x.toNat
def tV (x : Bool) : Value := .bool x
abbrev Kept (w w' : World) : Prop := Only (fun _ => False) w w'
def SrcOf (w : World) (v : Value) (xs : List Value) : Prop :=
 (v = .slice none 0 0 ∧ xs = []) ∨ ∃ a c, v = .slice (some a) xs.length c ∧ ∀ j u, xs[j]? = some u → w.cell? (a.add j) = some u
section
variable {w w' : World} {v : Value} {xs : List Value}
theorem SrcOf.kept (h : SrcOf w v xs) (hk : ∀ a u, w.cell? a = some u → u ∈ xs → w'.cell? a = some u) : SrcOf w' v xs := by
 rcases h with h | ⟨a, c, rfl, hc⟩
 ·exact .inl h
 ·exact .inr ⟨a, c, rfl, fun j u hu => hk _ _ (hc j u hu) (List.mem_of_getElem? hu)⟩
theorem SrcOf.only {O : Nat → Prop} (h : SrcOf w v xs) (k : Only O w w') (hO : ∀ a u, w.cell? a = some u → u ∈ xs → ¬ O a.block) : SrcOf w' v xs :=
 h.kept (fun a u hc hm => by
  rw [World.cell?_of_block (w := w) (w' := w') (a := a) (k.block a.block (World.block_lt_of_cell? w a hc) (hO a u hc hm))]
  exact hc)
theorem SrcOf.stay (h : SrcOf w v xs) (k : Kept w w') : SrcOf w' v xs := h.only k (fun _ _ _ _ f => f)
end
theorem add_none (b o j : Nat) : (⟨b, o, none⟩ : Addr).add j = ⟨b, o + j, none⟩ := by
 unfold Addr.add
 split
 ·simp_all
 ·rfl
theorem SrcOf.shape {w : World} {v : Value} {xs : List Value} (h : SrcOf w v xs) : (xs = [] ∧ ∃ a c, v = .slice a 0 c) ∨ (0 < xs.length ∧ ∃ b o c, v = .slice (some ⟨b, o, none⟩) xs.length c ∧ ∀ j u, xs[j]? = some u → w.cell? ⟨b, o + j, none⟩ = some u) := by
 rcases h with ⟨rfl, rfl⟩ | ⟨⟨b, o, spot⟩, c, rfl, hc⟩
 ·exact .inl ⟨rfl, none, 0, rfl⟩
 ·cases hx : xs with
  | nil => exact .inl ⟨rfl, _, c, rfl⟩
  | cons x t =>
   right
   have h0 := hc 0 x (by rw [hx]; rfl)
   have hs : spot = none := by simpa [Addr.add] using World.cell?_spot h0
   subst hs
   exact ⟨by simp, b, o, c, rfl, fun j u hu => by rw [← add_none]; exact hc j u (by rw [hx]; exact hu)⟩
section
variable {w w' : World} {base : Nat} {e : TypeId} {v : Value} {n : Nat} {xs : List Value}
theorem own_src (h : w.ownsRow base e 1 v n xs) : SrcOf w v xs := by
 obtain ⟨hl, h1 | ⟨g, cap, cur, rfl, hb, hg, hc⟩⟩ := h
 ·obtain ⟨rfl, rfl⟩ := h1
  exact .inl ⟨rfl, List.length_eq_zero_iff.1 (by simpa using hl)⟩
 ·have hl' : xs.length = n := by simpa using hl
  subst hl'
  refine .inr ⟨⟨g, 0, none⟩, cap, rfl, fun j u hu => ?_⟩
  have hj : j < xs.length := (List.getElem?_eq_some_iff.1 hu).1
  rw [add_none, Nat.zero_add]
  have := World.ownsRow.cellAt (w := w) (base := base) (e := e) (size := 1) (g := g) (n := xs.length) (cap := cap) (xs := xs) ⟨hl, .inr ⟨g, cap, cur, rfl, hb, hg, hc⟩⟩ j (by omega)
  rw [this, hu]
theorem own_len (h : w.ownsRow base e 1 v n xs) : xs.length = n := by simpa using h.1
theorem own_slice (h : w.ownsRow base e 1 v n xs) : ∃ a cap, v = .slice a n cap := by
 rcases h.2 with ⟨rfl, rfl⟩ | ⟨g, cap, cur, rfl, _⟩
 ·exact ⟨none, 0, rfl⟩
 ·exact ⟨_, cap, rfl⟩
theorem own_some (h : w.ownsRow base e 1 v n xs) (h0 : 0 < n) : ∃ g cap, v = .slice (some ⟨g, 0, none⟩) n cap := by
 rcases h.2 with ⟨rfl, rfl⟩ | ⟨g, cap, cur, rfl, _⟩
 ·omega
 ·exact ⟨g, cap, rfl⟩
theorem own_typed (h : w.ownsRow base e 1 v n xs) {k : Nat} (hk : v.ownBlock = some k) : Typed w k e := by
 rcases h.2 with ⟨rfl, _⟩ | ⟨g, cap, cur, rfl, hb, hg, _⟩
 ·cases hk
 ·have : g = k := by simpa [Value.ownBlock] using hk
  subst this
  exact ⟨_, _, hg⟩
theorem own_block (h : w.ownsRow base e 1 v n xs) (hk : ∀ k, v.ownBlock = some k → w'.heap[k]? = w.heap[k]?) : w'.ownsRow base e 1 v n xs := by
 rcases h with ⟨hl, hn | ⟨g, cap, cur, rfl, hb, hg, rest⟩⟩
 ·exact ⟨hl, .inl hn⟩
 ·exact ⟨hl, .inr ⟨g, cap, cur, rfl, hb, (hk g rfl).trans hg, rest⟩⟩
theorem own_base (h : w.ownsRow base e 1 v n xs) {b' : Nat} (hb : b' ≤ base) : w.ownsRow b' e 1 v n xs := by
 rcases h with ⟨hl, hn | ⟨g, cap, cur, rfl, hb', hg, rest⟩⟩
 ·exact ⟨hl, .inl hn⟩
 ·exact ⟨hl, .inr ⟨g, cap, cur, rfl, Nat.le_trans hb hb', hg, rest⟩⟩
theorem own_only {O : Nat → Prop} (h : w.ownsRow base e 1 v n xs) (k : Only O w w') (hO : ∀ b, v.ownBlock = some b → ¬ O b) : w'.ownsRow base e 1 v n xs :=
 own_block h (fun b hb => k.block b ((h.lt b hb).2) (hO b hb))
end
theorem SrcOf.len {w : World} {v : Value} {xs : List Value} (h : SrcOf w v xs) : ∃ a c, v = .slice a xs.length c := by
 rcases h with ⟨rfl, rfl⟩ | ⟨a, c, rfl, _⟩
 ·exact ⟨none, 0, rfl⟩
 ·exact ⟨some a, c, rfl⟩
theorem append_src {P : Program} {w : World} {base : Nat} {t e : TypeId} {z : Value} {bytes : Nat} (ht : P.underlying t = some (.slice e))
  (hin : (P.info? e).map (fun i => (i.zero, i.size, i.bytes)) = some (some z, 1, bytes)) (hz : z.cells.size = 1) (hb1 : bytes ≤ 1024)
  {v xv : Value} {n : Nat} {xs ys : List Value} (hown : w.ownsRow base e 1 v n xs) (hsrc : SrcOf w xv ys) (h1 : ∀ u ∈ ys, u.oneCell' = true) (hl : n + ys.length ≤ 1000000000) (hbase : base ≤ w.heap.size) :
  ∃ v' w', (Builtin.append_ #[t, t] 0 #[v, xv]).run P w = .ok v' w' ∧ w'.ownsRow base e 1 v' (n + ys.length) (xs ++ ys) ∧ w.grownBy w' v.ownBlock ∧ (v'.ownBlock = v.ownBlock ∨ v'.ownBlock = some w.heap.size) := by
 obtain ⟨i0, hi0, hz0, hz1, hz2⟩ := info_parts hin
 have hm : n + ys.length ≤ maxLen := by unfold maxLen; omega
 rcases hsrc with ⟨rfl, rfl⟩ | ⟨a, c, rfl, hc⟩
 ·refine ⟨v, w, ?_, by simpa using hown, World.grownBy.refl _ _, .inl rfl⟩
  rcases hown.2 with ⟨rfl, rfl⟩ | ⟨g, cap, cur, rfl, hbg, hg, hnc, hcm, hcs, htake⟩
  ·simp [Builtin.append_, run_underlying ht, sizeOf, typeInfo, hi0, Builtin.lenOf, Builtin.firstCells]
  ·simp [Builtin.append_, run_underlying ht, sizeOf, typeInfo, hi0, Builtin.lenOf, Builtin.firstCells, hnc, storeCells]
 ·obtain ⟨v', w', hr, h2, h3, _, h5⟩ := run_append_own_at (P := P) w base t 0 e i0 z 1 bytes ht hi0 hz0 hz1 hz2 hz (by omega) v n xs hown a ys.length c ys (by simp)
   hc h1 hm (by have : (n + ys.length) * bytes ≤ 1000000000 * 1024 := Nat.mul_le_mul hl hb1; omega) hbase
  exact ⟨v', w', hr, h2, h3, h5⟩
theorem bytes_one (bs : List UInt8) : ∀ u ∈ bs.map bV, u.oneCell' = true := by
 intro u hu
 obtain ⟨x, _, rfl⟩ := List.mem_map.1 hu
 rfl
theorem wpList_append_run {P : Program} {w : World} {ops : Array Oper} {rest : List Oper} {o : Oper} {a : Act} {Q : Exit → Act → World → Prop} (hgd : o.guard = none) (s x : Operand) (t : TypeId)
  (ho : o.op = .call { callee := .builtin .append, args := #[s, x], argTypes := #[t, t] }) {sv xv : Value} (hs : a.eval s = sv) (hx : a.eval x = xv) {v : Value} {w' : World}
  (hrun : Hid ((Builtin.append_ #[t, t] 0 #[sv, xv]).run P w = .ok v w')) (h : wpList P ops Q rest (a.put o.dst v) w') : wpList P ops Q (o :: rest) a w := by
 refine wpList_plain hgd fun K hK => ?_
 have hr : (Builtin.append_ #[t, t] o.type #[sv, xv]).run P w = .ok v w' := hrun.out
 unfold Oper.wp
 simp [execOp, ho, resolve, invoke, builtin, hs, hx, hr, Result.andThen]
 exact hK _ _ h
end Go.Proofs.Lys
namespace Go.Proofs.YtllfanlhgnkcfaaGreatDoor.G
open Go.RowKit Go.Proofs.Lys
set_option linter.unusedVariables false
def crc1 (s : Nat) : Nat := if s % 2 = 1 then s / 2 ^^^ 2197175160 else s / 2
def crcN : Nat → Nat → Nat
 | 0, s => s
 | n + 1, s => crc1 (crcN n s)
def crcB (s : Nat) (c : UInt8) : Nat := crcN 8 (s ^^^ c.toNat)
def crcF (s : Nat) (bs : List UInt8) : Nat := bs.foldl crcB s
def sumL (bs : List UInt8) : Nat := crcF 4294967295 bs ^^^ 4294967295
theorem xor_lt {a b : Nat} (ha : a < 4294967296) (hb : b < 4294967296) : a ^^^ b < 4294967296 := Nat.xor_lt_two_pow (n := 32) ha hb
theorem crc1_lt {s : Nat} (h : s < 4294967296) : crc1 s < 4294967296 := by
 unfold crc1
 split
 ·exact xor_lt (by omega) (by decide)
 ·omega
theorem crcN_lt {s : Nat} (h : s < 4294967296) : ∀ n, crcN n s < 4294967296
 | 0 => h
 | n + 1 => crc1_lt (crcN_lt h n)
theorem byte_lt (c : UInt8) : c.toNat < 256 := c.toNat_lt
theorem crcB_lt {s : Nat} (h : s < 4294967296) (c : UInt8) : crcB s c < 4294967296 := crcN_lt (xor_lt h (by have := byte_lt c; omega)) 8
theorem crcF_lt : ∀ (bs : List UInt8) {s : Nat}, s < 4294967296 → crcF s bs < 4294967296
 | [], _, h => h
 | c :: r, s, h => crcF_lt r (crcB_lt h c)
theorem sumL_lt (bs : List UInt8) : sumL bs < 4294967296 := xor_lt (crcF_lt bs (by decide)) (by decide)
theorem crcF_app (s : Nat) (a b : List UInt8) : crcF s (a ++ b) = crcF (crcF s a) b := List.foldl_append
def four (n : Nat) : List UInt8 := [UInt8.ofNat (n % 256), UInt8.ofNat (n / 256 % 256), UInt8.ofNat (n / 65536 % 256), UInt8.ofNat (n / 16777216 % 256)]
theorem ofNat_toNat {n : Nat} (h : n < 256) : (UInt8.ofNat n).toNat = n := by rw [UInt8.toNat_ofNat']; omega
def headL (k n : Nat) : List UInt8 := UInt8.ofNat k :: four n
def frameL (k : Nat) (b : List UInt8) : List UInt8 := headL k b.length ++ (four (sumL (headL k b.length ++ b)) ++ b)
def Puts (k : Int) (b bs : List UInt8) (x : Int) : Prop :=
 ((k < 0 ∨ 255 < k) ∧ bs = [] ∧ x = 1) ∨ (0 ≤ k ∧ k ≤ 255 ∧ 1048576 < b.length ∧ bs = [] ∧ x = 2) ∨ (0 ≤ k ∧ k ≤ 255 ∧ b.length ≤ 1048576 ∧ bs = frameL k.toNat b ∧ x = 0)
end Go.Proofs.YtllfanlhgnkcfaaGreatDoor.G
namespace Go.Proofs.YtllfanlhgnkcfaaGreatDoor.G
open Go.RowKit Go.Proofs.Lys
set_option linter.unusedVariables false
def stepT : List Nat := [0, 274646895, 549293790, 820201905, 1098587580, 1361435347, 1640403810, 1905808397, 2197175160, 2460548119, 2722870694, 2987750089, 3280807620, 3553878443, 3811616794, 4084100981]
theorem stepT_lt (i : Nat) : stepT.getD i 0 < 4294967296 := by
 rcases Nat.lt_or_ge i 16 with h | h
 ·have : ∀ i, i < 16 → stepT.getD i 0 < 4294967296 := by decide
  exact this i h
 ·rw [List.getD_eq_getElem?_getD, List.getElem?_eq_none (by show 16 ≤ i; exact h)]
  decide
theorem half_xor (a b : Nat) : (a ^^^ b) / 2 = a / 2 ^^^ b / 2 := by
 have h := Nat.shiftRight_xor_distrib (a := a) (b := b) (i := 1)
 simpa [Nat.shiftRight_eq_div_pow] using h
theorem odd_xor (a b : Nat) : ((a ^^^ b) % 2 = 1) = ((a % 2 = 1) ≠ (b % 2 = 1)) := by
 have h : (a ^^^ b).testBit 0 = (a.testBit 0 ^^ b.testBit 0) := Nat.testBit_xor _ _ _
 simp only [Nat.testBit_zero] at h
 by_cases ha : a % 2 = 1 <;> by_cases hb : b % 2 = 1 <;> simp [ha, hb] at h ⊢ <;> omega
theorem xor_pp (a b p : Nat) : a ^^^ b = (a ^^^ p) ^^^ (b ^^^ p) := by
 rw [Nat.xor_assoc, Nat.xor_comm b p, ← Nat.xor_assoc p p b, Nat.xor_self, Nat.zero_xor]
theorem xor_pn (a b p : Nat) : (a ^^^ b) ^^^ p = (a ^^^ p) ^^^ b := by rw [Nat.xor_assoc, Nat.xor_comm b p, ← Nat.xor_assoc]
theorem crc1_xor (a b : Nat) : crc1 (a ^^^ b) = crc1 a ^^^ crc1 b := by
 unfold crc1
 rw [half_xor]
 simp only [odd_xor]
 by_cases ha : a % 2 = 1 <;> by_cases hb : b % 2 = 1
 ·rw [if_neg (by simp [ha, hb]), if_pos ha, if_pos hb]
  exact xor_pp _ _ _
 ·rw [if_pos (by simp [ha, hb]), if_pos ha, if_neg hb]
  exact xor_pn _ _ _
 ·rw [if_pos (by simp [ha, hb]), if_neg ha, if_pos hb]
  exact Nat.xor_assoc _ _ _
 ·rw [if_neg (by simp [ha, hb]), if_neg ha, if_neg hb]
theorem crcN_xor : ∀ (n a b : Nat), crcN n (a ^^^ b) = crcN n a ^^^ crcN n b
 | 0, _, _ => rfl
 | n + 1, a, b => by rw [crcN, crcN, crcN, crcN_xor n a b, crc1_xor]
theorem crc1_two (q : Nat) : crc1 (2 * q) = q := by
 unfold crc1
 rw [if_neg (by omega)]
 omega
theorem crcN_add (n s : Nat) : crcN (n + 1) s = crcN n (crc1 s) := by
 induction n with
 | zero => rfl
 | succ n ih => rw [crcN, ih]; rfl
theorem crc4_high (q : Nat) : crcN 4 (16 * q) = q := by
 rw [crcN_add, show 16 * q = 2 * (8 * q) by omega, crc1_two, crcN_add, show 8 * q = 2 * (4 * q) by omega, crc1_two, crcN_add, show 4 * q = 2 * (2 * q) by omega, crc1_two, crcN_add, crc1_two]
 rfl
theorem split16 (s : Nat) : s = 16 * (s / 16) ^^^ s % 16 := by
 apply Nat.eq_of_testBit_eq
 intro i
 have e1 : 16 * (s / 16) = (s >>> 4) <<< 4 := by rw [Nat.shiftLeft_eq, Nat.shiftRight_eq_div_pow]; omega
 have e2 : s % 16 = s % 2 ^ 4 := rfl
 rw [Nat.testBit_xor, e1, e2, Nat.testBit_shiftLeft, Nat.testBit_shiftRight, Nat.testBit_mod_two_pow]
 by_cases h : i < 4
 ·simp [h, show ¬ 4 ≤ i by omega]
 ·simp [h, show 4 ≤ i by omega, show 4 + (i - 4) = i by omega]
theorem crc4 (s : Nat) : crcN 4 s = s / 16 ^^^ stepT.getD (s % 16) 0 := by
 have hT : ∀ r, r < 16 → crcN 4 r = stepT.getD r 0 := by decide
 have h1 : crcN 4 s = crcN 4 (16 * (s / 16) ^^^ s % 16) := by rw [← split16]
 rw [h1, crcN_xor, crc4_high, hT _ (Nat.mod_lt _ (by decide))]
theorem crc8 (s : Nat) : crcN 8 s = crcN 4 (crcN 4 s) := rfl
def look (s : Nat) : Nat := s / 16 ^^^ stepT.getD (s % 16) 0
theorem look_lt {s : Nat} (h : s < 4294967296) : look s < 4294967296 := xor_lt (by omega) (stepT_lt _)
theorem crcB_look (s : Nat) (c : UInt8) : crcB s c = look (look (s ^^^ c.toNat)) := by
 unfold crcB look
 rw [crc8, crc4, crc4]
theorem crcF_snoc (s : Nat) (bs : List UInt8) (c : UInt8) : crcF s (bs ++ [c]) = crcB (crcF s bs) c := by rw [crcF_app]; rfl
theorem crcF_take {s : Nat} {bs : List UInt8} {k : Nat} (h : k < bs.length) : crcF s (bs.take (k + 1)) = crcB (crcF s (bs.take k)) bs[k] := by
 rw [List.take_succ_eq_append_getElem h, crcF_snoc]
end Go.Proofs.YtllfanlhgnkcfaaGreatDoor.G
