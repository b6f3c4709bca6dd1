/-
  Wread, Wunpack.
-/
import Derived.Test.YtbhpmeeknbbmmaaQ21
import Derived.Defers
import Derived.Recover

/-
  Numbers that are read.
-/
namespace Go.Proofs.Ytbhpmeeknbbmmaa.V
open Go.RowKit Go.Proofs.Lys
set_option linter.unusedVariables false

/-- The reader and the numbers within read. -/
structure UdIn (w : World) (B r : Nat) (vb : Value) (bs : List UInt8) (wr : World) (z t n : Nat) (sv : Value) (acc : List Int) : Prop where
  up : UpAt wr B r z t vb bs n
  row : wr.ownsRow w.heap.size 3 1 sv acc.length (acc.map (Value.int .i64))
  kept : Kept w wr
  newB : w.heap.size ≤ B
  newr : w.heap.size ≤ r
theorem UdIn.read {w wr w' : World} {B r z t n z' t' n' : Nat} {vb sv : Value} {bs : List UInt8} {acc : List Int} (h : UdIn w B r vb bs wr z t n sv acc) (ho : Only (Foo B r) wr w') (hu : UpAt w' B r z' t' vb bs n') : UdIn w B r vb bs w' z' t' n' sv acc :=
  ⟨hu, own_only h.row ho (fun j hj e => by
    rcases e with e | e
    · exact (own_typed h.row hj).ne h.up.blk.typed (by decide) e
    · exact (own_typed h.row hj).ne h.up.rd.blk.typed (by decide) e), h.kept.trans ho (fun j hj e => by
    have := h.newB
    have := h.newr
    rcases e with e | e <;> omega), h.newB, h.newr⟩
theorem UdIn.add {w wr w' : World} {B r z t n : Nat} {vb sv sv' : Value} {bs : List UInt8} {acc acc' : List Int} (h : UdIn w B r vb bs wr z t n sv acc) (ho : Only (fun k => sv.ownBlock = some k) wr w') (hr : w'.ownsRow w.heap.size 3 1 sv' acc'.length (acc'.map (Value.int .i64))) : UdIn w B r vb bs w' z t n sv' acc' :=
  ⟨⟨ho.blk h.up.blk (fun e => (own_typed h.row e).ne h.up.blk.typed (by decide) rfl), h.up.rd.only ho (fun e => (own_typed h.row e).ne h.up.rd.blk.typed (by decide) rfl) (fun j hj e => (own_typed h.row e).ne (own_typed h.up.rd.own hj) (by decide) rfl), h.up.z31, h.up.zt⟩, hr, h.kept.trans ho (fun j hj e => by have := (h.row.lt j e).1; omega), h.newB, h.newr⟩

theorem readT_first {n : Nat} {L : List Bool} {p z t : Nat} : readT (n + 1) L p z t [] = (getN L 64).bind fun x => readT n x.2 x.1 z t ([] ++ [wrap64 (x.1 : Int)]) := by simp [readT]
theorem readT_next {n : Nat} {L : List Bool} {p z t : Nat} {acc : List Int} (h : acc ≠ []) : readT (n + 1) L p z t acc = (chgR z t L).bind fun x => readT n x.2 (p ^^^ x.1.1) x.1.2.1 x.1.2.2 (acc ++ [wrap64 ((p ^^^ x.1.1 : Nat) : Int)]) := by simp [readT, h]
theorem bodyR_lt {z t : Nat} {l R : List Bool} {X z' t' : Nat} (h : bodyR z t l = some ((X, z', t'), R)) : X < 18446744073709551616 := by
  unfold bodyR at h
  cases hg : getN l (64 - z - t) with
  | none => rw [hg] at h; cases h
  | some y =>
    rw [hg] at h
    simp only [Option.map_some, Option.some.injEq, Prod.mk.injEq] at h
    rw [← h.1.1]
    exact Nat.mod_lt _ (by decide)
theorem newR_lt {l R : List Bool} {X z' t' : Nat} (h : newR l = some ((X, z', t'), R)) : X < 18446744073709551616 := by
  unfold newR at h
  cases hg : getN l 5 with
  | none => rw [hg] at h; cases h
  | some a =>
    rw [hg, Option.bind_some] at h
    cases hm : getN a.2 6 with
    | none => rw [hm] at h; cases h
    | some m =>
      rw [hm, Option.bind_some] at h
      split at h
      · cases h
      · exact bodyR_lt h
theorem chgR_lt {z t : Nat} {l R : List Bool} {X z' t' : Nat} (h : chgR z t l = some ((X, z', t'), R)) : X < 18446744073709551616 := by
  match l, h with
  | [], h => cases h
  | false :: l, h =>
    have h' : some ((0, z, t), l) = some ((X, z', t'), R) := h
    simp only [Option.some.injEq, Prod.mk.injEq] at h'
    omega
  | [true], h => cases h
  | true :: false :: l, h => exact bodyR_lt h
  | true :: true :: l, h => exact newR_lt h

/-- What read leaves. -/
def ReadPost (w : World) (bs : List UInt8) (n : Nat) (e : Ending) (w' : World) : Prop :=
  Kept w w' ∧ ((∃ m u, readT n (unpackL bs) 0 0 0 [] = some m ∧ Packs m bs 0 ∧ e = .returned u ∧ w'.ownsRow w.heap.size 3 1 u m.length (m.map (Value.int .i64))) ∨
    (e = tooFew ∧ (readT n (unpackL bs) 0 0 0 [] = none ∨ ∃ m, readT n (unpackL bs) 0 0 0 [] = some m ∧ ¬ Packs m bs 0)))

set_option maxRecDepth 100000 in
set_option maxHeartbeats 3200000 in
theorem read_any (w : World) (v : Value) (bs : List UInt8) (n : Nat) (hs : SrcOf w v (bs.map bV)) (hl : bs.length ≤ 100000) (hn : n ≤ 120) :
    Calls Try.prog 49 #[v, .int .i64 (n : Int)] w (ReadPost w bs n) := by
  have hnot : ∀ (x : Bool) (w : World), (Op.unary .not (.bool x)).run Try.prog w = .ok (.bool (!x)) w := fun _ _ => rfl
  obtain ⟨i0, hi0, hz0, hz1, hz2⟩ := info_parts infoI6
  have hmk : ∀ w, (Instr.makeSlice 44 (.int .i64 0) (.int .i64 (n : Int))).run Try.prog w = .ok (.slice (some ⟨w.heap.size, 0, none⟩) 0 n) (w.alloc (.cells (madeCells #[Value.int .i64 0] n) 3)) := fun w => by
    have := run_make (P := Try.prog) w 44 3 i0 (.int .i64 0) Try.underlying44 hi0 hz0 .i64 .i64 0 (n : Int) (by omega) (by omega) (by rw [hz2]; omega) (by omega)
    rw [hz1] at this
    simp only [Int.toNat_natCast, Nat.mul_one, Int.toNat_zero] at this
    exact this
  have hrow : Hid ((w.alloc (.cells (madeCells #[Value.int .i64 0] n) 3)).ownsRow w.heap.size 3 1 (.slice (some ⟨w.heap.size, 0, none⟩) 0 n) 0 []) := World.ownsRow_made w _ n (Nat.le_refl _) (by unfold maxLen; omega) (by rw [size_madeCells]; omega)
  obtain ⟨a0, c0, e0⟩ := hs.len
  rw [List.length_map] at e0
  obtain ⟨L, hL⟩ : ∃ L, bs.length = L := ⟨_, rfl⟩
  have HS := hid hs
  rw [hL] at e0 hl
  subst e0
  have HL := hid hL
  clear hL hs hi0 hz0 hz1 hz2
  go_enter Try.func49, Try.ntmps49
  go_wp2_with fail
  have k1 : Kept w (w.alloc (.cells (madeCells #[Value.int .i64 0] n) 3)) := (Only.refl _ w).alloc _
  refine (newReader_any _ _ bs (HS.out.stay k1) (by have := HL.out; omega)).mono ?_
  rintro e w2 ⟨r, vb, rfl, hB, hblk, hown, k2⟩
  have hsz := k2.size
  have hI : UdIn w w2.heap.size r vb bs (w2.alloc (.cells #[.int .i64 0, .int .i64 0, .pointer (some ⟨r, 0, none⟩)] 113)) 0 0 0 (.slice (some ⟨w.heap.size, 0, none⟩) 0 n) [] := ⟨⟨Blk.new w2 [.int .i64 0, .int .i64 0, .pointer (some ⟨r, 0, none⟩)] _, ⟨hblk.alloc _, own_base (hown.alloc _) (Nat.zero_le _), by have := HL.out; omega, by omega⟩, by omega, by omega⟩, (own_only hrow.out k2 (fun _ _ f => f)).alloc _, (k1.trans k2 (fun _ _ f => f)).alloc _, by simp at hsz; omega, by simp at hB; omega⟩
  have HI := hid hI
  clear k1 k2 hB hblk hown hI hrow hmk
  go_wp2_with fail
  generalize w2.alloc (.cells #[.int .i64 0, .int .i64 0, .pointer (some ⟨r, 0, none⟩)] 113) = w3 at HI ⊢
  generalize w2.heap.size = B at HI ⊢
  go_loopw [5, 7, 18] (fun sv p i wr => ∃ (k n' : Nat) (acc : List Int) (P z t : Nat), k ≤ n ∧ acc.length = k ∧ p = .int .u64 (P : Int) ∧ P < 18446744073709551616 ∧ i = .int .i64 (k : Int) ∧ UdIn w B r vb bs wr z t n' sv acc ∧ readT n (unpackL bs) 0 0 0 [] = readT (n - k) ((unpackL bs).drop n') P z t acc) (fun _ _ i _ => n - (intOf i).toNat)
  case atStart => exact ⟨0, 0, [], 0, 0, 0, by omega, rfl, rfl, by decide, rfl, HI.out, by simp⟩
  case round =>
    obtain ⟨k, n', acc, P, z, t, hk, hacc, rfl, hP, rfl, hR, hT⟩ := hrel
    have HR := hid hR
    have HPl := hid hP
    clear hR HI hP
    by_cases hlt : k < n
    · obtain ⟨f, hf⟩ : ∃ f, n - k = f + 1 := ⟨n - k - 1, by omega⟩
      rw [hf] at hT
      by_cases hk0 : k = 0
      · subst hk0
        have ea : acc = [] := List.length_eq_zero_iff.1 hacc
        subst ea
        rw [readT_first] at hT
        rcases getN_drop bs n' 64 HR.out.up.rd.top with ⟨hN, hg⟩ | ⟨hN, hg⟩
        · have HT : Hid (readT n (unpackL bs) 0 0 0 [] = none) := by show _ = _; rw [hT, hg]; rfl
          have hc := utake_no HR.out.up.ur 64 hN (by omega)
          clear hT hg hN
          go_wp2_with fail
          refine hc.mono ?_
          rintro e w4 ⟨rfl, k4⟩
          clear hc
          go_wp2_with fail
          exact ⟨rfl, HR.out.kept.trans k4 (fun _ _ f => f), .inr ⟨rfl, .inl HT.out⟩⟩
        · have hc := utake_any HR.out.up.ur 64 hN (by omega)
          have hXl := hid (val_take_lt ((unpackL bs).drop n') 64 (by omega))
          generalize valL (((unpackL bs).drop n').take 64) = X at hc hg hXl
          have HT : Hid (readT n (unpackL bs) 0 0 0 [] = readT f ((unpackL bs).drop (n' + 64)) X z t ([] ++ [wrap64 (X : Int)])) := by show _ = _; rw [hT, hg]; rfl
          clear hT hg hN
          go_wp2_with fail
          refine hc.mono ?_
          rintro e w4 ⟨rfl, k4, u4⟩
          clear hc
          have HR3 := hid (HR.out.read (k4.mono (fun _ _ e => Or.inr e)) ⟨u4.blk, u4.rd, HR.out.up.z31, HR.out.up.zt⟩)
          obtain ⟨g, cap, w5, Hr, hown4, hon4⟩ := own_num HR3.out.row HR3.out.kept.size (by simp) (wrap64 (X : Int))
          have HR4 := hid (HR3.out.add hon4 hown4)
          clear hown4 hon4 u4
          go_wp2_with (at_builtin; refine wpList_append_run rfl _ _ _ rfl rfl rfl Hr ?_)
          go_roundw
          case rel => exact ⟨1, n' + 64, [] ++ [wrap64 (X : Int)], X, z, t, by omega, rfl, rfl, hXl.out, rfl, HR4.out, by rw [HT.out, show n - 1 = f by omega]⟩
          case measure => simp [intOf]; omega
      · have ha : acc ≠ [] := fun e => by rw [e] at hacc; simp at hacc; omega
        have hk0' : ((k : Int) == 0) = false := by simp; omega
        rw [readT_next ha] at hT
        have hc := uchange_any HR.out.up
        rcases hg : chgR z t ((unpackL bs).drop n') with _ | ⟨⟨X, z', t'⟩, R⟩
        · have HT : Hid (readT n (unpackL bs) 0 0 0 [] = none) := by show _ = _; rw [hT, hg]; rfl
          have hc' := hc.mono (fun e w' (h : _ ∧ _) => show Only (Foo B r) wr w' ∧ e = tooFew from ⟨h.1, by
            rcases h.2 with ⟨_, h⟩ | ⟨X, _, _, _, h, _⟩
            · exact h
            · rw [hg] at h; cases h⟩)
          clear hT hg hc
          go_wp2_with fail
          refine hc'.mono ?_
          rintro e w4 ⟨k4, rfl⟩
          clear hc'
          go_wp2_with fail
          exact ⟨rfl, HR.out.kept.trans k4 (fun j hj e => by have := HR.out.newB; have := HR.out.newr; rcases e with e | e <;> omega), .inr ⟨rfl, .inl HT.out⟩⟩
        · have hc' := hc.mono (fun e w' (h : _ ∧ _) => show Only (Foo B r) wr w' ∧ ∃ n2, R = (unpackL bs).drop n2 ∧ e = .returned (.int .u64 (X : Int)) ∧ UpAt w' B r z' t' vb bs n2 from ⟨h.1, by
            rcases h.2 with ⟨h, _⟩ | ⟨X', z2, t2, n2, h, h1, h2⟩
            · rw [hg] at h; cases h
            · rw [hg] at h
              simp only [Option.some.injEq, Prod.mk.injEq] at h
              obtain ⟨⟨rfl, rfl, rfl⟩, hb⟩ := h
              exact ⟨n2, hb, h1, h2⟩⟩)
          have hXl := chgR_lt hg
          rw [hg] at hT
          have HT := hid hT
          have hxo : bits .xor .u64 (P : Int) (X : Int) = ((P ^^^ X : Nat) : Int) := u64_xor_nat _ _ HPl.out hXl
          have hPX : Hid (P ^^^ X < 18446744073709551616) := Nat.xor_lt_two_pow (n := 64) HPl.out hXl
          obtain ⟨Y, hY⟩ : ∃ Y, P ^^^ X = Y := ⟨_, rfl⟩
          rw [hY] at hxo hPX
          have HY := hid hY
          clear hT hg hc hXl hY
          go_wp2_with fail
          refine hc'.mono ?_
          rintro e w4 ⟨k4, n2, hR2, rfl, u4⟩
          clear hc'
          have HR3 := hid (HR.out.read k4 u4)
          have hal : acc.length ≤ 1000000 := by omega
          obtain ⟨g, cap, w5, Hr, hown4, hon4⟩ := own_num HR3.out.row HR3.out.kept.size hal (wrap64 (Y : Int))
          have HR4 := hid (HR3.out.add hon4 hown4)
          have HR2 := hid hR2
          have HA := hid hacc
          clear hown4 hon4 hR2 hal u4 k4
          rw [hacc] at Hr HR4
          clear hacc
          go_wp2_with (at_builtin; refine wpList_append_run rfl _ _ _ rfl rfl rfl Hr ?_)
          go_roundw
          case rel => exact ⟨k + 1, n2, acc ++ [wrap64 (Y : Int)], Y, z', t', by omega, by simp [HA.out], rfl, hPX.out, by go_num, HR4.out, by rw [HT.out, show n - (k + 1) = f by omega, ← HR2.out, ← HY.out]; rfl⟩
          case measure => simp [intOf]; omega
    · have ek : n - k = 0 := by omega
      rw [ek] at hT
      have HT : Hid (readT n (unpackL bs) 0 0 0 [] = some acc) := by show _ = _; rw [hT]; rfl
      have hp := pack_any wr _ acc (own_src HR.out.row) (by omega)
      obtain ⟨sa, sc, hsv⟩ := own_slice HR.out.row
      subst hsv
      clear hT ek hacc
      go_wp2_with fail
      refine hp.mono ?_
      rintro e w3 ⟨k3, u, cs, x, rfl, hP, ho3⟩
      clear hp
      have hk3 : Kept w w3 := HR.out.kept.trans k3 (fun _ _ f => f)
      have hsrc := HS.out.stay hk3
      have HP := hid hP
      have HK3 := hid hk3
      have HO3 := hid (own_only HR.out.row k3 (fun _ _ f => f))
      by_cases hx : x = 0
      · subst hx
        have he := equal_any (own_src ho3) hsrc
        obtain ⟨ua, uc, hu⟩ := own_slice ho3
        subst hu
        by_cases heq : cs = bs
        · have he' := he.mono (fun e w' (h : _ ∧ _) => show w' = w3 ∧ e = .returned (.bool true) from ⟨h.1, by
            rcases h.2 with ⟨_, h⟩ | ⟨h, _⟩
            · exact h
            · exact absurd heq h⟩)
          have HE := hid heq
          clear he heq hP ho3 hsrc hk3
          go_wp2_with fail
          refine he'.mono ?_
          rintro e w4 ⟨hw, rfl⟩
          replace hw := hw.symm
          subst hw
          clear he'
          go_wp2_with fail
          go_ret
          exact ⟨HK3.out, .inl ⟨acc, _, HT.out, by rw [← HE.out]; exact HP.out, rfl, HO3.out⟩⟩
        · have he' := he.mono (fun e w' (h : _ ∧ _) => show w' = w3 ∧ e = .returned (.bool false) from ⟨h.1, by
            rcases h.2 with ⟨h, _⟩ | ⟨_, h⟩
            · exact absurd h heq
            · exact h⟩)
          have HE := hid heq
          clear he heq hP ho3 hsrc hk3
          go_wp2_with fail
          refine he'.mono ?_
          rintro e w4 ⟨hw, rfl⟩
          replace hw := hw.symm
          subst hw
          clear he'
          go_wp2_with fail
          exact ⟨rfl, HK3.out, .inr ⟨rfl, .inr ⟨acc, HT.out, fun h => HE.out (HP.out.inj h).1⟩⟩⟩
      · have hx' : (x == 0) = false := by simp [hx]
        clear hP ho3 hsrc hk3
        go_wp2_with fail
        exact ⟨rfl, HK3.out, .inr ⟨rfl, .inr ⟨acc, HT.out, fun h => hx (HP.out.inj h).2⟩⟩⟩
end Go.Proofs.Ytbhpmeeknbbmmaa.V

/-
  Unpack: the numbers of bytes, or why there are none.
-/
namespace Go.Proofs.Ytbhpmeeknbbmmaa.V
open Go.RowKit Go.Proofs.Lys
set_option linter.unusedVariables false

theorem unpNo (p q : Addr) (w : World) :
    CallsD Try.prog 48 #[.pointer (some p), .pointer (some q)] .returning w fun e u' w' => e = .returned (.tuple #[]) ∧ u' = .returning ∧ w' = w := by
  refine callsD_of_wpS Try.func48 rfl fun c₀ cs hu => ?_
  apply wpS_seq
  apply wpS_region
  simp [wpOpsS, go_sem, recoverD, hu, Try.ntmps48, Exit.thenS]
  apply wpS_seq
  apply wpS_region
  simp [wpOpsS, go_sem, Exit.thenS]
  refine wpS_cond (t := false) (by simp [Act.eval, Array.replicate]) ?_
  simp only [Bool.false_eq_true, if_false]
  refine wpS_of_wp (wp_skip ?_)
  cases c₀
  simp_all [bodyPostS, results, Try.results48]

theorem unpUp (p q : Nat) (x : Value) (y n : Int) (w : World) (hp : Blk w p [x] 44) (hq : Blk w q [.int .i64 y] 26) :
    CallsD Try.prog 48 #[.pointer (some ⟨p, 0, none⟩), .pointer (some ⟨q, 0, none⟩)] (.panicking [{ v := .iface 26 (.int .i64 n), recovered := false }]) w fun e u' w' =>
      e = .returned (.tuple #[]) ∧ u' = .panicking [{ v := .iface 26 (.int .i64 n), recovered := true }] ∧ Only (fun k => k = p ∨ k = q) w w' ∧ Blk w' p [.slice none 0 0] 44 ∧ Blk w' q [.int .i64 n] 26 := by
  have hpq : p ≠ q := hp.ne hq (by decide)
  have c0 := hp.cell 0 rfl
  have c1 := hq.cell 0 rfl
  have f0 := hp.frozen 0
  have f1 := hq.frozen 0
  have hta : ∀ w, (Instr.typeAssert (.iface 26 (.int .i64 n)) 20 26 false).run Try.prog w = .ok (.int .i64 n) w := by
    intro w
    simp [Instr.typeAssert, run_underlying Try.underlying26, Result.andThen]
  refine callsD_of_wpS Try.func48 rfl fun c₀ cs hu => ?_
  apply wpS_seq
  apply wpS_region
  simp [wpOpsS, go_sem, recoverD, hu, Try.ntmps48, Exit.thenS]
  apply wpS_seq
  apply wpS_region
  simp [wpOpsS, go_sem, Exit.thenS]
  refine wpS_cond (t := true) (by simp [Act.eval, Array.replicate]) ?_
  simp only [if_true]
  refine wpS_of_wp ?_
  go_region
  all_goals
    refine ⟨rfl, _, rfl, .tuple #[], by simp [results, Try.results48], rfl, rfl, (((Only.refl _ w).setCell (fun _ => by simp) _).setCell (fun _ => by simp) _).drew, ?_, ?_⟩
    · exact ((hp.set 0 _).other hpq _).drew
    · exact ((hq.other (Ne.symm hpq) _).set 0 _).drew

/-- What Unpack leaves. -/
def UnpackPost (w : World) (bs : List UInt8) (n : Int) (e : Ending) (w' : World) : Prop :=
  Kept w w' ∧ ∃ l u x, e = .returned (.tuple #[u, .int .i64 x]) ∧ Reads bs n l x ∧ w'.ownsRow w.heap.size 3 1 u l.length (l.map (Value.int .i64))

/-- The world in which Unpack's body begins. -/
abbrev unpW (w : World) : World := (w.alloc (.cells #[.slice none 0 0] 44)).alloc (.cells #[.int .i64 0] 26)
theorem unpP (w : World) : Blk (unpW w) w.heap.size [.slice none 0 0] 44 := (Blk.new w [.slice none 0 0] 44).alloc _
theorem unpQ (w : World) : Blk (unpW w) (w.heap.size + 1) [.int .i64 0] 26 := by
  have := Blk.new (w.alloc (.cells #[.slice none 0 0] 44)) [.int .i64 0] 26
  simpa using this
theorem unpK (w : World) : Kept w (unpW w) := ((Only.refl _ w).alloc _).alloc _

set_option maxHeartbeats 1600000 in
theorem unpack_arg (w : World) (v : Value) (bs : List UInt8) (n : Int) (hn : n < 0 ∨ 120 < n) : Calls Try.prog 28 #[v, .int .i64 n] w (UnpackPost w bs n) := by
  have hmf : ∀ (fn : Fn) (first cap : Array Value) (w : World), (Instr.makeFunc fn first cap).run Try.prog w = .ok (.func fn first cap) w := fun _ _ _ _ => rfl
  have hp := unpP w
  have hq := unpQ w
  have c0 := hp.cell 0 rfl
  have c1 := hq.cell 0 rfl
  have f0 := hp.frozen 0
  have f1 := hq.frozen 0
  rcases hn with hn | hn
  · have hn' : ¬ 120 < n := by omega
    go_enter_defers Try.func28, Try.ntmps28
    go_wp2
    simp [bodyPostD, Leaves, results, Try.results28, go_sem]
    exact ⟨((Only.refl _ w).alloc _).alloc _, [], _, 1, rfl, .inr (.inl ⟨hn, rfl, rfl⟩), World.ownsRow_nil _ _ _ _⟩
  · go_enter_defers Try.func28, Try.ntmps28
    go_wp2
    simp [bodyPostD, Leaves, results, Try.results28, go_sem]
    exact ⟨((Only.refl _ w).alloc _).alloc _, [], _, 2, rfl, .inl ⟨hn, rfl, rfl⟩, World.ownsRow_nil _ _ _ _⟩

set_option maxHeartbeats 1600000 in
theorem unpack_any (w : World) (v : Value) (bs : List UInt8) (n : Int) (hs : SrcOf w v (bs.map bV)) (hl : bs.length ≤ 100000) : Calls Try.prog 28 #[v, .int .i64 n] w (UnpackPost w bs n) := by
  by_cases hn : n < 0 ∨ 120 < n
  · exact unpack_arg w v bs n hn
  · have hmf : ∀ (fn : Fn) (first cap : Array Value) (w : World), (Instr.makeFunc fn first cap).run Try.prog w = .ok (.func fn first cap) w := fun _ _ _ _ => rfl
    obtain ⟨N, rfl⟩ : ∃ N : Nat, n = (N : Int) := ⟨n.toNat, by omega⟩
    have hN : N ≤ 120 := by omega
    have hrd := read_any (unpW w) v bs N (hs.stay (unpK w)) hl hN
    have hp := unpP w
    have hq := unpQ w
    have hk0 := unpK w
    have hn' : ¬ (120 : Int) < (N : Int) := by omega
    obtain ⟨a0, c0, e0⟩ := hs.len
    rw [List.length_map] at e0
    subst e0
    clear hs hn
    go_enter_defers Try.func28, Try.ntmps28
    go_wp2_with fail
    refine hrd.mono ?_
    rintro e w1 ⟨hk, ⟨m, u, hT, hP, rfl, hrow⟩ | ⟨rfl, hno⟩⟩
    · clear hrd
      have hp1 := hk.blk hp (fun f => f)
      have hq1 := hk.blk hq (fun f => f)
      have c0 := hp1.cell 0 rfl
      have c1 := hq1.cell 0 rfl
      have f0 := hp1.frozen 0
      have f1 := hq1.frozen 0
      obtain ⟨ua, uc, hu⟩ := own_slice hrow
      subst hu
      have HT := hid hT
      have HP := hid hP
      have HR := hid hrow
      clear hT hP hrow
      go_wp2_with fail
      refine leaves_cons (f := 48) (args := #[.pointer (some ⟨w.heap.size, 0, none⟩), .pointer (some ⟨w.heap.size + 1, 0, none⟩)]) (by simp) (by simp [go_sem]) ?_
      refine (unpNo _ _ _).mono ?_
      rintro e u' w'' ⟨rfl, rfl, rfl⟩
      have hs1 := hk.size
      simp at hs1
      have hk2 : Kept w ((w1.setCell ⟨w.heap.size, 0, none⟩ (.slice ua m.length uc)).setCell ⟨w.heap.size + 1, 0, none⟩ (.int .i64 0)) := ((hk0.trans hk (fun _ _ f => f)).setCell (fun hlt => absurd hlt (by simp)) _).setCell (fun hlt => absurd hlt (by simp)) _
      have hp3 := ((hp1.set 0 (.slice ua m.length uc)).other (a := ⟨w.heap.size + 1, 0, none⟩) (by simp) (.int .i64 0)).cell 0 rfl
      have hq3 := ((hq1.other (a := ⟨w.heap.size, 0, none⟩) (by simp) (.slice ua m.length uc)).set 0 (.int .i64 0)).cell 0 rfl
      have hO : Only (fun k => k = w.heap.size ∨ k = w.heap.size + 1) w1 ((w1.setCell ⟨w.heap.size, 0, none⟩ (.slice ua m.length uc)).setCell ⟨w.heap.size + 1, 0, none⟩ (.int .i64 0)) := ((Only.refl _ w1).setCell (fun _ => .inl rfl) _).setCell (fun _ => .inr rfl) _
      have hR3 := own_only HR.out hO (fun j hj e => by have := (HR.out.lt j hj).1; simp at this; omega)
      simp [Leaves, settle, results, Try.results28, go_sem, hp3, hq3]
      exact ⟨hk2, m, _, 0, rfl, .inr (.inr ⟨by omega, by omega, .inr ⟨m, by rw [Int.toNat_natCast]; exact HT.out, .inr ⟨HP.out, rfl, rfl⟩⟩⟩), own_base hR3 (unpK w).size⟩
    · clear hrd
      have hp1 := hk.blk hp (fun f => f)
      have hq1 := hk.blk hq (fun f => f)
      refine leaves_cons (f := 48) (args := #[.pointer (some ⟨w.heap.size, 0, none⟩), .pointer (some ⟨w.heap.size + 1, 0, none⟩)]) (by simp) (by simp [go_sem]) ?_
      refine (unpUp _ _ _ 0 5 _ hp1 hq1).mono ?_
      rintro e u' w'' ⟨rfl, rfl, hk2, hp2, hq2⟩
      have hp3 := hp2.cell 0 rfl
      have hq3 := hq2.cell 0 rfl
      simp [Leaves, settle, results, Try.results28, go_sem, hp3, hq3]
      refine ⟨(hk0.trans hk (fun _ _ f => f)).trans hk2 (fun j hj e => by rcases e with e | e <;> omega), [], _, 5, rfl, .inr (.inr ⟨by omega, by omega, ?_⟩), World.ownsRow_nil _ _ _ _⟩
      rw [Int.toNat_natCast]
      rcases hno with h | ⟨m, h1, h2⟩
      · exact .inl ⟨h, rfl, rfl⟩
      · exact .inr ⟨m, h1, .inl ⟨h2, rfl, rfl⟩⟩
end Go.Proofs.Ytbhpmeeknbbmmaa.V
