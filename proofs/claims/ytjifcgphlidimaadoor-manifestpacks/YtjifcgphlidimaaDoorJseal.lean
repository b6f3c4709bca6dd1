/-
  The document's own: four bytes, and bytes that are sealed by their sum.
-/
import Derived.Test.YtjifcgphlidimaaDoorJpack
import Derived.Test.YtjifcgphlidimaaDoorGbyt
namespace Go.Proofs.YtjifcgphlidimaaDoor.J
open Go Go.RowKit Go.Proofs.Lys
set_option linter.unusedVariables false
set_option linter.unusedSimpArgs false

theorem i64_and255 (n : Int) : bits .and .i64 n 255 = n % 256 := by
  have h255 : (BitVec.ofInt 64 255).toNat = 2 ^ 8 - 1 := by decide
  have key : (BitVec.ofInt 64 n &&& BitVec.ofInt 64 255).toNat = (n % ((2 ^ 64 : Nat) : Int)).toNat % 2 ^ 8 := by
    rw [BitVec.toNat_and, BitVec.toNat_ofInt, h255, Nat.and_two_pow_sub_one_eq_mod]
  show IntKind.i64.wrap ((BitVec.ofInt 64 n &&& BitVec.ofInt 64 255).toNat : Nat) = n % 256
  rw [key, IntKind.wrap_i64]
  omega
set_option maxRecDepth 100000 in
set_option maxHeartbeats 800000 in
theorem rfour_any (w : World) (n : Nat) (hn : n < 4294967296) :
    Calls Tryd.prog 40 #[.int .i64 (n : Int)] w fun e w' => e = .returned (.slice (some ⟨w.heap.size, 0, none⟩) 4 4) ∧ SrcOf w' (.slice (some ⟨w.heap.size, 0, none⟩) 4 4) ((G.four n).map bV) ∧ Kept w w' := by
  have f0 := i64_and255 (n : Int)
  have f1 := i64_and255 ((n : Int) / 256)
  have f2 := i64_and255 ((n : Int) / 65536)
  have f3 := i64_and255 ((n : Int) / 16777216)
  have hlast : (n : Int) / 16777216 % 256 = (n : Int) / 16777216 := by omega
  have HO : Hid (SrcOf (w.alloc (.cells #[Value.int .u8 ((n : Int) % 256), .int .u8 ((n : Int) / 256 % 256), .int .u8 ((n : Int) / 65536 % 256), .int .u8 ((n : Int) / 16777216)] 5)) (.slice (some ⟨w.heap.size, 0, none⟩) 4 4) ((G.four n).map bV)) := hid (G.lit_bsrc (G.four n) w (fz := (0, 0)) (four_vals n hn)).1
  have HK : Hid (Kept w (w.alloc (.cells #[Value.int .u8 ((n : Int) % 256), .int .u8 ((n : Int) / 256 % 256), .int .u8 ((n : Int) / 65536 % 256), .int .u8 ((n : Int) / 16777216)] 5))) := (Only.refl _ w).alloc _
  go_enter Tryd.func40, Tryd.ntmps40
  go_wp2
  go_ret
  exact ⟨rfl, HO.out, HK.out⟩
set_option maxRecDepth 100000 in
set_option maxHeartbeats 800000 in
theorem sealed_any (w : World) (B : Nat) (v : Value) (bs : List UInt8) (h : BytAt w B v bs) (hB : B ≤ w.heap.size) (hl : bs.length ≤ 90000) :
    Calls Tryd.prog 26 #[v] w fun e w' => ∃ u, e = .returned u ∧ BytAt w' B u (bs ++ G.four (G.sumL bs)) ∧ Only (fun j => v.ownBlock = some j) w w' := by
  obtain ⟨PQ, hPQ⟩ : ∃ PQ, (fun (e : Ending) (w' : World) => ∃ u, e = .returned u ∧ BytAt w' B u (bs ++ G.four (G.sumL bs)) ∧ Only (fun j => v.ownBlock = some j) w w') = PQ := ⟨_, rfl⟩
  rw [hPQ]
  have HPQ := hid hPQ
  have HSU := hid (G.rsum_any w v bs (own_src h) (by omega))
  have hsl := G.sumL_lt bs
  have HFO := hid (rfour_any w (G.sumL bs) hsl)
  have HB := hid h
  have HBZ := hid hB
  have HL := hid hl
  generalize hSS : G.sumL bs = SS at HSU HFO hsl
  have HSS := hid hSS
  obtain ⟨va, vc, hve⟩ := ownN_slice h
  generalize hNB : bs.length = NB at hve
  have HNB := hid hNB
  subst hve
  clear h hPQ hB hl hSS hNB
  go_enter Tryd.func26, Tryd.ntmps26
  go_wp2_with fail
  refine HSU.out.mono ?_
  rintro e w1 ⟨rfl, hw⟩
  replace hw := hw.symm
  subst hw
  go_wp2_with fail
  refine HFO.out.mono ?_
  rintro e w2 ⟨rfl, hs2, k2⟩
  obtain ⟨a3, n3, c3, w3, hr3, hn3, h3, o3⟩ := byt_app (ownN_stay HB.out k2) hs2 (by have := HL.out; have h4 : (G.four SS).length = 4 := rfl; omega) (Nat.le_trans HBZ.out k2.size)
  have HR3 := hid hr3.out
  have HF : Hid (PQ (.returned (.slice a3 n3 c3)) w3) := hid (by
    rw [← HPQ.out]
    refine ⟨_, rfl, ?_, (k2.mono (fun _ _ f => f.elim)).trans o3.out (fun _ _ e => e)⟩
    rw [HSS.out]
    exact h3.out)
  clear hs2 k2 hr3 h3 o3 hn3
  go_wp2_with (at_builtin; refine Lys.wpList_append_run rfl _ _ _ rfl rfl rfl HR3.out ?_)
  (try go_ret)
  exact HF.out
end Go.Proofs.YtjifcgphlidimaaDoor.J
