/- The draws: a source of choices lies in a block of its own, which alone changes; what is drawn is within bounds. -/
import Derived.Test.YtjcjijfemedojaaGreatDoorBlk
import Derived.Deep.Slices
import Derived.ProofKit
import Derived.Laws.Bits64
import Derived.Laws.BitsAllLaws
import Derived.IntWalk
namespace Go.Proofs.YtjcjijfemedojaaGreatDoor
open Go.RowKit Fl

theorem blk_set {w : World} {g : Nat} {t : TypeId} {cs : Array Value} (h : Blk w g t cs) (i : Nat) (u : Value) : Blk (w.setCell ⟨g, i, none⟩ u) g t (cs.setIfInBounds i u) := by
  unfold Blk at h ⊢
  simp [World.setCell, Array.getElem?_modify, h]
theorem blk_drewN {w : World} {g : Nat} {t : TypeId} {cs : Array Value} (h : Blk w g t cs) (n : Nat) : Blk (w.drewN n) g t cs := h
/-- only block b may have changed, and new ones be there -/
structure Only (b : Nat) (w w' : World) : Prop where
  below : Below b w w'
  far : ∀ g, g ≠ b → g < w.heap.size → w'.heap[g]? = w.heap[g]?
theorem Only.refl (b : Nat) (w : World) : Only b w w := ⟨Below.refl _ _, fun _ _ _ => rfl⟩
theorem Only.trans {b : Nat} {w w1 w2 : World} (h : Only b w w1) (k : Only b w1 w2) : Only b w w2 :=
  ⟨h.below.trans k.below, fun g hg hs => (k.far g hg (Nat.lt_of_lt_of_le hs h.below.size)).trans (h.far g hg hs)⟩
theorem Only.set {b : Nat} {w w1 : World} (h : Only b w w1) {p : Addr} (hp : p.block = b) (u : Value) : Only b w (w1.setCell p u) :=
  ⟨h.below.setCell (by omega) u, fun g hg hs => (Below.heap_setCell w1 p u g (by omega)).trans (h.far g hg hs)⟩
theorem Only.alloc {b : Nat} {w w1 : World} (h : Only b w w1) (hb : b ≤ w1.heap.size) (o : Obj) : Only b w (w1.alloc o) :=
  ⟨h.below.alloc hb o, fun g hg hs => (Below.heap_alloc w1 o g (Nat.lt_of_lt_of_le hs h.below.size)).trans (h.far g hg hs)⟩
theorem Only.drewN {b : Nat} {w w1 : World} (h : Only b w w1) (n : Nat) : Only b w (w1.drewN n) := ⟨below_drewN h.below n, h.far⟩
theorem Only.quiet {b : Nat} {w w1 w2 : World} (h : Only b w w1) (hq : Quiet w1 w2) : Only b w w2 := by obtain ⟨n, rfl⟩ := hq; exact h.drewN n
theorem Only.next {b : Nat} {w w1 w2 : World} (h : Only b w w1) (hb : Below w1.heap.size w1 w2) (hs : b ≤ w1.heap.size) : Only b w w2 :=
  ⟨h.below.trans (hb.mono hs), fun g hg hl => (hb.block g (Nat.lt_of_lt_of_le hl h.below.size)).trans (h.far g hg hl)⟩
theorem Only.under {b B : Nat} {w0 w w' : World} (h : Only b w w') (k : Below B w0 w) (hB : B ≤ b) : Below B w0 w' := k.trans (h.below.mono hB)
theorem Only.blk {b g : Nat} {w w' : World} {t : TypeId} {cs : Array Value} (h : Only b w w') (hg : Blk w g t cs) (hne : g ≠ b) : Blk w' g t cs := (h.far g hne hg.lt).trans hg
theorem Only.own {b : Nat} {w w' : World} {base e size n : Nat} {v : Value} {xs : List Value} (h : Only b w w') (ho : w.ownsRow base e size v n xs) (hne : v.ownBlock ≠ some b) : w'.ownsRow base e size v n xs := by
  obtain ⟨h1, h2⟩ := ho
  refine ⟨h1, ?_⟩
  rcases h2 with h2 | ⟨g, cap, cur, rfl, hb, hg, rest⟩
  · exact .inl h2
  · refine .inr ⟨g, cap, cur, rfl, hb, ?_, rest⟩
    exact (h.far g (by intro e; exact hne (by simp [Value.ownBlock, e])) (Array.getElem?_eq_some_iff.1 hg).1).trans hg

theorem onlyTwo (b : Nat) (w : World) (n m : Nat) (u v : Value) : Only b w ((((w.drewN n).setCell ⟨b, 1, none⟩ u).setCell ⟨b, 2, none⟩ v).drewN m) :=
  ((((Only.refl b w).drewN n).set (p := ⟨b, 1, none⟩) rfl u).set (p := ⟨b, 2, none⟩) rfl v).drewN m
/-- A source at block b that has been asked at most m times. -/
def Src (w : World) (b m : Nat) : Prop := ∃ (ao : Option Addr) (n c k : Nat) (sd : Int), Blk w b 75 #[.slice ao n c, .int .i64 k, .int .u64 sd] ∧ k ≤ m ∧ n ≤ 9223372036854775807 ∧ (0 ≤ sd ∧ sd < 18446744073709551616) ∧
  (0 < n → ∃ a : Addr, ao = some a) ∧ ∀ a, ao = some a → ∀ i, i < n → (a.add i).block < b ∧ ∃ v : Nat, v < 256 ∧ w.cell? (a.add i) = some (.int .u8 v)
theorem Src.mono {w : World} {b m m' : Nat} (h : Src w b m) (hm : m ≤ m') : Src w b m' := by
  obtain ⟨ao, n, c, k, sd, h1, h2, rest⟩ := h
  exact ⟨ao, n, c, k, sd, h1, by omega, rest⟩
theorem Src.lt {w : World} {b m : Nat} (h : Src w b m) : b < w.heap.size := by
  obtain ⟨_, _, _, _, _, h1, _⟩ := h
  exact h1.lt
theorem Src.next {w w' : World} {b m : Nat} (h : Src w b m) (hb : Below w.heap.size w w') : Src w' b m := by
  obtain ⟨ao, n, c, k, sd, h1, h2, h3, h4, h5, h6⟩ := h
  refine ⟨ao, n, c, k, sd, blk_next h1 hb, h2, h3, h4, h5, fun a ha i hi => ?_⟩
  obtain ⟨hl, v, hv, hc⟩ := h6 a ha i hi
  exact ⟨hl, v, hv, by rw [hb.cell (p := a.add i) (World.block_lt_of_cell? w _ hc)]; exact hc⟩

theorem Src.put {w w' : World} {b m n c k : Nat} {ao : Option Addr} {sd : Int} (hb : Blk w' b 75 #[.slice ao n c, .int .i64 k, .int .u64 sd]) (hw : Below b w w') (hk : k ≤ m) (hn : n ≤ 9223372036854775807) (hs : 0 ≤ sd ∧ sd < 18446744073709551616)
    (ha : 0 < n → ∃ a : Addr, ao = some a) (hc : ∀ a, ao = some a → ∀ i, i < n → (a.add i).block < b ∧ ∃ v : Nat, v < 256 ∧ w.cell? (a.add i) = some (.int .u8 v)) : Src w' b m := by
  refine ⟨ao, n, c, k, sd, hb, hk, hn, hs, ha, fun a h i hi => ?_⟩
  obtain ⟨hl, v, hv, he⟩ := hc a h i hi
  exact ⟨hl, v, hv, by rw [hw.cell (p := a.add i) hl]; exact he⟩
theorem wrapU (x : Int) : 0 ≤ IntKind.u64.wrap x ∧ IntKind.u64.wrap x < 18446744073709551616 := by
  rw [IntKind.wrap_u64]
  omega
theorem byteU (x : Int) (h0 : 0 ≤ x) (h1 : x < 18446744073709551616) : 0 ≤ wrap64 (bits .and .u64 (x / 1099511627776) 255) ∧ wrap64 (bits .and .u64 (x / 1099511627776) 255) < 256 := by
  have hd : 0 ≤ x / 1099511627776 ∧ x / 1099511627776 < 18446744073709551616 := by omega
  rw [u64_and _ 255 hd.1 hd.2 (by omega) (by omega)]
  have hle : (x / 1099511627776).toNat &&& (255 : Int).toNat ≤ 255 := Nat.and_le_right
  generalize (x / 1099511627776).toNat &&& (255 : Int).toNat = y at hle
  have : wrap64 (y : Int) = y := IntWalk.wrap64_in _ (by omega)
  rw [this]; omega
/-- what a draw gives: a number in [0, n) (n ≥ 1), the source asked d times more -/
def Drew (w : World) (b m : Nat) (n : Int) (e : Ending) (w' : World) : Prop := ∃ x : Int, 0 ≤ x ∧ x < n ∧ e = .returned (.int .i64 x) ∧ Src w' b m ∧ Only b w w'

set_option maxHeartbeats 1600000 in
theorem next_of (b m : Nat) (w : World) (hm : m < 1000000000) (h : Src w b m) :
    Calls Tryz.prog 53 #[.pointer (some ⟨b, 0, none⟩)] w (Drew w b (m + 1) 256) := by
  obtain ⟨ao, n, c, k, sd, h1, h2, h3, h4, h5, h6⟩ := h
  have c0 : w.cell? ⟨b, 0, none⟩ = some (.slice ao n c) := h1.cell 0
  have c1 : w.cell? ⟨b, 1, none⟩ = some (.int .i64 k) := h1.cell 1
  have c2 : w.cell? ⟨b, 2, none⟩ = some (.int .u64 sd) := h1.cell 2
  have f1 := h1.frozen 1
  have f2 := h1.frozen 2
  have HB := Lib.hid h1
  have H6 := Lib.hid h6
  clear h1 h6
  by_cases hk : k < n
  · obtain ⟨a, rfl⟩ := h5 (by omega)
    obtain ⟨-, v, hv, hc⟩ := H6.out a rfl k hk
    go_enter Tryz.func53, Tryz.ntmps53
    go_wp2
    go_quiet (fail)
    go_wp2
    go_quiet (fail)
    go_wp2
    have hsd := wrapU (IntKind.u64.wrap (IntKind.u64.wrap (sd * 6364136223846793005) + ↑v) + 1442695040888963407)
    generalize IntKind.u64.wrap (IntKind.u64.wrap (IntKind.u64.wrap (sd * 6364136223846793005) + ↑v) + 1442695040888963407) = sd' at hsd ⊢
    go_quiet (fail)
    go_wp2
    go_ret
    refine ⟨v, by omega, by omega, rfl, ?_, onlyTwo b w _ _ _ _⟩
    exact Src.put (k := k + 1) (blk_drewN (blk_set (blk_set (blk_drewN HB.out _) 1 _) 2 _) _) (onlyTwo b w _ _ _ _).below (by omega) h3 hsd h5 H6.out
  · go_enter Tryz.func53, Tryz.ntmps53
    go_wp2
    go_quiet (fail)
    go_wp2
    have hsd := wrapU (IntKind.u64.wrap (IntKind.u64.wrap (sd * 6364136223846793005)) + 1442695040888963407)
    generalize IntKind.u64.wrap (IntKind.u64.wrap (IntKind.u64.wrap (sd * 6364136223846793005)) + 1442695040888963407) = sd' at hsd ⊢
    go_quiet (fail)
    go_wp2
    have hbt := byteU sd' hsd.1 hsd.2
    generalize wrap64 (bits BinOp.and IntKind.u64 (sd' / 1099511627776) 255) = y at hbt ⊢
    go_ret
    refine ⟨y, by omega, by omega, rfl, ?_, onlyTwo b w _ _ _ _⟩
    exact Src.put (k := k + 1) (blk_drewN (blk_set (blk_set (blk_drewN HB.out _) 1 _) 2 _) _) (onlyTwo b w _ _ _ _).below (by omega) h3 hsd h5 H6.out
set_option maxHeartbeats 1600000 in
theorem pick_of (b m : Nat) (n : Int) (w : World) (hm : m < 100000000) (h : Src w b m) (h1 : 1 ≤ n) (h2 : n ≤ 65536) :
    Calls Tryz.prog 28 #[.pointer (some ⟨b, 0, none⟩), .int .i64 n] w (Drew w b (m + 2) n) := by
  have H := Lib.hid h
  clear h
  by_cases hn1 : n ≤ 1
  · go_enter Tryz.func28, Tryz.ntmps28
    go_wp2
    go_ret
    exact ⟨0, by omega, by omega, rfl, H.out.mono (by omega), Only.refl _ _⟩
  · have HN := Lib.hid fun w m (hm : m < 1000000000) (h : Src w b m) => next_of b m w hm h
    by_cases hn2 : n ≤ 200
    · go_enter Tryz.func28, Tryz.ntmps28
      go_wp2_with (go_at_call 53; (with_reducible refine (HN.out _ m (by omega) H.out).mono ?_); rintro e w1 ⟨x, hx0, hx1, rfl, hs, ho⟩; have HS := Lib.hid hs; have HO := Lib.hid ho; clear hs ho)
      go_ret
      exact ⟨_, Int.emod_nonneg _ (by omega), Int.emod_lt_of_pos _ (by omega), rfl, HS.out.mono (by omega), HO.out⟩
    · go_enter Tryz.func28, Tryz.ntmps28
      go_wp2_with (first | (go_at_call 53; (with_reducible refine (HN.out _ m (by omega) H.out).mono ?_); rintro e w1 ⟨x, hx0, hx1, rfl, hs, ho⟩; have HS := Lib.hid hs; have HO := Lib.hid ho; clear hs ho) | (go_at_call 53; (with_reducible refine (HN.out _ (m + 1) (by omega) HS.out).mono ?_); rintro e w2 ⟨y, hy0, hy1, rfl, hs, ho⟩; have HS2 := Lib.hid hs; have HO2 := Lib.hid ho; clear hs ho))
      go_ret
      exact ⟨_, Int.emod_nonneg _ (by omega), Int.emod_lt_of_pos _ (by omega), rfl, HS2.out, HO.out.trans HO2.out⟩
theorem one_of (b m : Nat) (n : Int) (w : World) (hm : m < 100000000) (h : Src w b m) (h1 : 1 ≤ n) (h2 : n ≤ 65536) :
    Calls Tryz.prog 41 #[.pointer (some ⟨b, 0, none⟩), .int .i64 n] w fun e w' => (∃ v, e = .returned (.bool v)) ∧ Src w' b (m + 2) ∧ Only b w w' := by
  have HP := Lib.hid (pick_of b m n w hm h h1 h2)
  clear h
  go_enter Tryz.func41, Tryz.ntmps41
  go_wp2_with (go_at_call 28; (with_reducible refine HP.out.mono ?_); rintro e w1 ⟨x, hx0, hx1, rfl, hs, ho⟩; have HS := Lib.hid hs; have HO := Lib.hid ho; clear hs ho)
  go_ret
  exact ⟨⟨_, rfl⟩, HS.out, HO.out⟩
end Go.Proofs.YtjcjijfemedojaaGreatDoor
