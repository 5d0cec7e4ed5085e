/- The draws of lists of numbers. -/
import Derived.Test.YtpocclcijkopnaaGreatDoorSrf
import Derived.Test.YtpocclcijkopnaaGreatDoorRfi
namespace Go.Proofs.YtpocclcijkopnaaGreatDoor
open Go.RowKit Fl

theorem Only.grown {b : Nat} {w w1 w2 : World} {row : Option Nat} (h : Only b w w1) (hg : w1.grownBy w2 row) (hr : ∀ k, row = some k → w.heap.size ≤ k) (hb : b < w.heap.size) : Only b w w2 :=
  ⟨h.below.grown hg (by have := h.below.size; omega) (fun k hk => by have := hr k hk; omega), fun g hne hl => (hg.block g (Nat.lt_of_lt_of_le hl h.below.size) (by intro e; have := hr g e.symm; omega)).trans (h.far g hne hl)⟩
theorem Src.grown {b m : Nat} {w w1 : World} {row : Option Nat} (h : Src w b m) (hg : w.grownBy w1 row) (hb : row ≠ some b) (hr : ∀ k, row = some k → b ≤ k) : Src w1 b m := by
  obtain ⟨ao, n, c, k, sd, h1, h2, h3, h4, h5, h6⟩ := h
  refine Src.put (w := w) (h1.grown hg (Ne.symm hb)) ?_ h2 h3 h4 h5 h6
  exact (Below.refl _ _).grown hg (Nat.le_of_lt h1.lt) hr
/-- a list of n numbers is drawn -/
def DrewFs (w : World) (b n : Nat) (e : Ending) (w' : World) : Prop := ∃ (v : Value) (zs : List Nat), e = .returned v ∧ zs.length = n ∧ (∀ z ∈ zs, z < 4294967296) ∧ w'.ownsRow w.heap.size 24 1 v n (zs.map (Value.float .f32)) ∧ Only b w w'
theorem own_only {b : Nat} {w0 w w' : World} {e size n : Nat} {v : Value} {xs : List Value} (h : Only b w w') (ho : w.ownsRow w0.heap.size e size v n xs) (hb : b < w0.heap.size) : w'.ownsRow w0.heap.size e size v n xs :=
  h.own ho (by intro e; have := (ho.lt b e).1; omega)
theorem snoc_lt {zs : List Nat} {r : Nat} (h : ∀ z ∈ zs, z < 4294967296) (hr : r < 4294967296) : ∀ z ∈ zs ++ [r], z < 4294967296 := by
  intro z hz
  rcases List.mem_append.1 hz with h1 | h1
  · exact h z h1
  · have : z = r := by simpa using h1
    omega
set_option maxRecDepth 100000 in
set_option maxHeartbeats 3200000 in
theorem drawFloats_of (b m n : Nat) (w : World) (hm : m < 1000) (hn : n ≤ 256) (h : Src w b m) :
    Calls Tryz.prog 47 #[.pointer (some ⟨b, 0, none⟩), .int .i64 n] w (DrewFs w b n) := by
  have hlt := h.lt
  obtain ⟨i0, hi, hz0, hz1, hz2⟩ := info_parts f32info
  have hOne := one_of b m 4 (w.alloc (.cells #[] 24)) (by omega) (h.next ((Below.refl _ _).alloc (Nat.le_refl _) _)) (by omega) (by omega)
  have HO := Lib.hid hOne
  have HD := Lib.hid fun w' m' (hm' : m' < 10000) (h : Src w' b m') => drawFloat_of b m' w' (by omega) h
  have HP := Lib.hid fun w' m' (hm' : m' < 10000) (h : Src w' b m') => (drawPlain_of b m' w' (by omega) h).mono fun e w2 h => (DrewF.mono h (show m' + 4 ≤ m' + 10 by omega))
  have HOw := Lib.hid (own_nil1 w 24 w.heap.size (Nat.le_refl _))
  have HO0 := Lib.hid ((Only.refl b w).alloc (Nat.le_of_lt hlt) (.cells #[] 24))
  clear h hOne
  go_enter Tryz.func47, Tryz.ntmps47
  go_wp2_with fail
  refine HO.out.mono ?_
  rintro e w1 ⟨⟨v, rfl⟩, hs, ho⟩
  have HS1 := Lib.hid hs
  have HOw1 := Lib.hid (own_only ho HOw.out hlt)
  have HO1 := Lib.hid (HO0.out.trans ho)
  clear hs ho
  cases v
  all_goals
    go_wp2
    go_loopw [5, 1] (fun v i wr => ∃ (W : World) (k j bl c : Nat) (zs : List Nat), W = wr ∧ Hid (k + j = n) ∧ k ≤ n ∧ j ≤ n ∧ i = .int .i64 j ∧ v = .slice (some ⟨bl, 0, none⟩) k c ∧ Hid (zs.length = k) ∧ Hid (∀ z ∈ zs, z < 4294967296) ∧
        wr.ownsRow w.heap.size 24 1 v k (zs.map (Value.float .f32)) ∧ Src wr b (m + 2 + 10 * k) ∧ Only b w wr) (fun _ i _ => (intOf i).toNat)
    case atStart => exact ⟨_, 0, n, w.heap.size, 0, [], rfl, by show 0 + n = n; omega, Nat.zero_le _, Nat.le_refl _, rfl, rfl, rfl, by intro z hz; simp at hz, HOw1.out, HS1.out, HO1.out⟩
    case round =>
      clear HO HOw HO0 HS1 HOw1 HO1
      obtain ⟨W, k, j, bl, c, zs, rfl, hkj, hk, hj, rfl, rfl, hlen, hall, hown, hs, ho⟩ := hrel
      rcases j with _ | j
      · have HOw := Lib.hid hown
        have HOn := Lib.hid ho
        clear hown ho hs
        go_wp2
        go_ret
        obtain rfl : k = n := by have := hkj.out; omega
        exact ⟨_, zs, rfl, hlen.out, hall.out, HOw.out, HOn.out⟩
      · have hk1 : k < n := by have := hkj.out; omega
        have HDr := Lib.hid (HD.out W (m + 2 + 10 * k) (by omega) hs)
        have HPr := Lib.hid (HP.out W (m + 2 + 10 * k) (by omega) hs)
        have HOw := Lib.hid hown
        have HOn := Lib.hid ho
        have hj0 : (0 : Int) < ((j + 1 : Nat) : Int) := by omega
        clear hown ho hs
        go_wp2_with fail
        first | refine HDr.out.mono ?_ | refine HPr.out.mono ?_
        rintro e w2 ⟨r, hr, rfl, hs, ho⟩
        have HS2 := Lib.hid hs
        have HOw2 := Lib.hid (own_only ho HOw.out hlt)
        have HO2 := Lib.hid (HOn.out.trans ho)
        have hsz : w.heap.size ≤ w2.heap.size := HO2.out.below.size
        clear hs ho
        go_wp2_with (at_builtin; go_loud (refine wpList_append_own _ rfl _ _ 30 rfl w.heap.size 24 i0 (.float .f32 0) 1 4 Tryz.underlying30 hi hz0 hz1 hz2 rfl (by decide) (.slice (some ⟨bl, 0, none⟩) k c) k (zs.map (Value.float .f32)) rfl (HOw2.out.alloc _) ⟨w2.heap.size, 0, none⟩ 1 1 [.float .f32 r] rfl rfl (cell_one_new _ _ _) (fun x hx => by simp at hx; subst hx; rfl) (by unfold maxLen; omega) (by omega) (by simp; omega) ?_); intro v' w3 hown' hgrow hnil; go_must (obtain ⟨b', c', rfl, hb', -⟩ := own_form1 hown' (by omega)); have HOw3 := Lib.hid hown'; have HO3 := Lib.hid ((HO2.out.alloc (by omega) _).grown hgrow (fun k hk => (HOw2.out.lt k hk).1) hlt); have HS3 := Lib.hid ((HS2.out.next ((Below.refl _ _).alloc (Nat.le_refl _) _)).grown hgrow (by intro e; have := (HOw2.out.lt b e).1; omega) (fun k hk => by have := (HOw2.out.lt k hk).1; omega)); clear hown' hgrow hnil)
        go_roundw
        case rel => exact ⟨_, k + 1, j, b', c', zs ++ [r], rfl, by have := hkj.out; show k + 1 + j = n; omega, hk1, by omega, by go_num, rfl, by show _ = _; rw [List.length_append, hlen.out]; rfl, snoc_lt hall.out hr, by rw [List.map_append]; exact HOw3.out, HS3.out, HO3.out⟩
        case measure => simp [intOf]
set_option maxHeartbeats 800000 in
theorem b10Numbers_of (ao : Option Addr) (n c k : Nat) (w : World) (hr : BRow w ao n) (hk : k ≤ 256) :
    Calls Tryz.prog 10 #[.slice ao n c, .int .i64 k] w fun e w' => ∃ (v : Value) (zs : List Nat), e = .returned v ∧ zs.length = k ∧ (∀ z ∈ zs, z < 4294967296) ∧ w'.ownsRow w.heap.size 24 1 v k (zs.map (Value.float .f32)) ∧ Below w.heap.size w w' := by
  have HF := Lib.hid (from_of ao n c w hr.len hr.addr hr.cell)
  have HD := Lib.hid fun w' (h : Src w' w.heap.size 0) => drawFloats_of w.heap.size 0 k w' (by omega) hk h
  clear hr
  go_enter Tryz.func10, Tryz.ntmps10
  go_wp2_with fail
  refine HF.out.mono ?_
  rintro e w1 ⟨rfl, hs, hb⟩
  have HS := Lib.hid hs
  have HB := Lib.hid hb
  clear hs hb
  go_wp2_with fail
  refine (HD.out _ HS.out).mono ?_
  rintro e w2 ⟨v, zs, rfl, hl, ha, ho, hn⟩
  have HL := Lib.hid hl
  have HA := Lib.hid ha
  have HO := Lib.hid (own_from ho HB.out.size)
  have HB2 := Lib.hid (hn.base HB.out (Nat.le_refl _))
  clear hl ha ho hn
  go_wp2
  go_ret
  exact ⟨v, zs, rfl, HL.out, HA.out, HO.out, HB2.out⟩
end Go.Proofs.YtpocclcijkopnaaGreatDoor
