/- A grain read: the program's readGrain, where a list is refused. -/
import Derived.Test.YtljcgfgkfkoeeaaGreatDoorPq
import Derived.Defers
import Derived.Recover
import Derived.Stop.Asserts
import Derived.Test.YtljcgfgkfkoeeaaGreatDoorJb
import Derived.Deep.CutRange
import Derived.Deep.CutBlock
import Derived.Deep.DeepCutAuto
import Derived.BigRegion
import Derived.Deep.RegionHeld3
namespace Go.Proofs.YtljcgfgkfkoeeaaGreatDoor
open Go.RowKit

theorem as_has (v : Value) (xT : TypeId) (w : World) : (Instr.typeAssert (.iface 145 v) xT 44 true).run Tryz.prog w = .ok (.tuple #[.iface 145 v, .bool true]) w := run_typeAssert_hasB Tryz.underlying44 (by kernel_rfl) v _ w
theorem as_nil (xT : TypeId) (w : World) : (Instr.typeAssert .nilIface xT 44 true).run Tryz.prog w = .ok (.tuple #[.nilIface, .bool false]) w := by
  obtain ⟨j, hj, hz⟩ := Option.map_eq_some_iff.1 (show (Tryz.prog.info? 44).map (·.zero) = some (some .nilIface) by kernel_rfl)
  simp [Instr.typeAssert, run_underlying Tryz.underlying44, typeInfo, zeroValue, hj, hz]
end Go.Proofs.YtljcgfgkfkoeeaaGreatDoor

namespace Go.Proofs.YtljcgfgkfkoeeaaGreatDoor
open Go.RowKit

theorem spn_ne {l : List UInt8} {n : Nat} {P : List ByteArray} (ha : (cparts 58 l).length ≤ n → bts P = cparts 58 l) (hb : ¬ (cparts 58 l).length ≤ n → P.length = n + 1) (hN : (cparts 58 l).length ≠ n) : P.length ≠ n := by
  intro e
  by_cases hl : (cparts 58 l).length ≤ n
  · have h1 := congrArg List.length (ha hl)
    rw [bts_len0, e] at h1
    exact hN h1.symm
  · have h1 := hb hl
    omega
set_option maxHeartbeats 800000 in
theorem partsOf_yes (s : ByteArray) (n : Nat) (w : World) (m : Int) (p : Value) (hn : 1 ≤ n ∧ n ≤ 100) (hs : s.size ≤ 1048576) (hE : Env w m p) (hc : (cparts 58 s.data.toList).length = n) :
    Calls Tryz.prog 32 #[.string s, .int .i64 (n : Int)] w fun e w' => ∃ (P : List ByteArray) (c : Nat), bts P = cparts 58 s.data.toList ∧ e = .returned (.slice (some ⟨w.heap.size, 0, none⟩) n c) ∧ Txt w' w.heap.size P ∧ Below w.heap.size w w' := by
  have HS := Lib.hid (splitN_of 58 n s w m hn.1 (by omega) hs hE.mx)
  have HQ := Lib.hid fun w => require_yes w
  have HN := Lib.hid hc
  have hnn : ((n : Int) == (n : Int)) = true := beq_self_eq_true _
  obtain ⟨hn1, hn2⟩ := hn
  clear hc hE
  go_enter Tryz.func32, Tryz.ntmps32
  go_wp2_with (first | (go_at_call 31; ((with_reducible refine HS.out.mono ?_); rintro e w1 ⟨P, rfl, ht, hb, ha, hb2⟩; have HP := Lib.hid (ha (Nat.le_of_eq HN.out)); go_must (obtain ⟨k, hk⟩ : ∃ k, P.length = k := ⟨_, rfl⟩); have HK := Lib.hid (show k = n by rw [← hk, ← bts_len0, HP.out, HN.out]); have HT := Lib.hid ht; have HB := Lib.hid hb; rw [hk, HK.out]; clear ht hb ha hb2 hk)) | (go_at_call 29; ((with_reducible refine (HQ.out _).mono ?_); rintro e w2 ⟨rfl, rfl⟩)))
  go_ret
  exact ⟨P, _, HP.out, rfl, HT.out, HB.out⟩
set_option maxHeartbeats 800000 in
theorem partsOf_no (s : ByteArray) (n : Nat) (w : World) (m : Int) (p : Value) (hn : 1 ≤ n ∧ n ≤ 100) (hs : s.size ≤ 1048576) (hE : Env w m p) (hc : (cparts 58 s.data.toList).length ≠ n) :
    Calls Tryz.prog 32 #[.string s, .int .i64 (n : Int)] w fun e w' => e = refused p ∧ Below w.heap.size w w' := by
  have HS := Lib.hid (splitN_of 58 n s w m hn.1 (by omega) hs hE.mx)
  have HE := Lib.hid fun w' h => (hE.below (w' := w') h).rf
  have HQ := Lib.hid fun w h => require_no w p h
  have HN := Lib.hid hc
  obtain ⟨hn1, hn2⟩ := hn
  clear hc hE
  unfold refused at HQ ⊢
  go_enter Tryz.func32, Tryz.ntmps32
  go_wp2_with (first | (go_at_call 31; ((with_reducible refine HS.out.mono ?_); rintro e w1 ⟨P, rfl, ht, hb, ha, hb2⟩; have hne : P.length ≠ n := (spn_ne ha hb2 HN.out); have hne1 : ((P.length : Int) == (n : Int)) = false := (beq_eq_false_iff_ne.2 (by omega)); have hne2 : (P.length == n) = false := (beq_eq_false_iff_ne.2 hne); have HEr := Lib.hid (HE.out w1 hb); have HB := Lib.hid hb; clear ht hb ha hb2)) | (go_at_call 29; ((with_reducible refine (HQ.out _ HEr.out).mono ?_); rintro e w2 ⟨rfl, rfl⟩)))
  exact ⟨rfl, rfl, HB.out⟩
end Go.Proofs.YtljcgfgkfkoeeaaGreatDoor

namespace Go.Proofs.YtljcgfgkfkoeeaaGreatDoor
open Go.RowKit

set_option maxRecDepth 100000 in
set_option maxHeartbeats 1600000 in
theorem readGrain_short (s : ByteArray) (w : World) (m : Int) (p : Value) (hs : s.size ≤ 1048576) (hE : Env w m p) (h3 : (cparts 58 s.data.toList).length ≠ 3) :
    Calls Tryz.prog 23 #[.string s] w fun e w' => e = refused p ∧ Below w.heap.size w w' := by
  have HP := Lib.hid fun w' hb => (show Calls Tryz.prog 32 #[.string s, .int .i64 3] w' _ from partsOf_no s 3 w' m p (by omega) hs (hE.below (w' := w') hb) h3)
  have HB0 := Lib.hid ((Below.refl w.heap.size w).alloc (Nat.le_refl _) (.cells #[.complex .f32 0 0, .complex .f32 0 0, .float .f32 0, .float .f32 0, .float .f32 0, .float .f32 0, .bool false] 39))
  unfold refused at HP ⊢
  clear hE h3
  go_enter Tryz.func23, Tryz.ntmps23
  go_wp2_with (go_at_call 32; ((with_reducible refine (HP.out _ HB0.out).mono ?_); rintro e w1 ⟨rfl, hb⟩; have HB := Lib.hid (below_next HB0.out hb); clear hb))
  exact ⟨rfl, rfl, HB.out⟩
/-- the lists are read, or one of them is refused -/
def ExAnsC (zs : List (Nat × Nat)) (w : World) (e : Ending) (w' : World) : Prop := ∃ g c, e = .returned (.slice (some ⟨g, 0, none⟩) 2 c) ∧ w'.ownsRow w.heap.size 36 1 (.slice (some ⟨g, 0, none⟩) 2 c) 2 (zs.map cval) ∧ Below w.heap.size w w'
def ExAnsF (zs : List Nat) (w : World) (e : Ending) (w' : World) : Prop := ∃ g c, e = .returned (.slice (some ⟨g, 0, none⟩) 4 c) ∧ w'.ownsRow w.heap.size 37 1 (.slice (some ⟨g, 0, none⟩) 4 c) 4 (zs.map (Value.float .f32)) ∧ Below w.heap.size w w'
theorem exactC_at {a : List UInt8} (ha : a.length ≤ 1048576) (x : ByteArray) (w : World) (m : Int) (p : Value) (hx : x.data.toList = a) (hE : Env w m p) (h : ExC a 2 = true) :
    Calls Tryz.prog 33 #[.int .i64 2, .func (.func 34) #[] #[], .string x] w (ExAnsC (clZ a) w) := by
  have h1 := exactC_yes x 2 w m p (size8_of hx ha) hE (by rw [hx]; exact h)
  rw [hx] at h1
  refine (show Calls Tryz.prog 33 #[.int .i64 2, .func (.func 34) #[] #[], .string x] w _ from h1).mono ?_
  rintro e w' ⟨ao, c, rfl, ho, hb⟩
  obtain ⟨g, cap, hv, _⟩ := own_form1 ho (by omega)
  obtain ⟨rfl, rfl⟩ : ao = some ⟨g, 0, none⟩ ∧ c = cap := by simpa using hv
  exact ⟨g, c, rfl, ho, hb⟩
theorem exactF_at {a : List UInt8} (ha : a.length ≤ 1048576) (x : ByteArray) (w : World) (m : Int) (p : Value) (hx : x.data.toList = a) (hE : Env w m p) (h : ExF a 4 = true) :
    Calls Tryz.prog 35 #[.int .i64 4, .func (.func 36) #[] #[], .string x] w (ExAnsF (flZ a) w) := by
  have h1 := exactF_yes x 4 w m p (size8_of hx ha) hE (by rw [hx]; exact h)
  rw [hx] at h1
  refine (show Calls Tryz.prog 35 #[.int .i64 4, .func (.func 36) #[] #[], .string x] w _ from h1).mono ?_
  rintro e w' ⟨ao, c, rfl, ho, hb⟩
  obtain ⟨g, cap, hv, _⟩ := own_form1 ho (by omega)
  obtain ⟨rfl, rfl⟩ : ao = some ⟨g, 0, none⟩ ∧ c = cap := by simpa using hv
  exact ⟨g, c, rfl, ho, hb⟩
def RefAns (p : Value) (w : World) (e : Ending) (w' : World) : Prop := e = .panicked [{ v := .iface 145 p, recovered := false }] ∧ Below w.heap.size w w'
theorem exactC_out {a : List UInt8} (ha : a.length ≤ 1048576) (x : ByteArray) (w : World) (m : Int) (p : Value) (hx : x.data.toList = a) (hE : Env w m p) (h : ExC a 2 = false) :
    Calls Tryz.prog 33 #[.int .i64 2, .func (.func 34) #[] #[], .string x] w (RefAns p w) :=
  (show Calls Tryz.prog 33 #[.int .i64 2, .func (.func 34) #[] #[], .string x] w _ from exactC_no x 2 w m p (size8_of hx ha) hE (by rw [hx]; exact h))
theorem exactF_out {a : List UInt8} (ha : a.length ≤ 1048576) (x : ByteArray) (w : World) (m : Int) (p : Value) (hx : x.data.toList = a) (hE : Env w m p) (h : ExF a 4 = false) :
    Calls Tryz.prog 35 #[.int .i64 4, .func (.func 36) #[] #[], .string x] w (RefAns p w) :=
  (show Calls Tryz.prog 35 #[.int .i64 4, .func (.func 36) #[] #[], .string x] w _ from exactF_no x 4 w m p (size8_of hx ha) hE (by rw [hx]; exact h))
end Go.Proofs.YtljcgfgkfkoeeaaGreatDoor

namespace Go.Proofs.YtljcgfgkfkoeeaaGreatDoor
open Go.RowKit

theorem below_d1 {B : Nat} {w w1 : World} (h : Below B w w1) : Below B w w1.drew := below_drewN h 1
theorem below_d2 {B : Nat} {w w1 : World} (h : Below B w w1) : Below B w w1.drew.drew := below_drewN h 2
theorem Env.at_ {w0 w1 : World} {m : Int} {p : Value} (h : Env w0 m p) (hb : Below w0.heap.size w0 w1) (n : Nat) : Env (w1.drewN n) m p := (h.below hb).drewN n
theorem parts_at {a b c : List UInt8} (s : ByteArray) (w : World) (m : Int) (p : Value) (hs : s.size ≤ 1048576) (hE : Env w m p) (habc : cparts 58 s.data.toList = [a, b, c]) :
    Calls Tryz.prog 32 #[.string s, .int .i64 3] w fun e w' => ∃ (g : Nat) (x y z : ByteArray) (cp : Nat), e = .returned (.slice (some ⟨g, 0, none⟩) 3 cp) ∧ x.data.toList = a ∧ y.data.toList = b ∧ z.data.toList = c ∧ Txt w' g [x, y, z] ∧ Below w.heap.size w w' := by
  refine (show Calls Tryz.prog 32 #[.string s, .int .i64 3] w _ from partsOf_yes s 3 w m p (by omega) hs hE (by rw [habc]; rfl)).mono ?_
  rintro e w' ⟨P, cp, hP, rfl, ht, hb⟩
  obtain ⟨x, y, z, rfl, hx, hy, hz⟩ := bts_three (hP.trans habc)
  exact ⟨_, x, y, z, cp, rfl, hx, hy, hz, ht, hb⟩
set_option maxRecDepth 100000 in
set_option maxHeartbeats 6400000 in
theorem readGrain_lists (s : ByteArray) (w : World) (m : Int) (p : Value) (a b c : List UInt8) (hs : s.size ≤ 1048576) (hE : Env w m p) (habc : cparts 58 s.data.toList = [a, b, c]) (hbad : ExC a 2 = false ∨ ExF b 4 = false) :
    Calls Tryz.prog 23 #[.string s] w fun e w' => e = refused p ∧ Below w.heap.size w w' := by
  have HP := Lib.hid fun w' hb => parts_at s w' m p hs (hE.below (w' := w') hb) habc
  have HB0 := Lib.hid ((Below.refl w.heap.size w).alloc (Nat.le_refl _) (.cells #[.complex .f32 0 0, .complex .f32 0 0, .float .f32 0, .float .f32 0, .float .f32 0, .float .f32 0, .bool false] 39))
  obtain ⟨ha, hb⟩ := mem_le hs habc
  have HC1 := Lib.hid fun x w' hx (hb : Below w.heap.size w w') h => exactC_at ha x w' m p hx (hE.below hb) h
  have HC0 := Lib.hid fun x w' hx (hb : Below w.heap.size w w') h => exactC_out ha x w' m p hx (hE.below hb) h
  have HF1 := Lib.hid fun x w' hx (hb2 : Below w.heap.size w w') h => exactF_at hb x w' m p hx (hE.below hb2) h
  have HF0 := Lib.hid fun x w' hx (hb2 : Below w.heap.size w w') h => exactF_out hb x w' m p hx (hE.below hb2) h
  have hcs : (ExC a 2 = false ∧ ExF b 4 = false) ∨ (ExC a 2 = false ∧ ExF b 4 = true) ∨ (ExC a 2 = true ∧ ExF b 4 = false) := by
    cases h1 : ExC a 2 <;> cases h2 : ExF b 4 <;> simp [h1, h2] at hbad ⊢
  unfold refused
  clear hE habc hbad ha hb
  rcases hcs with ⟨h1, h2⟩ | ⟨h1, h2⟩ | ⟨h1, h2⟩
  · have H1 := Lib.hid h1
    have H2 := Lib.hid h2
    clear h1 h2
    go_enter Tryz.func23, Tryz.ntmps23
    go_wp2_with (go_at_call 32; ((with_reducible refine (HP.out _ HB0.out).mono ?_); rintro e w1 ⟨bp, x, y, z, cp, rfl, hx, hy, hz, ht, hb⟩; go_must (obtain ⟨x0, x1, x2⟩ := txt_three ht); have HX := Lib.hid hx; have HY := Lib.hid hy; have HT := Lib.hid ht; have HB := Lib.hid (below_next HB0.out hb); clear ht hb hx hy hz))
    refine wp_region_any (by kernel_rfl) ?_
    change wpAny _ _ _ _ _ _ _ (World.drew _)
    refine wpAny_take (i := 0) (v := ?v1) rfl (by kernel_rfl) (by kernel_rfl) (by kernel_rfl) (fun _ _ _ h => h) (Or.inl ⟨by rfl, ?h1⟩) ?r1
    case h1 => first | (intro w; go_simp; done) | (intro w; go_simp; with_reducible rfl)
    case r1 =>
      refine wpAny_take (i := 1) (v := ?v2) rfl (by kernel_rfl) (by kernel_rfl) (by kernel_rfl) (fun _ _ _ h => h) (Or.inl ⟨by rfl, ?h2⟩) ?r2
      case h2 => first | (intro w; go_simp; done) | (intro w; go_simp; with_reducible rfl)
      case r2 =>
        refine wpAny_take (i := 4) (v := ?v3) rfl (by kernel_rfl) (by kernel_rfl) (by kernel_rfl) (fun _ _ _ h => h) (Or.inl ⟨by rfl, ?h3⟩) ?r3
        case h3 => first | (intro w; go_simp; done) | (intro w; go_simp; with_reducible rfl)
        case r3 =>
          refine wpAny_take (i := 5) (v := ?v4) rfl (by kernel_rfl) (by kernel_rfl) (by kernel_rfl) (fun _ _ _ h => h) (Or.inl ⟨by rfl, ?h4⟩) ?r4
          case h4 => first | (intro w; go_simp; done) | (intro w; go_simp; with_reducible rfl)
          case r4 =>
            refine wpAny_ready (rs := [2, 6]) (by kernel_rfl) (by simp) ?_
            refine AllReady.cons rfl (fun K hK => ?_) ?_
            ·
              go_simp
              refine hK _ _ ?_
              clear hK K
              refine wpAny_ready (rs := [3, 6]) (by kernel_rfl) (by simp) ?_
              refine AllReady.cons rfl (fun K hK => ?_) ?_
              ·
                go_simp
                refine (HC0.out _ _ HX.out (by first | exact HB2.out | exact below_d1 HB2.out | exact below_d2 HB2.out | exact HB.out | exact below_d1 HB.out | exact below_d2 HB.out) H1.out).mono ?_
                rintro e w3 ⟨rfl, hb⟩
                exact ⟨rfl, rfl, below_next (by first | exact HB2.out | exact below_d1 HB2.out | exact below_d2 HB2.out | exact HB.out | exact below_d1 HB.out | exact below_d2 HB.out) hb⟩
              refine AllReady.cons rfl (fun K hK => ?_) ?_
              ·
                go_simp
                refine hK _ _ ?_
                clear hK K
                refine wpAny_ready (rs := [3]) (by kernel_rfl) (by simp) ?_
                refine AllReady.cons rfl (fun K hK => ?_) ?_
                ·
                  go_simp
                  refine (HC0.out _ _ HX.out (by first | exact HB2.out | exact below_d1 HB2.out | exact below_d2 HB2.out | exact HB.out | exact below_d1 HB.out | exact below_d2 HB.out) H1.out).mono ?_
                  rintro e w3 ⟨rfl, hb⟩
                  exact ⟨rfl, rfl, below_next (by first | exact HB2.out | exact below_d1 HB2.out | exact below_d2 HB2.out | exact HB.out | exact below_d1 HB.out | exact below_d2 HB.out) hb⟩
                exact AllReady.nil
              exact AllReady.nil
            refine AllReady.cons rfl (fun K hK => ?_) ?_
            ·
              go_simp
              refine hK _ _ ?_
              clear hK K
              refine wpAny_ready (rs := [2]) (by kernel_rfl) (by simp) ?_
              refine AllReady.cons rfl (fun K hK => ?_) ?_
              ·
                go_simp
                refine hK _ _ ?_
                clear hK K
                refine wpAny_ready (rs := [3]) (by kernel_rfl) (by simp) ?_
                refine AllReady.cons rfl (fun K hK => ?_) ?_
                ·
                  go_simp
                  refine (HC0.out _ _ HX.out (by first | exact HB2.out | exact below_d1 HB2.out | exact below_d2 HB2.out | exact HB.out | exact below_d1 HB.out | exact below_d2 HB.out) H1.out).mono ?_
                  rintro e w3 ⟨rfl, hb⟩
                  exact ⟨rfl, rfl, below_next (by first | exact HB2.out | exact below_d1 HB2.out | exact below_d2 HB2.out | exact HB.out | exact below_d1 HB.out | exact below_d2 HB.out) hb⟩
                exact AllReady.nil
              exact AllReady.nil
            exact AllReady.nil
  · have H1 := Lib.hid h1
    have H2 := Lib.hid h2
    clear h1 h2
    go_enter Tryz.func23, Tryz.ntmps23
    go_wp2_with (go_at_call 32; ((with_reducible refine (HP.out _ HB0.out).mono ?_); rintro e w1 ⟨bp, x, y, z, cp, rfl, hx, hy, hz, ht, hb⟩; go_must (obtain ⟨x0, x1, x2⟩ := txt_three ht); have HX := Lib.hid hx; have HY := Lib.hid hy; have HT := Lib.hid ht; have HB := Lib.hid (below_next HB0.out hb); clear ht hb hx hy hz))
    refine wp_region_any (by kernel_rfl) ?_
    change wpAny _ _ _ _ _ _ _ (World.drew _)
    refine wpAny_take (i := 0) (v := ?v5) rfl (by kernel_rfl) (by kernel_rfl) (by kernel_rfl) (fun _ _ _ h => h) (Or.inl ⟨by rfl, ?h5⟩) ?r5
    case h5 => first | (intro w; go_simp; done) | (intro w; go_simp; with_reducible rfl)
    case r5 =>
      refine wpAny_take (i := 1) (v := ?v6) rfl (by kernel_rfl) (by kernel_rfl) (by kernel_rfl) (fun _ _ _ h => h) (Or.inl ⟨by rfl, ?h6⟩) ?r6
      case h6 => first | (intro w; go_simp; done) | (intro w; go_simp; with_reducible rfl)
      case r6 =>
        refine wpAny_take (i := 4) (v := ?v7) rfl (by kernel_rfl) (by kernel_rfl) (by kernel_rfl) (fun _ _ _ h => h) (Or.inl ⟨by rfl, ?h7⟩) ?r7
        case h7 => first | (intro w; go_simp; done) | (intro w; go_simp; with_reducible rfl)
        case r7 =>
          refine wpAny_take (i := 5) (v := ?v8) rfl (by kernel_rfl) (by kernel_rfl) (by kernel_rfl) (fun _ _ _ h => h) (Or.inl ⟨by rfl, ?h8⟩) ?r8
          case h8 => first | (intro w; go_simp; done) | (intro w; go_simp; with_reducible rfl)
          case r8 =>
            refine wpAny_ready (rs := [2, 6]) (by kernel_rfl) (by simp) ?_
            refine AllReady.cons rfl (fun K hK => ?_) ?_
            ·
              go_simp
              refine hK _ _ ?_
              clear hK K
              refine wpAny_ready (rs := [3, 6]) (by kernel_rfl) (by simp) ?_
              refine AllReady.cons rfl (fun K hK => ?_) ?_
              ·
                go_simp
                refine (HC0.out _ _ HX.out (by first | exact HB2.out | exact below_d1 HB2.out | exact below_d2 HB2.out | exact HB.out | exact below_d1 HB.out | exact below_d2 HB.out) H1.out).mono ?_
                rintro e w3 ⟨rfl, hb⟩
                exact ⟨rfl, rfl, below_next (by first | exact HB2.out | exact below_d1 HB2.out | exact below_d2 HB2.out | exact HB.out | exact below_d1 HB.out | exact below_d2 HB.out) hb⟩
              refine AllReady.cons rfl (fun K hK => ?_) ?_
              ·
                go_simp
                refine hK _ _ ?_
                clear hK K
                refine wpAny_ready (rs := [3]) (by kernel_rfl) (by simp) ?_
                refine AllReady.cons rfl (fun K hK => ?_) ?_
                ·
                  go_simp
                  refine (HC0.out _ _ HX.out (by first | exact HB2.out | exact below_d1 HB2.out | exact below_d2 HB2.out | exact HB.out | exact below_d1 HB.out | exact below_d2 HB.out) H1.out).mono ?_
                  rintro e w3 ⟨rfl, hb⟩
                  exact ⟨rfl, rfl, below_next (by first | exact HB2.out | exact below_d1 HB2.out | exact below_d2 HB2.out | exact HB.out | exact below_d1 HB.out | exact below_d2 HB.out) hb⟩
                exact AllReady.nil
              exact AllReady.nil
            refine AllReady.cons rfl (fun K hK => ?_) ?_
            ·
              go_simp
              refine hK _ _ ?_
              clear hK K
              refine wpAny_ready (rs := [2]) (by kernel_rfl) (by simp) ?_
              refine AllReady.cons rfl (fun K hK => ?_) ?_
              ·
                go_simp
                refine hK _ _ ?_
                clear hK K
                refine wpAny_ready (rs := [3]) (by kernel_rfl) (by simp) ?_
                refine AllReady.cons rfl (fun K hK => ?_) ?_
                ·
                  go_simp
                  refine (HC0.out _ _ HX.out (by first | exact HB2.out | exact below_d1 HB2.out | exact below_d2 HB2.out | exact HB.out | exact below_d1 HB.out | exact below_d2 HB.out) H1.out).mono ?_
                  rintro e w3 ⟨rfl, hb⟩
                  exact ⟨rfl, rfl, below_next (by first | exact HB2.out | exact below_d1 HB2.out | exact below_d2 HB2.out | exact HB.out | exact below_d1 HB.out | exact below_d2 HB.out) hb⟩
                exact AllReady.nil
              exact AllReady.nil
            exact AllReady.nil
  · have H1 := Lib.hid h1
    have H2 := Lib.hid h2
    clear h1 h2
    go_enter Tryz.func23, Tryz.ntmps23
    go_wp2_with (go_at_call 32; ((with_reducible refine (HP.out _ HB0.out).mono ?_); rintro e w1 ⟨bp, x, y, z, cp, rfl, hx, hy, hz, ht, hb⟩; go_must (obtain ⟨x0, x1, x2⟩ := txt_three ht); have HX := Lib.hid hx; have HY := Lib.hid hy; have HT := Lib.hid ht; have HB := Lib.hid (below_next HB0.out hb); clear ht hb hx hy hz))
    refine wp_region_any (by kernel_rfl) ?_
    change wpAny _ _ _ _ _ _ _ (World.drew _)
    refine wpAny_take (i := 0) (v := ?v9) rfl (by kernel_rfl) (by kernel_rfl) (by kernel_rfl) (fun _ _ _ h => h) (Or.inl ⟨by rfl, ?h9⟩) ?r9
    case h9 => first | (intro w; go_simp; done) | (intro w; go_simp; with_reducible rfl)
    case r9 =>
      refine wpAny_take (i := 1) (v := ?v10) rfl (by kernel_rfl) (by kernel_rfl) (by kernel_rfl) (fun _ _ _ h => h) (Or.inl ⟨by rfl, ?h10⟩) ?r10
      case h10 => first | (intro w; go_simp; done) | (intro w; go_simp; with_reducible rfl)
      case r10 =>
        refine wpAny_take (i := 4) (v := ?v11) rfl (by kernel_rfl) (by kernel_rfl) (by kernel_rfl) (fun _ _ _ h => h) (Or.inl ⟨by rfl, ?h11⟩) ?r11
        case h11 => first | (intro w; go_simp; done) | (intro w; go_simp; with_reducible rfl)
        case r11 =>
          refine wpAny_take (i := 5) (v := ?v12) rfl (by kernel_rfl) (by kernel_rfl) (by kernel_rfl) (fun _ _ _ h => h) (Or.inl ⟨by rfl, ?h12⟩) ?r12
          case h12 => first | (intro w; go_simp; done) | (intro w; go_simp; with_reducible rfl)
          case r12 =>
            refine wpAny_ready (rs := [2, 6]) (by kernel_rfl) (by simp) ?_
            refine AllReady.cons rfl (fun K hK => ?_) ?_
            ·
              go_simp
              refine hK _ _ ?_
              clear hK K
              refine wpAny_ready (rs := [3, 6]) (by kernel_rfl) (by simp) ?_
              refine AllReady.cons rfl (fun K hK => ?_) ?_
              ·
                go_wp2_with (go_at_call 33; ((with_reducible refine (HC1.out _ _ HX.out (by first | exact HB2.out | exact below_d1 HB2.out | exact below_d2 HB2.out | exact HB.out | exact below_d1 HB.out | exact below_d2 HB.out) H1.out).mono ?_); rintro e w2 ⟨g, cg, rfl, ho, hb⟩; have HB2 := Lib.hid (below_next (by first | exact HB2.out | exact below_d1 HB2.out | exact below_d2 HB2.out | exact HB.out | exact below_d1 HB.out | exact below_d2 HB.out) hb); go_must (obtain ⟨y0, y1, y2⟩ := txt_three (Txt.next (w := w1.drew) HT.out hb)); clear ho hb))
                refine wpAny_ready (rs := [6]) (by kernel_rfl) (by simp) ?_
                refine AllReady.cons rfl (fun K hK => ?_) ?_
                ·
                  go_simp
                  refine hK _ _ ?_
                  clear hK K
                  refine wpAny_ready (rs := [7]) (by kernel_rfl) (by simp) ?_
                  refine AllReady.cons rfl (fun K hK => ?_) ?_
                  ·
                    go_simp
                    refine (HF0.out _ _ HY.out (by first | exact HB2.out | exact below_d1 HB2.out | exact below_d2 HB2.out | exact HB.out | exact below_d1 HB.out | exact below_d2 HB.out) H2.out).mono ?_
                    rintro e w3 ⟨rfl, hb⟩
                    exact ⟨rfl, rfl, below_next (by first | exact HB2.out | exact below_d1 HB2.out | exact below_d2 HB2.out | exact HB.out | exact below_d1 HB.out | exact below_d2 HB.out) hb⟩
                  exact AllReady.nil
                exact AllReady.nil
              refine AllReady.cons rfl (fun K hK => ?_) ?_
              ·
                go_simp
                refine hK _ _ ?_
                clear hK K
                refine wpAny_ready (rs := [3]) (by kernel_rfl) (by simp) ?_
                refine AllReady.cons rfl (fun K hK => ?_) ?_
                ·
                  go_wp2_with (go_at_call 33; ((with_reducible refine (HC1.out _ _ HX.out (by first | exact HB2.out | exact below_d1 HB2.out | exact below_d2 HB2.out | exact HB.out | exact below_d1 HB.out | exact below_d2 HB.out) H1.out).mono ?_); rintro e w2 ⟨g, cg, rfl, ho, hb⟩; have HB2 := Lib.hid (below_next (by first | exact HB2.out | exact below_d1 HB2.out | exact below_d2 HB2.out | exact HB.out | exact below_d1 HB.out | exact below_d2 HB.out) hb); go_must (obtain ⟨y0, y1, y2⟩ := txt_three (Txt.next (w := w1.drew) HT.out hb)); clear ho hb))
                  refine wpAny_ready (rs := [7]) (by kernel_rfl) (by simp) ?_
                  refine AllReady.cons rfl (fun K hK => ?_) ?_
                  ·
                    go_simp
                    refine (HF0.out _ _ HY.out (by first | exact HB2.out | exact below_d1 HB2.out | exact below_d2 HB2.out | exact HB.out | exact below_d1 HB.out | exact below_d2 HB.out) H2.out).mono ?_
                    rintro e w3 ⟨rfl, hb⟩
                    exact ⟨rfl, rfl, below_next (by first | exact HB2.out | exact below_d1 HB2.out | exact below_d2 HB2.out | exact HB.out | exact below_d1 HB.out | exact below_d2 HB.out) hb⟩
                  exact AllReady.nil
                exact AllReady.nil
              exact AllReady.nil
            refine AllReady.cons rfl (fun K hK => ?_) ?_
            ·
              go_simp
              refine hK _ _ ?_
              clear hK K
              refine wpAny_ready (rs := [2]) (by kernel_rfl) (by simp) ?_
              refine AllReady.cons rfl (fun K hK => ?_) ?_
              ·
                go_simp
                refine hK _ _ ?_
                clear hK K
                refine wpAny_ready (rs := [3]) (by kernel_rfl) (by simp) ?_
                refine AllReady.cons rfl (fun K hK => ?_) ?_
                ·
                  go_wp2_with (go_at_call 33; ((with_reducible refine (HC1.out _ _ HX.out (by first | exact HB2.out | exact below_d1 HB2.out | exact below_d2 HB2.out | exact HB.out | exact below_d1 HB.out | exact below_d2 HB.out) H1.out).mono ?_); rintro e w2 ⟨g, cg, rfl, ho, hb⟩; have HB2 := Lib.hid (below_next (by first | exact HB2.out | exact below_d1 HB2.out | exact below_d2 HB2.out | exact HB.out | exact below_d1 HB.out | exact below_d2 HB.out) hb); go_must (obtain ⟨y0, y1, y2⟩ := txt_three (Txt.next (w := w1.drew) HT.out hb)); clear ho hb))
                  refine wpAny_ready (rs := [7]) (by kernel_rfl) (by simp) ?_
                  refine AllReady.cons rfl (fun K hK => ?_) ?_
                  ·
                    go_simp
                    refine (HF0.out _ _ HY.out (by first | exact HB2.out | exact below_d1 HB2.out | exact below_d2 HB2.out | exact HB.out | exact below_d1 HB.out | exact below_d2 HB.out) H2.out).mono ?_
                    rintro e w3 ⟨rfl, hb⟩
                    exact ⟨rfl, rfl, below_next (by first | exact HB2.out | exact below_d1 HB2.out | exact below_d2 HB2.out | exact HB.out | exact below_d1 HB.out | exact below_d2 HB.out) hb⟩
                  exact AllReady.nil
                exact AllReady.nil
              exact AllReady.nil
            exact AllReady.nil
end Go.Proofs.YtljcgfgkfkoeeaaGreatDoor
