/- The law FnExactReadHeap: true at every input, and its tied card. -/
import Derived.Test.YtljcgfgkfkoeeaaGreatDoorJd
import Derived.Test.YtljcgfgkfkoeeaaGreatDoorJc
import Derived.Test.YtljcgfgkfkoeeaaGreatDoorGrm
import Derived.HandedShaped
import Derived.Shelf.Vars
import Derived.Lay
import Derived.OpenShut
import Derived.ShutString
import Derived.Laws.Cover2
import Derived.ChangeOld
import Derived.Below
import Derived.OpenVars
import Derived.ChangeVars
namespace Go.Proofs.YtljcgfgkfkoeeaaGreatDoor
open Go.RowKit Fl

theorem results_two' {P : Program} {fn : Func} {p q : Tmp} {ty ty2 : TypeId} (h : fn.results = #[.cell p ty, .cell q ty2]) (tmps : Array Value) (w : World) (g g2 : Nat) (t : TypeId) (cs : Array Value) (d : TypeDesc) (b : Bool)
    (hp : tmps.getD p undef = .pointer (some ⟨g, 0, none⟩)) (hq : tmps.getD q undef = .pointer (some ⟨g2, 0, none⟩)) (hg : Blk w g t cs) (hb : w.cell? ⟨g2, 0, none⟩ = some (.bool b))
    (hu : P.underlying ty = some d) (hd : (match d with | .struct _ | .array _ _ => true | _ => false) = true) (hi : (P.info? ty).map (·.size) = some cs.size) (hu2 : P.underlying ty2 = some .bool) :
    (results fn tmps).run P w = .ok (.tuple #[.agg cs, .bool b]) w := by
  have hp' : tmps[p]?.getD undef = .pointer (some ⟨g, 0, none⟩) := by simpa using hp
  have hq' : tmps[q]?.getD undef = .pointer (some ⟨g2, 0, none⟩) := by simpa using hq
  have h2 : (loadVar ty2 ⟨g2, 0, none⟩).run P w = .ok (.bool b) w := by
    simp [loadVar, run_isAgg_plain hu2 rfl, hb, go_sem]
  simp [results, h, hp', hq', asAddr, run_loadVar_row w g t ty cs (0, 0) d hg hu hd hi, h2]
set_option maxRecDepth 100000 in
set_option maxHeartbeats 800000 in
theorem catchH_panicking (b : Nat) (x : Bool) (p : Value) (w : World) (hc : w.cell? ⟨b, 0, none⟩ = some (.bool x)) (hz : w.frozen? ⟨b, 0, none⟩ = false) :
    CallsD Tryz.prog 18 #[.pointer (some ⟨b, 0, none⟩)] (.panicking ({ v := .iface 145 p, recovered := false } :: [])) w fun e u' w' =>
      e = .returned (.tuple #[]) ∧ u' = .panicking ({ v := .iface 145 p, recovered := true } :: []) ∧ w' = w.setCell ⟨b, 0, none⟩ (.bool false) := by
  refine callsD_of_wpS Tryz.func18 rfl fun c₀ cs hu => ?_
  apply wpS_seq
  apply wpS_region
  simp [wpOpsS, go_sem, recoverD, hu, Tryz.ntmps18, Exit.thenS, as_has]
  apply wpS_region
  simp [wpOpsS, go_sem, hc, hz, bodyPostS, results, Tryz.results18]
set_option maxRecDepth 100000 in
set_option maxHeartbeats 800000 in
theorem catchH_idle (b : Nat) (x : Bool) (w : World) (hc : w.cell? ⟨b, 0, none⟩ = some (.bool x)) (hz : w.frozen? ⟨b, 0, none⟩ = false) :
    CallsD Tryz.prog 18 #[.pointer (some ⟨b, 0, none⟩)] .returning w fun e u' w' =>
      e = .returned (.tuple #[]) ∧ u' = .returning ∧ w' = w.setCell ⟨b, 0, none⟩ (.bool true) := by
  refine callsD_of_wpS Tryz.func18 rfl fun c₀ cs hu => ?_
  apply wpS_seq
  apply wpS_region
  simp [wpOpsS, go_sem, recoverD, hu, Tryz.ntmps18, Exit.thenS, as_nil]
  apply wpS_region
  simp [wpOpsS, go_sem, hc, hz, bodyPostS, results, Tryz.results18]
  cases c₀
  simp_all
set_option maxRecDepth 100000 in
set_option maxHeartbeats 1600000 in
theorem attemptH_of (s : ByteArray) (w : World) (m : Int) (p : Value) (hs : s.size ≤ 1048576) (hE : Env w m p) :
    Calls Tryz.prog 10 #[.func (.func 11) #[] #[], .string s] w (RhEnd (rhF s.data.toList) w) := by
  have hmf : ∀ (fn : Fn) (first cap : Array Value) (w : World), (Instr.makeFunc fn first cap).run Tryz.prog w = .ok (.func fn first cap) w := fun _ _ _ _ => rfl
  have HB0 := Lib.hid (((Below.refl w.heap.size w).alloc (Nat.le_refl _) (.cells #[.slice none 0 0] 24)).alloc (by simp) (.cells #[.bool false] 4))
  have HR := Lib.hid fun w' hb => readHeap_of s w' m p hs (hE.below (w' := w') hb)
  have HZ := Lib.hid ((blk_new w 24 #[.slice none 0 0] _ rfl).alloc (.cells #[.bool false] 4))
  have HK := Lib.hid (blk_new (w.alloc (.cells #[.slice none 0 0] 24)) 4 #[.bool false] (w.heap.size + 1) (by simp))
  clear hE
  cases hr : rhF s.data.toList with
  | none =>
    rw [hr] at HR
    unfold RhR refused at HR
    dsimp only at HR
    unfold RhEnd GaveRow
    dsimp only [Option.getD_none, Option.isSome_none]
    simp only [Bool.false_eq_true, if_false]
    clear hr
    go_enter_defers Tryz.func10, Tryz.ntmps10
    go_wp2_with (go_at_call 11; ((with_reducible refine (HR.out _ HB0.out).mono ?_); rintro e w2 ⟨rfl, hb⟩; have HZ2 := Lib.hid (blk_next HZ.out hb); have HK2 := Lib.hid (blk_next HK.out hb); have HB2 := Lib.hid (below_next HB0.out hb); clear hb))
    refine leaves_cons (f := 18) (args := #[.pointer (some ⟨w.heap.size + 1, 0, none⟩)]) (by simp) (by simp [go_sem]) ?_
    refine (catchH_panicking (w.heap.size + 1) false p _ (HK2.out.cell 0) (HK2.out.frozen 0)).mono ?_
    rintro e u' w'' ⟨rfl, rfl, rfl⟩
    exact ⟨.tuple #[.agg #[.slice none 0 0], .bool false], results_two' Tryz.results10 _ _ w.heap.size (w.heap.size + 1) 24 #[.slice none 0 0] _ false rfl rfl (HZ2.out.far (p := ⟨w.heap.size + 1, 0, none⟩) (Nat.ne_of_lt (Nat.lt_succ_self _)) _) ((HK2.out.set_ 0 (.bool false)).cell 0) Tryz.underlying24 rfl (by kernel_rfl) Tryz.underlying4, rfl, HB2.out.setCell (p := ⟨w.heap.size + 1, 0, none⟩) (Nat.le_succ _) _⟩
  | some gs =>
    rw [hr] at HR
    unfold RhR at HR
    dsimp only at HR
    unfold RhEnd GaveRow
    dsimp only [Option.getD_some, Option.isSome_some]
    simp only [if_true]
    obtain ⟨n, hn⟩ : ∃ n, gs.length = n := ⟨_, rfl⟩
    rw [hn] at HR ⊢
    clear hr hn
    go_enter_defers Tryz.func10, Tryz.ntmps10
    go_wp2_with (go_at_call 11; ((with_reducible refine (HR.out _ HB0.out).mono ?_); rintro e w2 ⟨b, c, rfl, ho, hb⟩; have HO2 := Lib.hid (own_from ho HB0.out.size); have HZ2 := Lib.hid (blk_next HZ.out hb); have HK2 := Lib.hid (blk_next HK.out hb); have HB2 := Lib.hid (below_next HB0.out hb); have z0 := HZ2.out.cell 0; have zf := HZ2.out.frozen 0; clear ho hb))
    refine leaves_cons (f := 18) (args := #[.pointer (some ⟨w.heap.size + 1, 0, none⟩)]) (by simp) (by simp [go_sem]) ?_
    have hne : w.heap.size + 1 ≠ w.heap.size := Nat.succ_ne_self _
    have HK3 := HK2.out.far (p := ⟨w.heap.size, 0, none⟩) hne (.slice (some ⟨b, 0, none⟩) n c)
    refine (catchH_idle (w.heap.size + 1) false (w2.setCell ⟨w.heap.size, 0, none⟩ (.slice (some ⟨b, 0, none⟩) n c)) (HK3.cell 0) (HK3.frozen 0)).mono ?_
    rintro e u' w'' ⟨rfl, rfl, rfl⟩
    exact ⟨.tuple #[.agg #[.slice (some ⟨b, 0, none⟩) n c], .bool true], results_two' Tryz.results10 _ _ w.heap.size (w.heap.size + 1) 24 #[.slice (some ⟨b, 0, none⟩) n c] _ true rfl rfl ((HZ2.out.set_ 0 _).far (p := ⟨w.heap.size + 1, 0, none⟩) hne.symm _) ((HK3.set_ 0 (.bool true)).cell 0) Tryz.underlying24 rfl (by kernel_rfl) Tryz.underlying4, b, c, rfl, own_far (own_far HO2.out HZ2.out neGH 0 _) HK3 (by decide) 0 _, (HB2.out.setCell (p := ⟨w.heap.size, 0, none⟩) (Nat.le_refl _) _).setCell (p := ⟨w.heap.size + 1, 0, none⟩) (Nat.le_succ _) _⟩
set_option maxRecDepth 100000 in
set_option maxHeartbeats 1600000 in
theorem implReadHeap_of (s : ByteArray) (w : World) (m : Int) (p : Value) (hs : s.size ≤ 1048576) (hE : Env w m p) :
    Calls Tryz.prog 5 #[.string s] w (RhEnd (rhF s.data.toList) w) := by
  have hmf : ∀ (fn : Fn) (first cap : Array Value) (w : World), (Instr.makeFunc fn first cap).run Tryz.prog w = .ok (.func fn first cap) w := fun _ _ _ _ => rfl
  have HB0 := Lib.hid ((Below.refl w.heap.size w).alloc (Nat.le_refl _) (.cells #[.slice none 0 0] 24))
  have HC := Lib.hid fun w' hb => attemptH_of s w' m p hs (hE.below (w' := w') hb)
  have HZ := Lib.hid (blk_new w 24 #[.slice none 0 0] _ rfl)
  clear hE
  cases hr : rhF s.data.toList with
  | none =>
    rw [hr] at HC
    unfold RhEnd GaveRow at HC ⊢
    dsimp only [Option.getD_none, Option.isSome_none] at HC ⊢
    clear hr
    simp only [Bool.false_eq_true, if_false] at HC ⊢
    go_enter Tryz.func5, Tryz.ntmps5
    go_wp2_with (go_at_call 10; ((with_reducible refine (HC.out _ HB0.out).mono ?_); rintro e w2 ⟨rfl, hb⟩; have HZ2 := Lib.hid (blk_next HZ.out hb); have z0 := HZ2.out.cell 0; have zf := HZ2.out.frozen 0; have HB := Lib.hid (below_next HB0.out hb); clear hb))
    refine bodyPost_ret (v := .tuple #[.agg #[.slice none 0 0], .bool false]) (results_row_tmp Tryz.results5 _ _ w.heap.size 24 #[.slice none 0 0] _ _ rfl (HZ2.out.set_ 0 _) rfl Tryz.underlying24 rfl (by kernel_rfl)) rfl ⟨rfl, HB.out.setCell (Nat.le_refl _) _⟩
  | some gs =>
    rw [hr] at HC
    unfold RhEnd GaveRow at HC ⊢
    dsimp only [Option.getD_some, Option.isSome_some] at HC ⊢
    obtain ⟨n, hn⟩ : ∃ n, gs.length = n := ⟨_, rfl⟩
    simp only [if_true] at HC ⊢
    rw [hn] at HC ⊢
    clear hr hn
    go_enter Tryz.func5, Tryz.ntmps5
    go_wp2_with (go_at_call 10; ((with_reducible refine (HC.out _ HB0.out).mono ?_); rintro e w2 ⟨b, c, rfl, ho, hb⟩; have HO2 := Lib.hid (own_from ho HB0.out.size); have HZ2 := Lib.hid (blk_next HZ.out hb); have z0 := HZ2.out.cell 0; have zf := HZ2.out.frozen 0; have HB := Lib.hid (below_next HB0.out hb); clear ho hb))
    refine bodyPost_ret (v := .tuple #[.agg #[.slice (some ⟨b, 0, none⟩) n c], .bool true]) (results_row_tmp Tryz.results5 _ _ w.heap.size 24 #[.slice (some ⟨b, 0, none⟩) n c] _ _ rfl (HZ2.out.set_ 0 _) rfl Tryz.underlying24 rfl (by kernel_rfl)) rfl ⟨b, c, rfl, own_far HO2.out HZ2.out neGH 0 _, HB.out.setCell (Nat.le_refl _) _⟩
end Go.Proofs.YtljcgfgkfkoeeaaGreatDoor

namespace Go.Proofs.YtljcgfgkfkoeeaaGreatDoor
open Go.RowKit Fl

theorem l08ReadGrain_of (s : ByteArray) (w : World) (hs : s.size ≤ 1048576) :
    Calls Tryz.prog 16 #[.string s] w fun e w' => e = RgAns s.data.toList ∧ Below w.heap.size w w' := by
  by_cases h3 : (cparts 58 s.data.toList).length = 3
  · obtain ⟨a, b, c, habc⟩ := three_of h3
    by_cases hc : c = freeL ∨ c = heldL
    · cases h1 : ExC a 2
      · exact l08RG_lists s w a b c hs habc hc (Or.inl h1)
      · cases h2 : ExF b 4
        · exact l08RG_lists s w a b c hs habc hc (Or.inr h2)
        · exact l08RG_made s w a b c hs habc hc h1 h2
    · exact l08RG_state s w a b c hs habc (fun e => hc (Or.inr e)) (fun e => hc (Or.inl e))
  · exact l08RG_short s w hs h3
theorem txt_far {w : World} {g g2 : Nat} {t : TypeId} {cs : Array Value} {P : List ByteArray} (h : Txt w g P) (hb : Blk w g2 t cs) (hne : t ≠ 9) (i : Nat) (u : Value) : Txt (w.setCell ⟨g2, i, none⟩ u) g P := by
  obtain ⟨c2, h1, hc⟩ := h
  refine ⟨c2, h1.far (fun e => ?_) u, hc⟩
  subst e
  unfold Blk at h1 hb
  rw [hb] at h1
  injection h1 with h1
  injection h1 with _ h2
  exact hne h2
theorem neHS : 24 ≠ 9 := by decide
theorem neGS : 39 ≠ 9 := by decide
theorem take_snoc_gs {gs : List Gr} {k : Nat} (h : k < gs.length) : gs.take k ++ [gs.getD k default] = gs.take (k + 1) := by
  rw [List.take_succ_eq_append_getElem h, List.getD_eq_getElem?_getD, List.getElem?_eq_getElem h]
  rfl
theorem gr_new0 (w : World) (t : TypeId) (g : Gr) : ∀ j u, g.cells[j]? = some u → (w.alloc (.cells #[.complex .f32 g.ax g.ay, .complex .f32 g.sx g.sy, .float .f32 g.r, .float .f32 g.m, .float .f32 g.t, .float .f32 g.s, .bool g.h] t)).cell? ((⟨w.heap.size, 0, none⟩ : Addr).add j) = some u := gr_new w t g 0
theorem gr_new2 (w : World) (o : Obj) (t : TypeId) (g : Gr) : ∀ j u, g.cells[j]? = some u → ((w.alloc o).alloc (.cells #[.complex .f32 g.ax g.ay, .complex .f32 g.sx g.sy, .float .f32 g.r, .float .f32 g.m, .float .f32 g.t, .float .f32 g.s, .bool g.h] t)).cell? ((⟨w.heap.size + 1, 0, none⟩ : Addr).add j) = some u := by
  rw [show w.heap.size + 1 = (w.alloc o).heap.size by simp]
  exact gr_new0 (w.alloc o) t g
theorem rhEnd_yes {o : Option (List Gr)} {gs : List Gr} {w w' : World} {b c n : Nat} (h : o = some gs) (hl : gs.length = n) (ho : w'.ownsRow w.heap.size 39 7 (.slice (some ⟨b, 0, none⟩) n c) n (gcells gs)) (hb : Below w.heap.size w w') : RhEnd o w (.returned (.tuple #[.agg #[.slice (some ⟨b, 0, none⟩) n c], .bool true])) w' := by
  subst h; subst hl
  exact ⟨b, c, rfl, ho, hb⟩
theorem rhEnd_no {o : Option (List Gr)} {w w' : World} (h : o = none) (hb : Below w.heap.size w w') : RhEnd o w (.returned (.tuple #[.agg #[.slice none 0 0], .bool false])) w' := by
  subst h
  exact ⟨rfl, hb⟩
set_option maxHeartbeats 800000 in
theorem l02Is_long (N b n c : Nat) (w : World) (hp : w.cell? ⟨N, 0, none⟩ = some (.slice (some ⟨b, 0, none⟩) n c)) (hn : ¬ n ≤ 24) :
    Calls Tryz.prog 28 #[.pointer (some ⟨N, 0, none⟩)] w fun e w' => e = .returned (.bool false) ∧ w = w' := by
  have h1 := rows_gt hn
  have h2 : decide ((0 : Int) < (n : Int)) = true := decide_eq_true (by omega)
  go_enter Tryz.func28, Tryz.ntmps28
  go_wp2
  refine wp_loop_rounds 1 ?_
  rw [rounds_succ]
  go_wp2
  go_ret
  exact ⟨rfl, rfl⟩
set_option maxHeartbeats 800000 in
theorem l02Give_long (b n c : Nat) (w : World) (hn : ¬ n ≤ 24) :
    Calls Tryz.prog 17 #[.agg #[.slice (some ⟨b, 0, none⟩) n c]] w fun e w' => e = .returned (.tuple #[.agg #[.slice none 0 0], .bool false]) ∧ Below w.heap.size w w' := by
  have hbel := ((Below.refl w.heap.size w).alloc (Nat.le_refl _) (.cells #[.slice (some ⟨b, 0, none⟩) n c] 24)).alloc (by simp) (.cells #[.slice none 0 0] 24)
  have hB0 : Blk ((w.alloc (.cells #[.slice (some ⟨b, 0, none⟩) n c] 24)).alloc (.cells #[.slice none 0 0] 24)) w.heap.size 24 _ := (blk_new w _ _ _ rfl).alloc _
  have hB1 : Blk ((w.alloc (.cells #[.slice (some ⟨b, 0, none⟩) n c] 24)).alloc (.cells #[.slice none 0 0] 24)) (w.heap.size + 1) 24 _ := blk_new _ _ _ _ (by simp)
  have HC' := Lib.hid (l02Is_long w.heap.size b n c _ (hB0.cell 0) hn)
  have HB := Lib.hid hbel
  have HB1 := Lib.hid hB1
  have hf1 := hB1.frozen 0
  have hc1 := hB1.cell 0
  clear hbel hB0 hB1 hn
  go_enter Tryz.func17, Tryz.ntmps17
  go_wp2_with (go_at_call 28; go_loud (refine HC'.out.mono ?_); rintro e w1 ⟨rfl, rfl⟩)
  refine bodyPost_ret (v := .tuple #[.agg #[.slice none 0 0], .bool false]) (results_row_tmp Tryz.results17 _ _ (w.heap.size + 1) 24 #[.slice none 0 0] _ _ rfl ?_ rfl Tryz.underlying24 rfl (by kernel_rfl)) rfl ⟨rfl, ?_⟩
  · exact HB1.out
  · exact HB.out
theorem l02Give_yes (b n c : Nat) (gs : List Gr) (w : World) (hl : gs.length = n) (hr : GrRow w b gs) (hn : n ≤ 24) (hv : gs.all Gr.valid = true) :
    Calls Tryz.prog 17 #[.agg #[.slice (some ⟨b, 0, none⟩) n c]] w fun e w' => e = .returned (.tuple #[.agg #[.slice (some ⟨b, 0, none⟩) n c], .bool true]) ∧ Below w.heap.size w w' := by
  have h := l02Give_of b n c gs w hl hr hn
  rw [hv] at h
  exact h
set_option maxRecDepth 100000 in
set_option maxHeartbeats 3200000 in
theorem l08RH_none (s : ByteArray) (w : World) (hn : s.data.toList = noneL) :
    Calls Tryz.prog 9 #[.string s] w (RhEnd (some []) w) := by
  obtain ⟨h1, h2, h3⟩ := str_eq (l := [110, 111, 110, 101]) rfl hn
  clear h2 h3
  unfold RhEnd GaveRow
  dsimp only [Option.getD_some, Option.isSome_some]
  simp only [if_true]
  go_enter Tryz.func9, Tryz.ntmps9
  go_wp2
  have hA := ((blk_new w 24 #[.slice (some ⟨w.heap.size + 1, 0, none⟩) 0 0] _ rfl).alloc (.cells #[] 39)).alloc (.cells #[.slice (some ⟨w.heap.size + 1, 0, none⟩) 0 0] 24)
  have hO := (own_nil_lit (w.alloc (.cells #[.slice (some ⟨w.heap.size + 1, 0, none⟩) 0 0] 24)) 39 w.heap.size (by simp)).alloc (.cells #[.slice (some ⟨w.heap.size + 1, 0, none⟩) 0 0] 24)
  rw [show (w.alloc (.cells #[.slice (some ⟨w.heap.size + 1, 0, none⟩) 0 0] 24)).heap.size = w.heap.size + 1 by simp] at hO
  refine bodyPost_ret (v := .tuple #[.agg #[.slice (some ⟨w.heap.size + 1, 0, none⟩) 0 0], .bool true]) (results_row_tmp Tryz.results9 _ _ w.heap.size 24 _ _ _ rfl hA rfl Tryz.underlying24 rfl (by kernel_rfl)) rfl ⟨_, _, rfl, hO, (((Below.refl w.heap.size w).alloc (Nat.le_refl _) _).alloc (by simp) _).alloc (by simp; omega) _⟩
set_option maxRecDepth 100000 in
set_option maxHeartbeats 3200000 in
theorem l08RH_rows (s : ByteArray) (w : World) (hs : s.size ≤ 1048576) (hn : s.data.toList ≠ noneL) :
    Calls Tryz.prog 9 #[.string s] w (RhEnd (rhF s.data.toList) w) := by
  obtain ⟨i0, hi, hz0, hz1, hz2⟩ := info_parts ginfo
  have HC := Lib.hid fun w => ccut_of 47 47 s w (Lib.hid rfl) hs
  obtain ⟨h1, h2, h3⟩ := str_ne (l := [110, 111, 110, 101]) rfl hn
  clear h2 h3
  have hsz : s.data.toList.length = s.size := by simp
  have HZx := Lib.hid (show ∀ x ∈ cparts 47 s.data.toList, x.length ≤ 1048576 from fun x hx => by have := cparts_le 47 _ _ hx; omega)
  have hZ := ((blk_new w 24 #[.slice none 0 0] _ rfl).alloc (.cells #[] 39)).alloc (.cells #[.slice (some ⟨w.heap.size + 1, 0, none⟩) 0 0] 24)
  have hA := blk_new ((w.alloc (.cells #[.slice none 0 0] 24)).alloc (.cells #[] 39)) 24 #[.slice (some ⟨w.heap.size + 1, 0, none⟩) 0 0] (w.heap.size + 1 + 1) (by simp)
  have hO := (own_nil_lit (w.alloc (.cells #[.slice none 0 0] 24)) 39 w.heap.size (by simp)).alloc (.cells #[.slice (some ⟨w.heap.size + 1, 0, none⟩) 0 0] 24)
  rw [show (w.alloc (.cells #[.slice none 0 0] 24)).heap.size = w.heap.size + 1 by simp] at hO
  have hb3 := (((Below.refl w.heap.size w).alloc (Nat.le_refl _) (.cells #[.slice none 0 0] 24)).alloc (by simp) (.cells #[] 39)).alloc (by simp; omega) (.cells #[.slice (some ⟨w.heap.size + 1, 0, none⟩) 0 0] 24)
  go_enter Tryz.func9, Tryz.ntmps9
  go_wp2_with (go_at_call 15; ((with_reducible refine (HC.out _).mono ?_); rintro e w1 ⟨P, bt, ct, hP, rfl, ht, hb⟩; have HP := Lib.hid hP; have HT := Lib.hid (txt_own ht); have B1 := Lib.hid (below_next hb3 hb); have A1 := Lib.hid (blk_next hA hb); have Z1 := Lib.hid (blk_next hZ hb); have O1 := Lib.hid (own_below hO hb (Nat.le_refl _)); clear hP ht hb))
  have HPl := Lib.hid (show (cparts 47 s.data.toList).length = P.length by rw [← HP.out, bts_len0])
  have hpn : P.length ≤ 1048577 := by have h4 := HPl.out; have h5 := cparts_len (sep := 47) s.data.toList; have h6 : s.data.toList.count 47 ≤ s.data.toList.length := List.count_le_length; omega
  generalize hps : cparts 47 s.data.toList = ps at HP HPl
  clear hb3 hA hZ hO
  generalize hn2 : P.length = n at HPl hpn ⊢
  go_loopw [6] (fun i wr => ∃ (W : World) (k bk ck : Nat), W = wr ∧ k ≤ n ∧ i = .int .i64 k ∧ Hid (∀ j, j < k → (rgF (ps.getD j [])).isSome = true) ∧
      Blk wr (w.heap.size + 1 + 1) 24 #[.slice (some ⟨bk, 0, none⟩) k ck] ∧ Blk wr w.heap.size 24 #[.slice none 0 0] ∧ wr.ownsRow w.heap.size 39 7 (.slice (some ⟨bk, 0, none⟩) k ck) k (gcells ((rowsGs ps).take k)) ∧ Txt wr bt P ∧ Below w.heap.size w wr) (fun i _ => n - (intOf i).toNat)
  case atStart => exact ⟨_, 0, _, _, rfl, Nat.zero_le _, rfl, fun j hj => absurd hj (Nat.not_lt_zero j), A1.out, Z1.out, O1.out, HT.out, B1.out⟩
  case round =>
    obtain ⟨W, k, bk, ck, rfl, hk, rfl, hS, hA, hZ, hO, hT, hB⟩ := hrel
    have HA := Lib.hid hA
    have HZ := Lib.hid hZ
    have HO := Lib.hid hO
    have HTx := Lib.hid hT
    have HB := Lib.hid hB
    clear hA hZ hO hT hB
    by_cases hlt : k < n
    · have hkp : k < P.length := by omega
      have hkn : k < ps.length := by rw [HPl.out]; exact hlt
      have c0 := HTx.out.cell hkp
      have hx : (P.getD k ⟨#[]⟩).data.toList = ps.getD k [] := by rw [← bts_getD P k hkp, HP.out]
      have hz := HZx.out (ps.getD k []) (by rw [← hps, List.getD_eq_getElem?_getD, List.getElem?_eq_getElem (by rw [hps]; exact hkn)]; exact List.getElem_mem _)
      generalize P.getD k ⟨#[]⟩ = x at c0 hx
      have HR := Lib.hid fun W' => l08ReadGrain_of x W' (by rw [← hx] at hz; simpa using hz)
      rw [hx] at HR
      cases hr : rgF (ps.getD k []) with
      | none =>
        rw [rg_ans_none hr] at HR
        unfold Gr.val zg at HR
        dsimp only at HR
        have hsf := run_store_float' Tryz.prog
        have hsc := run_store_complex Tryz.prog
        go_wp2_with (go_at_call 16; ((with_reducible refine (HR.out _).mono ?_); rintro e w4 ⟨rfl, hb⟩; have hbs := below_next HB.out hb; have B4 := Lib.hid hbs; have Z4 := Lib.hid (blk_next HZ.out hb); have z4 := Z4.out.cell 0; have zf4 := Z4.out.frozen 0; have lZ := Z4.out.lt; clear hb hbs))
        rw [rhF_no hn (by unfold rhOk; rw [hps, none_all hkn hr]; rfl)]
        refine bodyPost_ret (v := .tuple #[.agg #[.slice none 0 0], .bool false]) (results_row_tmp Tryz.results9 _ _ w.heap.size 24 #[.slice none 0 0] _ _ rfl ((Z4.out.set_ 0 _).alloc (.cells #[.complex .f32 0 0, .complex .f32 0 0, .float .f32 0, .float .f32 0, .float .f32 0, .float .f32 0, .bool false] 39)) rfl Tryz.underlying24 rfl (by kernel_rfl)) rfl ⟨rfl, (B4.out.setCell (Nat.le_refl _) _).alloc (B4.out.setCell (Nat.le_refl _) _).size _⟩
      | some g2 =>
        have HS2 := Lib.hid (show ∀ j, j < k + 1 → (rgF (ps.getD j [])).isSome = true from fun j hj => (Nat.lt_succ_iff_lt_or_eq.1 hj).elim (hS.out j) (fun e => by rw [e, hr]; rfl))
        have HSn := Lib.hid (take_snoc_gs (gs := rowsGs ps) (k := k) (by rw [rowsGs_length]; exact hkn))
        rw [rowsGs_at hkn, hr] at HSn
        dsimp only [Option.getD_some] at HSn
        rw [rg_ans_some hr] at HR
        obtain ⟨ax, ay, sx, sy, r, mm, t, sp, hh⟩ := g2
        unfold Gr.val at HR
        dsimp only at HR
        have hsf := run_store_float' Tryz.prog
        have hsc := run_store_complex Tryz.prog
        clear hr hx hz hS
        go_wp2_with (first | (go_at_call 16; ((with_reducible refine (HR.out _).mono ?_); rintro e w4 ⟨rfl, hb⟩; have hbs := below_next HB.out hb; have B4 := Lib.hid (hbs.alloc hbs.size (.cells #[.complex .f32 ax ay, .complex .f32 sx sy, .float .f32 r, .float .f32 mm, .float .f32 t, .float .f32 sp, .bool hh] 39)); have Z4 := Lib.hid ((blk_next HZ.out hb).alloc (.cells #[.complex .f32 ax ay, .complex .f32 sx sy, .float .f32 r, .float .f32 mm, .float .f32 t, .float .f32 sp, .bool hh] 39)); have A4 := Lib.hid ((blk_next HA.out hb).alloc (.cells #[.complex .f32 ax ay, .complex .f32 sx sy, .float .f32 r, .float .f32 mm, .float .f32 t, .float .f32 sp, .bool hh] 39)); have a4 := (blk_next HA.out hb).cell 0; have af4 := (blk_next HA.out hb).frozen 0; have lA := (blk_next HA.out hb).lt; have T4 := Lib.hid ((HTx.out.next hb).next ((Below.refl w4.heap.size w4).alloc (Nat.le_refl _) (.cells #[.complex .f32 ax ay, .complex .f32 sx sy, .float .f32 r, .float .f32 mm, .float .f32 t, .float .f32 sp, .bool hh] 39))); have O4 := Lib.hid ((own_below HO.out hb (Nat.le_refl _)).alloc (.cells #[.complex .f32 ax ay, .complex .f32 sx sy, .float .f32 r, .float .f32 mm, .float .f32 t, .float .f32 sp, .bool hh] 39)); have hs4 := hbs.size; clear hb hbs)) | (at_builtin; go_loud (refine wpList_append_own _ rfl _ _ 22 rfl w.heap.size 39 i0 _ 7 36 Tryz.underlying22 hi hz0 hz1 hz2 rfl (by decide) (.slice (some ⟨bk, 0, none⟩) k ck) k _ rfl (O4.out.alloc _) ⟨w4.heap.size + 1, 0, none⟩ 1 1 (Gr.cells ⟨ax, ay, sx, sy, r, mm, t, sp, hh⟩) rfl rfl (gr_new2 _ _ _ _) (cells_one _) (by unfold maxLen; omega) (by omega) (by simp; omega) ?_); intro v' w5 hown hgrow hnil; go_must (obtain ⟨b', c', rfl, hb', -⟩ := own_form hown (by omega)); have A5 := Lib.hid (blk_app A4.out O4.out neGH hgrow); have Z5 := Lib.hid (blk_app Z4.out O4.out neGH hgrow); have T5 := Lib.hid (T4.out.app O4.out neGS hgrow); have B5 := Lib.hid (show Below w.heap.size w w5 from (B4.out.alloc B4.out.size _).grown hgrow (by have := B4.out.size; simp at this ⊢; omega) (fun k hk => (O4.out.lt k hk).1)); have a5 := A5.out.cell 0; have af5 := A5.out.frozen 0; have O5 := Lib.hid hown; clear hown hgrow hnil))
        go_roundw
        case rel => exact ⟨_, k + 1, b', c', rfl, by omega, by go_num, HS2.out, A5.out.set_ 0 _, Z5.out.far (by show w.heap.size ≠ w.heap.size + 1 + 1; omega) _, by rw [← HSn.out, gcells_snoc]; exact own_far O5.out A5.out neGH 0 _, txt_far T5.out A5.out neHS 0 _, B5.out.setCell (by show w.heap.size ≤ w.heap.size + 1 + 1; omega) _⟩
        case measure => simp [intOf]; omega
    · have hk2 : k = n := by omega
      subst hk2
      have hO := HO.out
      rw [List.take_of_length_le (by rw [rowsGs_length, HPl.out]; exact Nat.le_refl _)] at hO
      have HO2 := Lib.hid hO
      have HGl := Lib.hid (show (rowsGs ps).length = k by rw [rowsGs_length, HPl.out])
      have ha := some_all (ps := ps) (by rw [HPl.out]; exact hS.out)
      have a0 := HA.out.cell 0
      clear hO hS
      by_cases h24 : k ≤ 24
      · have HY := Lib.hid (l02Give_yes bk k ck (rowsGs ps) W HGl.out (row_of_own HO2.out HGl.out) h24 (rgs_valid ha))
        have hF : rhF s.data.toList = some (rowsGs ps) := by rw [rhF_yes hn (by unfold rhOk; rw [hps, ha, decide_eq_true (by rw [HPl.out]; exact h24)]; rfl), hps]
        have HFF := Lib.hid hF
        clear ha hF
        go_wp2_with (go_at_call 17; ((with_reducible refine (HY.out).mono ?_); rintro e w4 ⟨rfl, hb⟩; have Z4 := Lib.hid (blk_next HZ.out hb); have z4 := Z4.out.cell 0; have zf4 := Z4.out.frozen 0; have O4 := Lib.hid (own_below HO2.out hb (Nat.le_refl _)); have B4 := Lib.hid (below_next HB.out hb); clear hb))
        refine bodyPost_ret (v := .tuple #[.agg #[.slice (some ⟨bk, 0, none⟩) k ck], .bool true]) (results_row_tmp Tryz.results9 _ _ w.heap.size 24 #[.slice (some ⟨bk, 0, none⟩) k ck] _ _ rfl (Z4.out.set_ 0 _) rfl Tryz.underlying24 rfl (by kernel_rfl)) rfl (rhEnd_yes HFF.out HGl.out (own_far O4.out Z4.out neGH 0 _) (B4.out.setCell (Nat.le_refl _) _))
      · have HY := Lib.hid (l02Give_long bk k ck W h24)
        have hF : rhF s.data.toList = none := by rw [rhF_no hn (by unfold rhOk; rw [hps, decide_eq_false (by rw [HPl.out]; exact h24), Bool.and_false])]
        have HFF := Lib.hid hF
        clear ha hF
        go_wp2_with (go_at_call 17; ((with_reducible refine (HY.out).mono ?_); rintro e w4 ⟨rfl, hb⟩; have Z4 := Lib.hid (blk_next HZ.out hb); have z4 := Z4.out.cell 0; have zf4 := Z4.out.frozen 0; have B4 := Lib.hid (below_next HB.out hb); clear hb))
        refine bodyPost_ret (v := .tuple #[.agg #[.slice none 0 0], .bool false]) (results_row_tmp Tryz.results9 _ _ w.heap.size 24 #[.slice none 0 0] _ _ rfl (Z4.out.set_ 0 _) rfl Tryz.underlying24 rfl (by kernel_rfl)) rfl (rhEnd_no HFF.out (B4.out.setCell (Nat.le_refl _) _))
theorem l08ReadHeap_of (s : ByteArray) (w : World) (hs : s.size ≤ 1048576) : Calls Tryz.prog 9 #[.string s] w (RhEnd (rhF s.data.toList) w) := by
  by_cases hn : s.data.toList = noneL
  · rw [rhF_none hn]; exact l08RH_none s w hn
  · exact l08RH_rows s w hs hn
set_option maxRecDepth 100000 in
set_option maxHeartbeats 1600000 in
theorem specReadHeap_of (s : ByteArray) (w : World) (hs : s.size ≤ 1048576) :
    Calls Tryz.prog 4 #[.string s] w (RhEnd (rhF s.data.toList) w) := by
  have HB0 := Lib.hid ((Below.refl w.heap.size w).alloc (Nat.le_refl _) (.cells #[.slice none 0 0] 24))
  have HC := Lib.hid fun w' => l08ReadHeap_of s w' hs
  have HZ := Lib.hid (blk_new w 24 #[.slice none 0 0] _ rfl)
  cases hr : rhF s.data.toList with
  | none =>
    rw [hr] at HC
    unfold RhEnd GaveRow at HC ⊢
    dsimp only [Option.getD_none, Option.isSome_none] at HC ⊢
    clear hr
    simp only [Bool.false_eq_true, if_false] at HC ⊢
    go_enter Tryz.func4, Tryz.ntmps4
    go_wp2_with (go_at_call 9; ((with_reducible refine (HC.out _).mono ?_); rintro e w2 ⟨rfl, hb⟩; have HZ2 := Lib.hid (blk_next HZ.out hb); have z0 := HZ2.out.cell 0; have zf := HZ2.out.frozen 0; have HB := Lib.hid (below_next HB0.out hb); clear hb))
    refine bodyPost_ret (v := .tuple #[.agg #[.slice none 0 0], .bool false]) (results_row_tmp Tryz.results4 _ _ w.heap.size 24 #[.slice none 0 0] _ _ rfl (HZ2.out.set_ 0 _) rfl Tryz.underlying24 rfl (by kernel_rfl)) rfl ⟨rfl, HB.out.setCell (Nat.le_refl _) _⟩
  | some gs =>
    rw [hr] at HC
    unfold RhEnd GaveRow at HC ⊢
    dsimp only [Option.getD_some, Option.isSome_some] at HC ⊢
    obtain ⟨n, hn⟩ : ∃ n, gs.length = n := ⟨_, rfl⟩
    simp only [if_true] at HC ⊢
    rw [hn] at HC ⊢
    clear hr hn
    go_enter Tryz.func4, Tryz.ntmps4
    go_wp2_with (go_at_call 9; ((with_reducible refine (HC.out _).mono ?_); rintro e w2 ⟨b, c, rfl, ho, hb⟩; have HO2 := Lib.hid (own_from ho HB0.out.size); have HZ2 := Lib.hid (blk_next HZ.out hb); have z0 := HZ2.out.cell 0; have zf := HZ2.out.frozen 0; have HB := Lib.hid (below_next HB0.out hb); clear ho hb))
    refine bodyPost_ret (v := .tuple #[.agg #[.slice (some ⟨b, 0, none⟩) n c], .bool true]) (results_row_tmp Tryz.results4 _ _ w.heap.size 24 #[.slice (some ⟨b, 0, none⟩) n c] _ _ rfl (HZ2.out.set_ 0 _) rfl Tryz.underlying24 rfl (by kernel_rfl)) rfl ⟨b, c, rfl, own_far HO2.out HZ2.out neGH 0 _, HB.out.setCell (Nat.le_refl _) _⟩
end Go.Proofs.YtljcgfgkfkoeeaaGreatDoor

namespace Go.Proofs.YtljcgfgkfkoeeaaGreatDoor.pFnExactReadHeap
open Fl Go.ChangeShapes Go.WideShapes Go.ChangeAt Go.WideMaps Go.WideElems Go.RowKit
open Go.ChangeMaps (open_string shut_string)

set_option maxHeartbeats 1600000 in
theorem walk_none (s : ByteArray) (w : World) (hsz : s.size ≤ 1048576)
    (hs : ∀ w, Calls Tryz.prog 4 #[.string s] w fun e w' => e = .returned (.tuple #[.agg #[.slice none 0 0], .bool false]) ∧ Below w.heap.size w w')
    (hi : ∀ W, Below w.heap.size w W → Calls Tryz.prog 5 #[.string s] W fun e w' => e = .returned (.tuple #[.agg #[.slice none 0 0], .bool false]) ∧ Below W.heap.size W w') :
    Calls Tryz.prog 3 #[.string s] w fun e w' => e = .returned (.bool true) ∧ Below w.heap.size w w' := by
  have HS := Lib.hid hs
  have HI := Lib.hid hi
  have HE := Lib.hid fun w => eqHeap_none w
  have HM := Lib.hid fun w => (show Calls Tryz.prog 7 #[.agg #[.slice none 0 0], .int .i64 1] w fun e w' => e = .returned (.int .i64 1) ∧ Below w.heap.size w w' from markHeap_none 1 w (by decide))
  have HH := Lib.hid fun w => (show Calls Tryz.prog 8 #[.agg #[.slice none 0 0], .int .i64 1] w fun e w' => e = .returned (.int .i64 1) ∧ Below w.heap.size w w' from heldHeap_none 1 w (by decide))
  have hs' : ¬ 1048576 < s.size := by omega
  clear hs hi
  go_enter Tryz.func3, Tryz.ntmps3
  go_wp2_with (go_at_call 4; ((with_reducible refine (HS.out _).mono ?_); rintro e w1 ⟨rfl, hb1⟩; have KA := Lib.hid (blk_new w1 24 #[.slice none 0 0] _ rfl); have K1 := Lib.hid (hb1.alloc hb1.size (.cells #[.slice none 0 0] 24)); clear hb1))
  go_wp2_with (go_at_call 5; ((with_reducible refine (HI.out _ K1.out).mono ?_); rintro e w2 ⟨rfl, hb2⟩; have cA := (blk_next KA.out hb2).cell 0; have lA := (blk_next KA.out hb2).lt; have KB := Lib.hid (blk_new w2 24 #[.slice none 0 0] _ rfl); have KA2 := Lib.hid ((blk_next KA.out hb2).alloc (.cells #[.slice none 0 0] 24)); have K2 := Lib.hid ((below_next K1.out hb2).alloc (below_next K1.out hb2).size (.cells #[.slice none 0 0] 24)); clear hb2))
  go_wp2_with (go_at_call 6; ((with_reducible refine (HE.out _).mono ?_); rintro e w3 ⟨rfl, hb3⟩; have cB3 := (blk_next KB.out hb3).cell 0; have KB3 := Lib.hid (blk_next KB.out hb3); have KA3 := Lib.hid (blk_next KA2.out hb3); have K3 := Lib.hid (below_next K2.out hb3); clear hb3))
  go_wp2_with (go_at_call 7; ((with_reducible refine (HM.out _).mono ?_); rintro e w4 ⟨rfl, hb4⟩; have cB4 := (blk_next KB3.out hb4).cell 0; have KB4 := Lib.hid (blk_next KB3.out hb4); have KA4 := Lib.hid (blk_next KA3.out hb4); have K4 := Lib.hid (below_next K3.out hb4); clear hb4))
  go_wp2_with (go_at_call 8; ((with_reducible refine (HH.out _).mono ?_); rintro e w5 ⟨rfl, hb5⟩; have KB5 := Lib.hid (blk_next KB4.out hb5); have KA5 := Lib.hid (blk_next KA4.out hb5); have K5 := Lib.hid (below_next K4.out hb5); clear hb5))
  go_wp2_with (go_at_call 5; ((with_reducible refine (HI.out _ K5.out).mono ?_); rintro e w6 ⟨rfl, hb6⟩; have cA6 := (blk_next KA5.out hb6).cell 0; have lA6 := (blk_next KA5.out hb6).lt; have KB6 := Lib.hid ((blk_next KB5.out hb6).alloc (.cells #[.slice none 0 0] 24)); have K6 := Lib.hid ((below_next K5.out hb6).alloc (below_next K5.out hb6).size (.cells #[.slice none 0 0] 24)); clear hb6))
  go_wp2_with (go_at_call 6; ((with_reducible refine (HE.out _).mono ?_); rintro e w7 ⟨rfl, hb7⟩; have cB7 := (blk_next KB6.out hb7).cell 0; have K7 := Lib.hid (below_next K6.out hb7); clear hb7))
  go_wp2_with (go_at_call 8; ((with_reducible refine (HH.out _).mono ?_); rintro e w8 ⟨rfl, hb8⟩; have K8 := Lib.hid (below_next K7.out hb8); clear hb8))
  go_ret
  exact ⟨rfl, K8.out⟩

theorem GrRow.alloc {w : World} {b : Nat} {gs : List Gr} (h : GrRow w b gs) (o : Obj) : GrRow (w.alloc o) b gs := h.below ((Below.refl w.heap.size w).alloc (Nat.le_refl _) o) (Nat.le_refl _)
theorem GrRow.next {w w' : World} {b : Nat} {gs : List Gr} (h : GrRow w b gs) (hb : Below w.heap.size w w') : GrRow w' b gs := h.below hb (Nat.le_refl _)
theorem GrRow.block {w w' : World} {b B : Nat} {gs : List Gr} (h : GrRow w b gs) (hb : Below B w w') (hB : b < B) : GrRow w' b gs := by
  intro i hi
  have key : ∀ {o : Nat} {v : Value}, w.cell? ⟨b, o, none⟩ = some v → w'.cell? ⟨b, o, none⟩ = some v := fun {o v} hc => by
    rw [hb.cell (p := ⟨b, o, none⟩) hB]; exact hc
  obtain ⟨c0, c1, c2, c3, c4, c5, c6⟩ := h i hi
  exact ⟨key c0, key c1, key c2, key c3, key c4, key c5, key c6⟩
theorem marked_all (gs : List Gr) (n : Nat) (hl : gs.length = n) : (marked gs 1 n).length = n ∧ ∀ j, j < n → (marked gs 1 n).getD j default = mkd (1 + 7 * j) := by
  refine ⟨by rw [marked_length gs 1 n (by omega), hl], fun j hj => ?_⟩
  unfold marked
  rw [List.getD_eq_getElem?_getD, List.getElem?_append_left (by simp; exact hj), List.getElem?_map, List.getElem?_range hj]
  rfl

/-- what both sides give where the row is valid -/
def GaveGs (gs : List Gr) (n : Nat) (w : World) (e : Ending) (w' : World) : Prop := ∃ b c, e = .returned (.tuple #[.agg #[.slice (some ⟨b, 0, none⟩) n c], .bool true]) ∧ w'.ownsRow w.heap.size 39 7 (.slice (some ⟨b, 0, none⟩) n c) n (gcells gs) ∧ Below w.heap.size w w'

set_option maxHeartbeats 3200000 in
theorem walk_some (s : ByteArray) (n : Nat) (gs : List Gr) (w : World) (hsz : s.size ≤ 1048576) (hl : gs.length = n) (hn : n ≤ 24) (hv : gs.all Gr.valid = true)
    (hs : ∀ w, Calls Tryz.prog 4 #[.string s] w (GaveGs gs n w))
    (hi : ∀ W, Below w.heap.size w W → Calls Tryz.prog 5 #[.string s] W (GaveGs gs n W)) :
    Calls Tryz.prog 3 #[.string s] w fun e w' => e = .returned (.bool true) ∧ Below w.heap.size w w' := by
  obtain ⟨M, hM⟩ : ∃ M : Nat, M = 1 + 7 * n := ⟨_, rfl⟩
  have HS := Lib.hid hs
  have HI := Lib.hid hi
  have HE := Lib.hid fun b1 b2 c1 c2 W h1 h2 => eqHeap_self b1 b2 n c1 c2 gs W hl h1 h2 hv hn
  have HM := Lib.hid fun base b c W ho hb => (show Calls Tryz.prog 7 #[.agg #[.slice (some ⟨b, 0, none⟩) n c], .int .i64 1] W fun e w' => e = .returned (.int .i64 (M : Int)) ∧
      w'.ownsRow base 39 7 (.slice (some ⟨b, 0, none⟩) n c) n (gcells (marked gs 1 n)) ∧ (∀ B w0, Below B w0 W → B ≤ b → Below B w0 w') ∧ (∀ g' t cs, Blk W g' t cs → g' ≠ b → Blk w' g' t cs) by rw [hM]; exact markHeap_of base b n c 1 gs W hl ho (by omega) hb)
  have HA := marked_all gs n hl
  have HH := Lib.hid fun b c W hr => (show Calls Tryz.prog 8 #[.agg #[.slice (some ⟨b, 0, none⟩) n c], .int .i64 1] W fun e w' => e = .returned (.int .i64 (M : Int)) ∧ Below W.heap.size W w' by rw [hM]; exact heldHeap_of b n c 1 (marked gs 1 n) W HA.1 hr HA.2 (by omega))
  have HL := Lib.hid hl
  have HA1 := Lib.hid HA.1
  have hs' : ¬ 1048576 < s.size := by omega
  clear hs hi hl hv hM HA
  go_enter Tryz.func3, Tryz.ntmps3
  go_wp2_with (go_at_call 4; (go_must ((with_reducible refine (HS.out _).mono ?_)); go_must (rintro e w1 ⟨bS, cS, rfl, ho1, hb1⟩); go_must (have RS1 := Lib.hid (GrRow.alloc (row_of_own ho1 HL.out) (.cells #[.slice (some ⟨bS, 0, none⟩) n cS] 24))); go_must (have lS := (ho1.lt bS rfl).2); have KA := Lib.hid (blk_new w1 24 #[.slice (some ⟨bS, 0, none⟩) n cS] _ rfl); have K1 := Lib.hid (hb1.alloc hb1.size (.cells #[.slice (some ⟨bS, 0, none⟩) n cS] 24)); clear hb1 ho1))
  go_wp2_with (go_at_call 5; ((with_reducible refine (HI.out _ K1.out).mono ?_); rintro e w2 ⟨bG, cG, rfl, ho2, hb2⟩; have cA := (blk_next KA.out hb2).cell 0; have lA := (blk_next KA.out hb2).lt; have KB := Lib.hid (blk_new w2 24 #[.slice (some ⟨bG, 0, none⟩) n cG] _ rfl); have KA2 := Lib.hid ((blk_next KA.out hb2).alloc (.cells #[.slice (some ⟨bG, 0, none⟩) n cG] 24)); have K2 := Lib.hid ((below_next K1.out hb2).alloc (below_next K1.out hb2).size (.cells #[.slice (some ⟨bG, 0, none⟩) n cG] 24)); have RS2 := Lib.hid (GrRow.alloc (GrRow.next RS1.out hb2) (.cells #[.slice (some ⟨bG, 0, none⟩) n cG] 24)); have OG2 := Lib.hid (ho2.alloc (.cells #[.slice (some ⟨bG, 0, none⟩) n cG] 24)); have lG := Lib.hid (ho2.lt bG rfl); clear hb2 ho2))
  go_wp2_with (go_at_call 6; ((with_reducible refine (HE.out _ _ _ _ _ (row_of_own OG2.out HL.out) RS2.out).mono ?_); rintro e w3 ⟨rfl, hb3⟩; have cB3 := (blk_next KB.out hb3).cell 0; have KB3 := Lib.hid (blk_next KB.out hb3); have KA3 := Lib.hid (blk_next KA2.out hb3); have K3 := Lib.hid (below_next K2.out hb3); have RS3 := Lib.hid (GrRow.next RS2.out hb3); have OG3 := Lib.hid (own_below OG2.out hb3 (Nat.le_refl _)); clear hb3))
  go_wp2_with (go_at_call 7; ((with_reducible refine (HM.out _ _ _ _ OG3.out (by have h1 := KB3.out.lt; have h2 := lG.out.2; omega)).mono ?_); rintro e w4 ⟨rfl, ho4, hx4, hk4⟩; have cB4 := (hk4 _ _ _ KB3.out (by have h2 := lG.out.2; omega)).cell 0; have KB4 := Lib.hid (hk4 _ _ _ KB3.out (by have h2 := lG.out.2; omega)); have KA4 := Lib.hid (hk4 _ _ _ KA3.out (by have h2 := lG.out.1; simp at h2; omega)); have K4 := Lib.hid (hx4 _ _ K3.out (by have h2 := lG.out.1; have h3 := K1.out.size; simp at h2 h3; omega)); have RS4 := Lib.hid (GrRow.block RS3.out (hx4 (bS + 1) w3 (Below.refl _ _) (by have h2 := lG.out.1; simp at h2; omega)) (Nat.lt_succ_self _)); have RG4 := Lib.hid (row_of_own ho4 HA1.out); clear ho4 hx4 hk4))
  go_wp2_with (go_at_call 8; ((with_reducible refine (HH.out _ _ _ RG4.out).mono ?_); rintro e w5 ⟨rfl, hb5⟩; have KB5 := Lib.hid (blk_next KB4.out hb5); have KA5 := Lib.hid (blk_next KA4.out hb5); have K5 := Lib.hid (below_next K4.out hb5); have RS5 := Lib.hid (GrRow.next RS4.out hb5); have RG5 := Lib.hid (GrRow.next RG4.out hb5); clear hb5))
  go_wp2_with (go_at_call 5; ((with_reducible refine (HI.out _ K5.out).mono ?_); rintro e w6 ⟨bH, cH, rfl, ho6, hb6⟩; have cA6 := (blk_next KA5.out hb6).cell 0; have lA6 := (blk_next KA5.out hb6).lt; have KB6 := Lib.hid ((blk_next KB5.out hb6).alloc (.cells #[.slice (some ⟨bH, 0, none⟩) n cH] 24)); have K6 := Lib.hid ((below_next K5.out hb6).alloc (below_next K5.out hb6).size (.cells #[.slice (some ⟨bH, 0, none⟩) n cH] 24)); have RS6 := Lib.hid (GrRow.alloc (GrRow.next RS5.out hb6) (.cells #[.slice (some ⟨bH, 0, none⟩) n cH] 24)); have RG6 := Lib.hid (GrRow.alloc (GrRow.next RG5.out hb6) (.cells #[.slice (some ⟨bH, 0, none⟩) n cH] 24)); have RH6 := Lib.hid (GrRow.alloc (row_of_own ho6 HL.out) (.cells #[.slice (some ⟨bH, 0, none⟩) n cH] 24)); clear hb6 ho6))
  go_wp2_with (go_at_call 6; ((with_reducible refine (HE.out _ _ _ _ _ RH6.out RS6.out).mono ?_); rintro e w7 ⟨rfl, hb7⟩; have cB7 := (blk_next KB6.out hb7).cell 0; have K7 := Lib.hid (below_next K6.out hb7); have RG7 := Lib.hid (GrRow.next RG6.out hb7); clear hb7))
  go_wp2_with (go_at_call 8; ((with_reducible refine (HH.out _ _ _ RG7.out).mono ?_); rintro e w8 ⟨rfl, hb8⟩; have K8 := Lib.hid (below_next K7.out hb8); clear hb8))
  go_ret
  exact ⟨rfl, K8.out⟩

set_option maxHeartbeats 1600000 in
theorem walk (s : ByteArray) (w : World) (m : Int) (p : Value) (_hz : s.size ≤ maxLen) (hE : Env w m p) :
    Calls Tryz.prog 3 #[.string s] w fun e w' => e = .returned (.bool true) ∧ Below w.heap.size w w' := by
  by_cases hs : s.size ≤ 1048576
  · have HS := fun w' => specReadHeap_of s w' hs
    have HI := fun w' hb => implReadHeap_of s w' m p hs (hE.below (w' := w') hb)
    cases hr : rhF s.data.toList with
    | none =>
      rw [hr] at HS HI
      exact walk_none s w hs HS HI
    | some gs =>
      rw [hr] at HS HI
      obtain ⟨h1, h2⟩ := rhF_valid hr
      exact walk_some s gs.length gs w hs rfl h2 h1 HS HI
  · clear hE
    go_enter Tryz.func3, Tryz.ntmps3
    go_wp2
    go_ret
    exact ⟨rfl, Below.refl _ _⟩
theorem laidOut : laidOutB Tryz.prog = true := by kernel_rfl
theorem own : ownKnob Tryz.prog.godebug = none := by kernel_rfl
def db64 : List Int := [0, 1, 56, 2, 57, 49, 28, 3, 61, 58, 42, 50, 38, 29, 17, 4, 62, 47, 59, 36, 45, 43, 51, 22, 53, 39, 33, 30, 24, 18, 12, 5, 63, 55, 48, 27, 60, 41, 37, 16, 46, 35, 44, 21, 52, 32, 23, 11, 54, 26, 40, 15, 34, 20, 31, 10, 25, 14, 19, 9, 13, 8, 7, 6]
theorem gDb : Tryz.prog.globalNamed "math/bits.deBruijn64tab" = some 9 := by kernel_rfl
theorem tDb : (Tryz.prog.globals[9]?).map (·.type) = some 160 := by kernel_rfl
theorem gSyn : Tryz.prog.globalNamed "strconv.ErrSyntax" = some 5 := by kernel_rfl
theorem tSyn : (Tryz.prog.globals[5]?).map (·.type) = some 44 := by kernel_rfl
theorem gRan : Tryz.prog.globalNamed "strconv.ErrRange" = some 6 := by kernel_rfl
theorem tRan : (Tryz.prog.globals[6]?).map (·.type) = some 44 := by kernel_rfl
theorem star : "*" ++ "errors.errorString" = "*errors.errorString" := by decide
theorem rowE (u : TypeId) (h : Tryz.prog.typeName? 3 u = some "*errors.errorString") : u = 145 :=
  typeName_ptr_named (nm := "errors.errorString") (by rw [star]; kernel_rfl) (by kernel_rfl) (by decide) u (by rw [star]; exact h)
theorem gRef : Tryz.prog.globalNamed "loop.example/g01268/impl.errRefused" = some 0 := by kernel_rfl
theorem tRef : (Tryz.prog.globals[0]?).map (·.type) = some 44 := by kernel_rfl
theorem of_laid {W : World} (h : laidMetH Tryz.prog Rows.fnExactReadHeapRow.laid W) : Tz W ∧ (∀ w', Below W.heap.size W w' → Errs w') ∧ ∃ p, Ref W p := by
  rw [MakeChecks.laidMetH_plain _ _ _ (by kernel_rfl)] at h
  have h2 := (laidMet.tail (laidMet.tail h))
  have h1 := laidMet.tail h
  have ht : Lib.TabIs Tryz.prog W "math/bits.deBruijn64tab" .u8 db64 := Lib.tabIs_of_head gDb tDb Tryz.underlying160 Tryz.underlying5 (by kernel_rfl) (by kernel_rfl) h1
  refine ⟨ht.cell gDb 15 (by decide), ?_⟩
  obtain ⟨a0, s0, hv0, -, -, -⟩ := laid_sentinel h2.tail.tail gRan tRan Tryz.underlying44 rowE Tryz.underlying145 Tryz.underlying147 rfl rfl Tryz.underlying9 (by kernel_rfl) (by kernel_rfl)
  obtain ⟨a1, s1, hv1, -, -, -⟩ := laid_sentinel h2.tail.tail.tail gSyn tSyn Tryz.underlying44 rowE Tryz.underlying145 Tryz.underlying147 rfl rfl Tryz.underlying9 (by kernel_rfl) (by kernel_rfl)
  obtain ⟨a2, s2, hv2, -, -, -⟩ := laid_sentinel h2.tail.tail.tail.tail gRef tRef Tryz.underlying44 rowE Tryz.underlying145 Tryz.underlying147 rfl rfl Tryz.underlying9 (by kernel_rfl) (by kernel_rfl)
  exact ⟨fun w' hb => ⟨_, _, _, _, Joins.var_stays gSyn hv1 hb (Nat.le_refl _), Joins.var_stays gRan hv0 hb (Nat.le_refl _)⟩, .pointer (some a2), by simpa [Ref] using World.var?_cell gRef hv2 0⟩

theorem maxLenCell {W : World} (h : W.ShapedOpen Tryz.prog) : ∃ m, W.cell? ⟨2, 0, none⟩ = some (.int .i64 m) :=
  cell_of_shapedOpen_int (g := 2) (zero := #[.int .i64 0]) (t := 3) h (of_decide_eq_true (by kernel_rfl)) (by kernel_rfl) rfl (by kernel_rfl) (by kernel_rfl) Tryz.underlying3

set_option maxRecDepth 100000 in
theorem lifted (os : Os) (started : os.Started) (H : Type) (enc : TypeId × Value → H) :
    ReturnsInHanded {} Tryz.checked os 3 .any (fun w args => (Rows.fnExactReadHeapSpec.pre enc Tryz.prog Tryz.f3 [] false w args ∧ laidMetH Tryz.prog Rows.fnExactReadHeapRow.laid w) ∧ sizedMet enc Tryz.prog Tryz.f3 (OpenSpec.ofChange Rows.fnExactReadHeapSpec) false w args)
      (Rows.fnExactReadHeapSpec.post enc Tryz.prog Tryz.f3 false true false false) := by
  refine returnsInHanded_of_calls own started (by kernel_rfl)
    (ChangeSpec.witness_shaped (enc := enc) (C := Tryz.checked) (os := os) (X := fun w _ => laidMetH Tryz.prog Rows.fnExactReadHeapRow.laid w) false (World.laidAll Tryz.prog os Rows.fnExactReadHeapRow.laid) #[.string ByteArray.empty] 8 (World.laidAll_os _ _ _)
      (World.shaped_of_ZipB (by kernel_rfl) (by kernel_rfl)) (by kernel_rfl) (by kernel_rfl) (by kernel_rfl)
      (by rw [MakeChecks.laidMetH_plain _ _ _ (by kernel_rfl)]; exact laidMet_laidAll _ (by kernel_rfl) (by kernel_rfl))) ?_
  intro w0 tape i _ hshape _ hok hpre _
  obtain ⟨_, _, _, fn', hfn', _, _, _, _, hval0⟩ := hok
  obtain rfl : fn' = Tryz.f3 := Option.some.inj (hfn'.symm.trans Tryz.func3)
  obtain ⟨⟨⟨ds, gs, before, hw0, hc⟩, hx⟩, hz⟩ := hpre
  have hW := DataW.Whole.of_heap (w' := w0.forCall tape i) (by rfl) hw0
  have hL : laidMetH Tryz.prog Rows.fnExactReadHeapRow.laid (w0.forCall tape i) := hx.of_heap (by rfl)
  generalize hWW : w0.forCall tape i = W at hval0 hW hL hshape ⊢
  generalize i.args = args at hval0 hW ⊢
  suffices hcalls : Calls Tryz.prog 3 args W fun e W' => ∃ v, e = .returned v ∧ Rows.fnExactReadHeapSpec.post enc Tryz.prog Tryz.f3 false true false false W args v W' by
    refine hcalls.mono fun e W' ⟨v, he, hp⟩ => ?_
    subst he
    subst hWW
    exact ChangeSpec.post_blind hp
  have hval : ∀ (j : Nat) t v, Tryz.f3.params[j]? = some t → args[j]? = some v → Value.okWide Tryz.prog W .any w0.heap.size t v := hval0
  have hW' := hW
  obtain ⟨p, q, hA0, hV, rfl, hfz, hnd⟩ := hW
  have hA : DataW.TrodAll enc Tryz.prog W 0 (fun _ => true) true Tryz.f3.params.toList args.toList ds p := hA0
  rw [Tryz.params3] at hA hval
  obtain ⟨v0, d0, rfl, rfl, h0⟩ := trodAll_one hA
  have hV2 := hV
  obtain ⟨gv, tv, cv, fv, dv, pv0, rfl, hv1, hv2, hv3, hv4, hv5⟩ := trodVars_one hV
  clear hV hv1 hv2 hv3 hv4 hv5
  obtain ⟨a0, rfl, rfl, rfl, wf0⟩ := open_string Tryz.underlying9 (hval 0 9 v0 rfl rfl) h0
  clear hA0 hval0
  obtain ⟨m, hm⟩ := maxLenCell hshape
  obtain ⟨hl1, hl2, pv, hl3⟩ := of_laid hL
  refine (walk a0 W m pv wf0 ⟨hm, hl1, hl2, hl3⟩).mono fun e W' ⟨he, hb⟩ => ?_
  subst he
  exact ⟨_, rfl, _, _, _, [], _, _, hW', trodAll_mk1 (shut_bool Tryz.underlying4 _), trodAll_mk1 (shut_string Tryz.underlying9 wf0), Below.trodVars laidOut hb (by kernel_rfl) hV2, hb.frame _, fun h => by cases h⟩

theorem fnExactReadHeap_holds : Rows.FnExactReadHeapSaid :=
  OpenClaim.holds_of_wide 3 Tryz.f3 rfl rfl rfl rfl rfl rfl rfl ⟨rfl, rfl, rfl, rfl, rfl⟩ rfl rfl rfl rfl rfl (by kernel_rfl) Tryz.func3 (by kernel_rfl)
    (of_decide_eq_true (by kernel_rfl)) (by unfold Func.isWrapper; rw [if_neg (of_decide_eq_false (by kernel_rfl))]; exact ⟨rfl, rfl⟩)
    (fun os started H enc _ => lifted os started H enc)

theorem card_holds : Rows.FnExactReadHeapCardSaid :=
  Claim7.holds_tied_plain_at .later [] [.data, .data, .data, .data, .sentinel, .sentinel, .sentinel, .pinned] true Rows.fnExactReadHeapCard.stood.harness Rows.fnExactReadHeapCard.stood.looks
    fnExactReadHeap_holds (fun _ h => by cases h) (by kernel_rfl) (fun _ h => by cases h) fnExactReadHeap_row_tie rfl ⟨rfl, rfl⟩ (by kernel_rfl) rfl
    (fun f fn hf hfn => by
      obtain rfl : f = 3 := Option.some.inj ((show Tryz.prog.funcNamed "loop.example/g01268/laws.FnExactReadHeap" = some 3 by kernel_rfl).symm.trans hf) |>.symm
      obtain rfl : fn = Tryz.f3 := (Option.some.inj (Tryz.func3.symm.trans hfn)).symm
      exact ⟨by kernel_rfl, fun j t ht => by
        rw [Tryz.params3] at ht
        have hm : t ∈ [9] := by simpa using Array.mem_of_getElem? ht
        have hall : ([9].all fun u => !Tryz.prog.wantsStandIn u) = true := by kernel_rfl
        exact (show Tryz.prog.wantsStandIn t = false by simpa using List.all_eq_true.1 hall t hm)⟩)
    (by kernel_rfl)

end Go.Proofs.YtljcgfgkfkoeeaaGreatDoor.pFnExactReadHeap
