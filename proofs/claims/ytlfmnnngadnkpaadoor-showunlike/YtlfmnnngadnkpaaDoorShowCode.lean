/- What Task and Text of package show answer. -/
import Derived.Test.YtlfmnnngadnkpaaDoorShowCodeA
import Derived.Test.YtlfmnnngadnkpaaDoorParseRef3
namespace Go.Proofs.YtlfmnnngadnkpaaDoor.Lex
open Go.ChangeShapes Go.WideShapes Go.RowKit

/- a task's words, one behind the other -/
def taskL (t : TaskV) : List (List UInt8) := [wTask, t.name.data.toList, wPeriod, digs t.T.toNat, wDeadline, digs t.D.toNat] ++ modeL t ++ [wRegions] ++ t.regs.map (fun n => digs n.toNat) ++ rowL wEcb t.ecb.toNat ++ rowL wUcb t.ucb.toNat
theorem tl_cons (x : List UInt8) (r : List (List UInt8)) : Lib.joinTail [32] (x :: r) = 32 :: x ++ Lib.joinTail [32] r := rfl
theorem tl_app (a b : List (List UInt8)) : Lib.joinTail [32] (a ++ b) = Lib.joinTail [32] a ++ Lib.joinTail [32] b := by simp [Lib.joinTail]
theorem tl_nil : Lib.joinTail [32] [] = [] := rfl
theorem tl_row : ∀ l : List Nat, Lib.joinTail [32] (l.map digs) = rowT l
  | [] => rfl
  | n :: l => by rw [List.map_cons, tl_cons, tl_row l]; rfl
theorem tl_mode (t : TaskV) : Lib.joinTail [32] (modeL t) = modeT t := by
  unfold modeL modeT
  split
  · simp [tl_cons, tl_nil]
  · split <;> simp [tl_cons, tl_nil]
theorem tl_sets (word : List UInt8) (n : Nat) : Lib.joinTail [32] (rowL word n) = setsT word n := by
  unfold rowL setsT
  split
  · rfl
  · rw [tl_cons, tl_row]
theorem task_join (t : TaskV) : Lib.join (taskL t) [32] ++ [59] = taskT t := by
  have e : t.regs.map (fun n => digs n.toNat) = (t.regs.map Int.toNat).map digs := by rw [List.map_map]; rfl
  unfold taskL
  rw [e]
  simp only [List.cons_append, List.nil_append, Lib.join_cons, tl_cons, tl_app, tl_row, tl_mode, tl_sets, taskT, List.append_assoc]
theorem mode_len (t : TaskV) : (modeL t).length ≤ 2 := by
  unfold modeL
  split
  · decide
  · split <;> simp
theorem sets_len (word : List UInt8) (n : Nat) : (rowL word n).length ≤ 65 := by
  unfold rowL
  have : (Bits.bl n).length ≤ 64 := Bits.blTo_len _ _
  split
  · simp
  · simp; omega
theorem regs_next {l : List Int} {k : Nat} (h : k < l.length) (L : List (List UInt8)) : (L ++ (l.take k).map fun n => digs n.toNat) ++ [digs (l.getD k 0).toNat] = L ++ (l.take (k + 1)).map fun n => digs n.toNat := by
  have e : l.take (k + 1) = l.take k ++ [l.getD k 0] := by rw [List.take_add_one, List.getElem?_eq_getElem h, List.getD_eq_getElem?_getD, List.getElem?_eq_getElem h]; rfl
  rw [e, List.map_append, List.append_assoc]
  rfl
theorem bel_up {B : Nat} {a b c : World} (h : Below B a b) (hB : B ≤ b.heap.size) (k : Below b.heap.size b c) : Below B a c := h.trans (k.mono hB)
set_option maxHeartbeats 3200000 in
set_option maxRecDepth 100000 in
theorem code_STask : CShowTask := by
  intro t p w hP ht hf hp
  obtain ⟨-, hr1, hr8, hre, ⟨hD, hDT, hT⟩, -⟩ := fits_parts hf.is
  have HP := hide (fun w' (hB : Below w.heap.size w w') => hP.bel hB)
  have HREG := hide ht.regs
  have HRE := hide hre
  have hTn : ((t.T.toNat : Nat) : Int) = t.T := by omega
  have hDn : ((t.D.toNat : Nat) : Int) = t.D := by omega
  have CT := hide (fun w hP => num_any t.T.toNat (by omega) w hP)
  have CD := hide (fun w hP => num_any t.D.toNat (by omega) w hP)
  rw [hTn] at CT
  rw [hDn] at CD
  have CM := hide (fun w hP => mode_any t p w hP hf hp)
  have CE := hide (fun w hP => row_any wEcb t.ecb w hP hf.ecb)
  have CU := hide (fun w hP => row_any wUcb t.ucb w hP hf.ucb)
  have zM := mode_len t
  have zE := sets_len wEcb t.ecb.toNat
  have zU := sets_len wUcb t.ucb.toNat
  have zT := task_len hf hp
  rw [← task_join] at zT ⊢
  have HJ : Hid (taskL t = [wTask, t.name.data.toList, wPeriod, digs t.T.toNat, wDeadline, digs t.D.toNat] ++ modeL t ++ [wRegions] ++ t.regs.map (fun n => digs n.toNat) ++ rowL wEcb t.ecb.toNat ++ rowL wUcb t.ucb.toNat) := rfl
  generalize taskL t = TL at *
  generalize modeL t = ML at *
  generalize rowL wEcb t.ecb.toNat = EL at *
  generalize rowL wUcb t.ucb.toNat = UL at *
  obtain ⟨dT, hdT⟩ : ∃ dT, dT = mkS (digs t.T.toNat) := ⟨_, rfl⟩
  obtain ⟨dD, hdD⟩ : ∃ dD, dD = mkS (digs t.D.toNat) := ⟨_, rfl⟩
  rw [← hdT] at CT
  rw [← hdD] at CD
  have hL0 : [Value.string ⟨#[116, 97, 115, 107]⟩, .string t.name, .string ⟨#[112, 101, 114, 105, 111, 100]⟩, .string dT, .string ⟨#[100, 101, 97, 100, 108, 105, 110, 101]⟩, .string dD] = strs [wTask, t.name.data.toList, wPeriod, digs t.T.toNat, wDeadline, digs t.D.toNat] := by
    have hn : mkS t.name.data.toList = t.name := mkS_bl t.name
    rw [hdT, hdD]; simp only [strs, List.map_cons, List.map_nil, hn]; rfl
  obtain ⟨L0, e0⟩ : ∃ L0, L0 = [wTask, t.name.data.toList, wPeriod, digs t.T.toNat, wDeadline, digs t.D.toNat] := ⟨_, rfl⟩
  have n0 : L0.length = 6 := by rw [e0]; rfl
  rw [← e0] at HJ hL0
  have HL0 := hide hL0
  clear e0 hL0 hdT hdD hre hTn hDn hT hD hDT hf ht hP
  have hbox := box_new w t 30
  have B1 : Hid (Below w.heap.size w (w.alloc (.cells #[.string t.name, .int .i64 t.T, .int .i64 t.D, .int .i64 t.mode, .int .i64 t.Q, .int .i64 t.theta, .slice t.ao t.regs.length t.cap, .int .u64 t.ecb, .int .u64 t.ucb] 30))) := (Below.refl _ _).alloc (Nat.le_refl _) _
  have V0 : Hid (Below (w.alloc (.cells #[.string t.name, .int .i64 t.T, .int .i64 t.D, .int .i64 t.mode, .int .i64 t.Q, .int .i64 t.theta, .slice t.ao t.regs.length t.cap, .int .u64 t.ecb, .int .u64 t.ucb] 30)).heap.size (w.alloc (.cells #[.string t.name, .int .i64 t.T, .int .i64 t.D, .int .i64 t.mode, .int .i64 t.Q, .int .i64 t.theta, .slice t.ao t.regs.length t.cap, .int .u64 t.ecb, .int .u64 t.ucb] 30)) (w.alloc (.cells #[.string t.name, .int .i64 t.T, .int .i64 t.D, .int .i64 t.mode, .int .i64 t.Q, .int .i64 t.theta, .slice t.ao t.regs.length t.cap, .int .u64 t.ecb, .int .u64 t.ucb] 30))) := Below.refl _ _
  obtain ⟨BB, hBB⟩ : ∃ BB, BB = (w.alloc (.cells #[.string t.name, .int .i64 t.T, .int .i64 t.D, .int .i64 t.mode, .int .i64 t.Q, .int .i64 t.theta, .slice t.ao t.regs.length t.cap, .int .u64 t.ecb, .int .u64 t.ucb] 30)).heap.size := ⟨_, rfl⟩
  have XB := hide (fun x (h : Below BB (w.alloc (.cells #[.string t.name, .int .i64 t.T, .int .i64 t.D, .int .i64 t.mode, .int .i64 t.Q, .int .i64 t.theta, .slice t.ao t.regs.length t.cap, .int .u64 t.ecb, .int .u64 t.ucb] 30)) x) => bel_box (Below.refl _ w) (hBB ▸ h))
  have X1 := hide (fun x (h : Below BB (w.alloc (.cells #[.string t.name, .int .i64 t.T, .int .i64 t.D, .int .i64 t.mode, .int .i64 t.Q, .int .i64 t.theta, .slice t.ao t.regs.length t.cap, .int .u64 t.ecb, .int .u64 t.ucb] 30)) x) => hbox.bel (hBB ▸ h))
  have SZ := hide (fun x (h : Below BB (w.alloc (.cells #[.string t.name, .int .i64 t.T, .int .i64 t.D, .int .i64 t.mode, .int .i64 t.Q, .int .i64 t.theta, .slice t.ao t.regs.length t.cap, .int .u64 t.ecb, .int .u64 t.ucb] 30)) x) => Nat.le_trans (Nat.le_of_eq hBB) h.size)
  have VB := hide (fun x (h : Below (w.alloc (.cells #[.string t.name, .int .i64 t.T, .int .i64 t.D, .int .i64 t.mode, .int .i64 t.Q, .int .i64 t.theta, .slice t.ao t.regs.length t.cap, .int .u64 t.ecb, .int .u64 t.ucb] 30)).heap.size (w.alloc (.cells #[.string t.name, .int .i64 t.T, .int .i64 t.D, .int .i64 t.mode, .int .i64 t.Q, .int .i64 t.theta, .slice t.ao t.regs.length t.cap, .int .u64 t.ecb, .int .u64 t.ucb] 30)) x) => (hBB ▸ h : Below BB (w.alloc (.cells #[.string t.name, .int .i64 t.T, .int .i64 t.D, .int .i64 t.mode, .int .i64 t.Q, .int .i64 t.theta, .slice t.ao t.regs.length t.cap, .int .u64 t.ecb, .int .u64 t.ucb] 30)) x))
  clear hBB
  go_enter Tryd.func8, Tryd.ntmps8
  simp only [TaskV.val, TaskV.cells]
  have D0 := hide (unhide B1).drew
  have VD := hide (unhide V0).drew
  go_wp2_with fail
  refine wp_region_held_drew (S := (fun w9 => Box w9 w.heap.size t)) (by kernel_rfl) (hbox.drew) (fun hHeld => ?_)
  refine take_yes 0 6 (.pointer (some ⟨w.heap.size, 0, none⟩)) rfl rfl (by kernel_rfl) (by kernel_rfl) (by kernel_rfl) (fun _ _ _ h => h) rfl (by assumption) (by intro w9 hS9; obtain ⟨s0, s1, s2, s3, s4, s5, s6, s7, s8⟩ := hS9; go_simp) ?_
  simp only [List.setIfInBounds_toArray, List.set_cons_zero, List.set_cons_succ]
  refine take_yes 1 7 (.string t.name) rfl rfl (by kernel_rfl) (by kernel_rfl) (by kernel_rfl) (fun _ _ _ h => h) rfl (by assumption) (by intro w9 hS9; obtain ⟨s0, s1, s2, s3, s4, s5, s6, s7, s8⟩ := hS9; go_simp) ?_
  simp only [List.setIfInBounds_toArray, List.set_cons_zero, List.set_cons_succ]
  refine take_yes 2 8 (.pointer (some ⟨w.heap.size, 1, none⟩)) rfl rfl (by kernel_rfl) (by kernel_rfl) (by kernel_rfl) (fun _ _ _ h => h) rfl (by assumption) (by intro w9 hS9; obtain ⟨s0, s1, s2, s3, s4, s5, s6, s7, s8⟩ := hS9; go_simp) ?_
  simp only [List.setIfInBounds_toArray, List.set_cons_zero, List.set_cons_succ]
  refine take_yes 3 9 (.int .i64 t.T) rfl rfl (by kernel_rfl) (by kernel_rfl) (by kernel_rfl) (fun _ _ _ h => h) rfl (by assumption) (by intro w9 hS9; obtain ⟨s0, s1, s2, s3, s4, s5, s6, s7, s8⟩ := hS9; go_simp) ?_
  simp only [List.setIfInBounds_toArray, List.set_cons_zero, List.set_cons_succ]
  refine take_yes 5 11 (.pointer (some ⟨w.heap.size, 2, none⟩)) rfl rfl (by kernel_rfl) (by kernel_rfl) (by kernel_rfl) (fun _ _ _ h => h) rfl (by assumption) (by intro w9 hS9; obtain ⟨s0, s1, s2, s3, s4, s5, s6, s7, s8⟩ := hS9; go_simp) ?_
  simp only [List.setIfInBounds_toArray, List.set_cons_zero, List.set_cons_succ]
  refine take_yes 6 12 (.int .i64 t.D) rfl rfl (by kernel_rfl) (by kernel_rfl) (by kernel_rfl) (fun _ _ _ h => h) rfl (by assumption) (by intro w9 hS9; obtain ⟨s0, s1, s2, s3, s4, s5, s6, s7, s8⟩ := hS9; go_simp) ?_
  simp only [List.setIfInBounds_toArray, List.set_cons_zero, List.set_cons_succ]
  refine wpAnyH_ready (rs := [4]) (by kernel_rfl) (by decide) (AllReadyH.cons rfl (fun K hK => ?_) AllReadyH.nil)
  refine (if_pos rfl).mpr ?_
  go_wp2_with fail
  refine (unhide CT (w.alloc (.cells #[.string t.name, .int .i64 t.T, .int .i64 t.D, .int .i64 t.mode, .int .i64 t.Q, .int .i64 t.theta, .slice t.ao t.regs.length t.cap, .int .u64 t.ecb, .int .u64 t.ucb] 30)).drew (unhide HP _ (unhide D0))).mono ?_
  rintro e x1 ⟨rfl, bel⟩
  have N1 := hide (below_on (unhide D0) bel)
  have V1 := hide (below_on (unhide VD) bel)
  refine hK.out _ _ (hHeld.bel bel) (fun hHeld => ?_)
  clear hK K bel
  refine wpAnyH_ready (rs := [7]) (by kernel_rfl) (by decide) (AllReadyH.cons rfl (fun K hK => ?_) AllReadyH.nil)
  refine (if_pos rfl).mpr ?_
  go_wp2_with fail
  refine (unhide CD x1 (unhide HP _ (unhide N1))).mono ?_
  rintro e x2 ⟨rfl, bel⟩
  have N2 := hide (below_on (unhide N1) bel)
  have V2 := hide (below_on (unhide V1) bel)
  refine hK.out _ _ (hHeld.bel bel) (fun hHeld => ?_)
  clear hK K bel
  refine wpAnyH_ready (rs := [8]) (by kernel_rfl) (by decide) (AllReadyH.cons rfl (fun K hK => ?_) AllReadyH.nil)
  go_simp
  refine hK.out _ _ (hHeld.bel ((Below.refl _ _).alloc (Nat.le_refl _) _)) (fun hHeld => ?_)
  clear hK K
  try simp only [List.setIfInBounds_toArray, List.set_cons_zero, List.set_cons_succ]
  refine take_yes 9 3 (.slice (some ⟨x2.heap.size, 0, none⟩) 6 6) rfl rfl (by kernel_rfl) (by kernel_rfl) (by kernel_rfl) (fun _ _ _ h => h) rfl (by assumption) (by intro w9 hS9; obtain ⟨s0, s1, s2, s3, s4, s5, s6, s7, s8⟩ := hS9; go_simp) ?_
  simp only [List.setIfInBounds_toArray, List.set_cons_zero, List.set_cons_succ]
  refine wpAnyH_done (by kernel_rfl) ?_ _
  have VQ := hide (unhide VB _ (unhide V2))
  have V3 := hide ((unhide VQ).alloc (unhide SZ _ (unhide VQ)) (.cells #[.string ⟨#[116, 97, 115, 107]⟩, .string t.name, .string ⟨#[112, 101, 114, 105, 111, 100]⟩, .string dT, .string ⟨#[100, 101, 97, 100, 108, 105, 110, 101]⟩, .string dD] 9))
  have R0 := hide (srow_made x2 BB (unhide SZ _ (unhide VQ)) L0 6 n0.symm [.string ⟨#[116, 97, 115, 107]⟩, .string t.name, .string ⟨#[112, 101, 114, 105, 111, 100]⟩, .string dT, .string ⟨#[100, 101, 97, 100, 108, 105, 110, 101]⟩, .string dD] (unhide HL0) (by omega))
  obtain ⟨c0, c1, c2, c3, c4, c5, c6, c7, c8⟩ := hHeld
  clear hbox D0 VD N1 V1 N2 V2 B1 V0
  go_wp2_with fail
  refine (unhide CM _ (unhide HP _ (unhide XB _ (unhide V3)))).mono ?_
  rintro e y1 ⟨vm, rfl, rm, bel⟩
  have R1 := hide ((unhide R0).bel bel)
  have RM := hide rm
  have V4 := hide (bel_up (unhide V3) (unhide SZ _ (unhide V3)) bel)
  clear bel rm R0 V3
  go_wp2_with (at_builtin; refine wpList_append_strs rfl _ _ rfl BB _ _ _ L0 ML rfl (unhide R1) rfl (unhide RM) (by omega) (unhide SZ _ (unhide V4)) ?_)
  intro v1 y2 r2 b2 _
  have R2 := hide r2
  have V5 := hide ((unhide V4).trans b2)
  clear r2 b2 R1 RM V4
  obtain ⟨L1, e1⟩ : ∃ L1, L1 = L0 ++ ML := ⟨_, rfl⟩
  have n1 : L1.length ≤ 8 := by rw [e1, List.length_append]; omega
  rw [← e1] at HJ R2
  clear e1 n0 zM
  go_wp2_with (at_builtin; refine wpList_append_strs rfl _ _ rfl BB BB _ _ L1 [wRegions] rfl ((unhide R2).bel ((Below.refl _ _).alloc (Nat.le_refl _) _)) rfl (srow_made y2 BB (unhide SZ _ (unhide V5)) [wRegions] 1 rfl _ rfl (by decide)) (by simp only [List.length_cons, List.length_nil]; omega) (by have := (unhide SZ _ (unhide V5)); simp only [World.size_alloc]; omega) ?_)
  intro v2 y3 r3 b3 _
  have R3 := hide r3
  have V6 := hide (((unhide V5).alloc (unhide SZ _ (unhide V5)) _).trans b3)
  clear r3 b3 R2 V5
  obtain ⟨L2, e2⟩ : ∃ L2, L2 = L1 ++ [wRegions] := ⟨_, rfl⟩
  have n2 : L2.length ≤ 9 := by rw [e2, List.length_append]; simp only [List.length_cons, List.length_nil]; omega
  rw [← e2] at HJ R3
  clear e2 n1
  obtain ⟨-, -, -, -, -, -, c6, -, -⟩ := unhide X1 _ (unhide V6)
  go_wp2
  go_loopw [3, 25] (fun v i wr => ∃ k : Nat, k ≤ t.regs.length ∧ i = .int .i64 k ∧ SRow wr BB v (L2 ++ (t.regs.take k).map fun n => digs n.toNat) ∧ Below BB (w.alloc (.cells #[.string t.name, .int .i64 t.T, .int .i64 t.D, .int .i64 t.mode, .int .i64 t.Q, .int .i64 t.theta, .slice t.ao t.regs.length t.cap, .int .u64 t.ecb, .int .u64 t.ucb] 30)) wr) (fun _ i _ => t.regs.length - (intOf i).toNat)
  case atStart => exact ⟨0, Nat.zero_le _, rfl, by simpa using unhide R3, unhide V6⟩
  case round =>
    obtain ⟨k, hk, rfl, hr, hb⟩ := hrel
    clear R3 V6 c6
    have RK := hide hr
    have VK := hide hb
    have BK := hide (unhide XB _ hb)
    clear hr hb
    by_cases hlt : k < t.regs.length
    · obtain ⟨b, off, hao, hcc⟩ := regs_bel (unhide HREG) (unhide BK) (fun e => by rw [e] at hlt; simp at hlt)
      have c := hcc k hlt
      have hq := unhide HRE _ (getD_mem hlt)
      have hqn : (((t.regs.getD k 0).toNat : Nat) : Int) = t.regs.getD k 0 := by omega
      have CI := hide (fun w hP => num_any (t.regs.getD k 0).toNat (by omega) w hP)
      rw [hqn] at CI
      have hnx := regs_next hlt L2
      obtain ⟨D1, hD1⟩ : ∃ D1, D1 = mkS (digs (t.regs.getD k 0).toNat) := ⟨_, rfl⟩
      rw [← hD1] at CI
      have HD := hide hD1
      have HNX := hide hnx
      have hlen : (L2 ++ (t.regs.take k).map fun n => digs n.toNat).length ≤ 20 := by rw [List.length_append, List.length_map, List.length_take]; omega
      clear hcc hq hqn hnx hD1
      obtain ⟨dg, hdg⟩ : ∃ dg, dg = digs (t.regs.getD k 0).toNat := ⟨_, rfl⟩
      rw [← hdg] at HD HNX
      clear hdg
      generalize (L2 ++ (t.regs.take k).map fun n => digs n.toNat) = xs at *
      generalize t.regs.getD k 0 = q at *
      rw [hao]
      go_wp2_with fail
      refine (unhide CI _ (unhide HP _ (unhide BK))).mono ?_
      rintro e z1 ⟨rfl, bel⟩
      have R4 := hide ((unhide RK).bel bel)
      have V7 := hide (bel_up (unhide VK) (unhide SZ _ (unhide VK)) bel)
      clear bel c
      go_wp2_with (at_builtin; refine wpList_append_strs rfl _ _ rfl BB BB _ _ xs [dg] rfl ((unhide R4).bel ((Below.refl _ _).alloc (Nat.le_refl _) _)) rfl (srow_made z1 BB (unhide SZ _ (unhide V7)) [dg] 1 rfl [.string D1] (by rw [unhide HD]; rfl) (by simp)) (by simp; omega) (by have := (unhide SZ _ (unhide V7)); simp only [World.size_alloc]; omega) ?_)
      intro v' z2 r5 b5 _
      have R5 := hide r5
      have V8 := hide (((unhide V7).alloc (unhide SZ _ (unhide V7)) _).trans b5)
      clear r5 b5
      go_wp2
      go_roundw
      case rel => exact ⟨k + 1, by omega, by go_num, by rw [← unhide HNX]; exact unhide R5, by rw [← hao]; exact unhide V8⟩
      case measure => simp [intOf]; omega
    · have e : k = t.regs.length := by omega
      subst e
      rw [List.take_length] at RK
      obtain ⟨L3, e3⟩ : ∃ L3, L3 = L2 ++ t.regs.map (fun n => digs n.toNat) := ⟨_, rfl⟩
      have n3 : L3.length ≤ 20 := by rw [e3, List.length_append, List.length_map]; omega
      rw [← e3] at HJ RK
      clear e3
      obtain ⟨-, -, -, -, -, -, -, c7, -⟩ := unhide X1 _ (unhide VK)
      go_wp2_with fail
      refine (unhide CE _ (unhide HP _ (unhide BK))).mono ?_
      rintro e z1 ⟨ve, rfl, re, bel⟩
      have R4 := hide ((unhide RK).bel bel)
      have RE := hide re
      have V7 := hide (bel_up (unhide VK) (unhide SZ _ (unhide VK)) bel)
      clear bel c7 re
      go_wp2_with (at_builtin; refine wpList_append_strs rfl _ _ rfl BB _ _ _ L3 EL rfl (unhide R4) rfl (unhide RE) (by omega) (unhide SZ _ (unhide V7)) ?_)
      intro v4 z2 r5 b5 _
      have R5 := hide r5
      have V8 := hide ((unhide V7).trans b5)
      have B8 := hide (unhide XB _ (unhide V8))
      clear r5 b5
      obtain ⟨L4, e4⟩ : ∃ L4, L4 = L3 ++ EL := ⟨_, rfl⟩
      have n4 : L4.length ≤ 100 := by rw [e4, List.length_append]; omega
      rw [← e4] at HJ R5
      clear e4
      obtain ⟨-, -, -, -, -, -, -, -, c8⟩ := unhide X1 _ (unhide V8)
      go_wp2_with fail
      refine (unhide CU _ (unhide HP _ (unhide B8))).mono ?_
      rintro e z3 ⟨vu, rfl, ru, bel⟩
      have R6 := hide ((unhide R5).bel bel)
      have RU := hide ru
      have V9 := hide (bel_up (unhide V8) (unhide SZ _ (unhide V8)) bel)
      clear bel c8 ru
      go_wp2_with (at_builtin; refine wpList_append_strs rfl _ _ rfl BB _ _ _ L4 UL rfl (unhide R6) rfl (unhide RU) (by omega) (unhide SZ _ (unhide V9)) ?_)
      intro v5 z4 r7 b7 _
      rw [← unhide HJ] at r7
      have n5 : TL.length ≤ 200 := by rw [unhide HJ, List.length_append]; omega
      have B9 := hide (unhide XB _ ((unhide V9).trans b7))
      have hjl : (Lib.join TL [32]).length ≤ 1200 := by rw [List.length_append] at zT; omega
      have CJ := hide (join_any v5 TL _ z4 r7 (by omega) (by omega))
      clear r7 b7
      have hsz : (mkS (Lib.join TL [32])).size ≤ 1200 := by rw [mkS_long]; exact hjl
      have HR : Hid (mkS (Lib.join TL [32]) ++ ⟨#[59]⟩ = mkS (Lib.join TL [32] ++ [59])) := mkS_two _ _
      generalize mkS (Lib.join TL [32]) = J at *
      go_wp2_with fail
      refine (unhide CJ).mono ?_
      rintro e z5 ⟨rfl, bel⟩
      have B10 := hide (below_on (unhide B9) bel)
      clear bel
      go_wp2
      go_ret
      exact ⟨congrArg (fun x => Ending.returned (.string x)) (unhide HR), unhide B10⟩
end Go.Proofs.YtlfmnnngadnkpaaDoor.Lex
