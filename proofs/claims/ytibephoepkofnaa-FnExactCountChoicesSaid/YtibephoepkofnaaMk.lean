/- The program's table of moves: what each kind's functions are, and where their captured variables lie. -/
import Derived.Test.YtibephoepkofnaaMv4
import Derived.Laws.EntriesVeiled
import Derived.Deep.RegionHeld3
set_option linter.unusedVariables false
set_option maxRecDepth 20000
namespace Go.Proofs.Ytibephoepkofnaa.Mk
open Go.RowKit Fr Own Pk Ins Pfn Rws Lb Cat Mvp Mv1 Mv2 Mv3 Mv4

theorem always_any (kv : Int) (w : World) : Calls Try.prog 91 #[.int .i64 kv] w fun e w' =>
    e = .returned (.func (.func 92) #[] #[.pointer (some ⟨w.heap.size, 0, none⟩)]) ∧ w' = w.alloc (.cells #[.int .i64 kv] 3) := by
  go_enter Try.func91, Try.ntmps91
  go_wp2
  go_ret
  exact ⟨rfl, rfl⟩
theorem keep_alloc {W : World} {p : Addr} {v : Value} {o : Obj} (h : W.cell? p = some v) : (W.alloc o).cell? p = some v :=
  (((Below.refl W.heap.size W).alloc (Nat.le_refl _) o).cell (World.block_lt_of_cell? W p h)).trans h
theorem keep_new (w : World) (X : Obj) (v : Value) (e : TypeId) : ((w.alloc X).alloc (.cells #[v] e)).cell? ⟨w.heap.size + 1, 0, none⟩ = some v := by
  have h := heap_alloc_new (w.alloc X) (.cells #[v] e)
  have hs : (w.alloc X).heap.size = w.heap.size + 1 := by simp
  rw [hs] at h
  unfold World.cell?
  rw [h]
  rfl
theorem there_new (w : World) (C : Array Value) (e : TypeId) (n : Nat) (h : C.size = n) : (w.alloc (.cells C e)).there w.heap.size 0 n := by
  intro j hj
  have hh := heap_alloc_new w (.cells C e)
  unfold World.cell? World.frozen?
  rw [hh]
  constructor
  · simp; omega
  · simp
theorem keep0 (w : World) (C : Array Value) (e' e : TypeId) (v : Value) (h : C.size = 30) : ((w.alloc (.cells C e')).alloc (.cells #[v] e)).drew.cell? ⟨w.heap.size + 1, 0, none⟩ = some v ∧ ((w.alloc (.cells C e')).alloc (.cells #[v] e)).drew.there w.heap.size 0 30 :=
  ⟨keep_new w _ v e, show ((w.alloc (.cells C e')).alloc (.cells #[v] e)).there w.heap.size 0 30 from World.there_alloc (there_new w C e' 30 h) _⟩
theorem keep1 {W : World} {p : Addr} {v : Value} {b : Nat} {o : Obj} (h1 : W.drew.cell? p = some v) (h2 : W.drew.there b 0 30) : (W.alloc o).drew.cell? p = some v ∧ (W.alloc o).drew.there b 0 30 :=
  ⟨keep_alloc (W := W) h1, show (W.alloc o).there b 0 30 from World.there_alloc (show W.there b 0 30 from h2) _⟩
theorem keep2 {W : World} {p : Addr} {v : Value} {b g : Nat} {vs : List Value} (h1 : W.drew.cell? p = some v) (h2 : W.drew.there b 0 30) (hg : p.block ≠ g) : (W.drew.setCells g 0 vs).cell? p = some v ∧ (W.drew.setCells g 0 vs).there b 0 30 :=
  ⟨(World.cell?_setCells_out g vs 0 W.drew p (fun h => absurd h hg)).trans h1, World.there_setCells h2 _ _ _⟩
/-- the table's cells -/
def kCells (w : World) : List Value := [.string ⟨#[]⟩, .nilFunc, .nilFunc, .string ⟨#[99, 117, 116]⟩, .func (.func 89) #[] #[], .func (.func 102) #[] #[], .string ⟨#[100, 101, 97, 108]⟩, .func (.func 89) #[] #[], .func (.func 93) #[] #[], .string ⟨#[102, 108, 105, 112]⟩, .func (.func 89) #[] #[], .func (.func 97) #[] #[.pointer (some ⟨w.heap.size + 1, 0, none⟩)], .string ⟨#[102, 97, 114, 111]⟩, .func (.func 92) #[] #[.pointer (some ⟨w.heap.size + 1 + 1, 0, none⟩)], .func (.func 103) #[] #[], .string ⟨#[109, 111, 110, 103, 101]⟩, .func (.func 92) #[] #[.pointer (some ⟨w.heap.size + 1 + 1 + 1, 0, none⟩)], .func (.func 104) #[] #[], .string ⟨#[109, 105, 108, 107]⟩, .func (.func 92) #[] #[.pointer (some ⟨w.heap.size + 1 + 1 + 1 + 1, 0, none⟩)], .func (.func 98) #[] #[], .string ⟨#[100, 117, 99, 107]⟩, .func (.func 92) #[] #[.pointer (some ⟨w.heap.size + 1 + 1 + 1 + 1 + 1, 0, none⟩)], .func (.func 105) #[] #[], .string ⟨#[116, 117, 114, 110]⟩, .func (.func 90) #[] #[], .func (.func 95) #[] #[], .string ⟨#[117, 110, 100, 101, 114]⟩, .func (.func 90) #[] #[], .func (.func 100) #[] #[]]
theorem below_put {B b : Nat} {w : World} : ∀ (vs : List Value) (o : Nat) (w1 : World), Below B w w1 → B ≤ b → Below B w (w1.setCells b o vs)
  | [], _, _, h, _ => h
  | v :: r, o, w1, h, hB => below_put r (o + 1) _ (h.setCell (p := ⟨b, o, none⟩) hB v) hB
theorem results_cell {P : Program} {fn : Func} {a : Tmp} {t : TypeId} {p : Addr} {v : Value} {w : World} (h : fn.results = #[.cell a t]) (tmps : Array Value) (hp : tmps.getD a undef = .pointer (some p)) (hl : (loadVar t p).run P w = .ok v w) :
    (results fn tmps).run P w = .ok v w := by
  have hp2 : tmps[a]?.getD undef = .pointer (some p) := by simpa using hp
  simp [results, h, hp2, asAddr, hl]
theorem results_cell_tmp {P : Program} {fn : Func} {a b : Tmp} {t : TypeId} {p : Addr} {v : Value} {w : World} (h : fn.results = #[.cell a t, .tmp b]) (tmps : Array Value) (hp : tmps.getD a undef = .pointer (some p)) (hl : (loadVar t p).run P w = .ok v w) :
    (results fn tmps).run P w = .ok (.tuple #[v, tmps.getD b undef]) w := by
  have hp2 : tmps[a]?.getD undef = .pointer (some p) := by simpa using hp
  simp [results, h, hp2, asAddr, hl]
/-- what the table leaves behind -/
structure KindsAt (w W : World) : Prop where
  below : Below w.heap.size w W
  range : W.rangeAt w.heap.size 0 (kCells w)
  deal : W.cell? ⟨w.heap.size + 1, 0, none⟩ = some (.func (.func 93) #[] #[])
  k4 : W.cell? ⟨w.heap.size + 1 + 1, 0, none⟩ = some (.int .i64 1)
  k5 : W.cell? ⟨w.heap.size + 1 + 1 + 1, 0, none⟩ = some (.int .i64 1)
  k6 : W.cell? ⟨w.heap.size + 1 + 1 + 1 + 1, 0, none⟩ = some (.int .i64 0)
  k7 : W.cell? ⟨w.heap.size + 1 + 1 + 1 + 1 + 1, 0, none⟩ = some (.int .i64 1)
theorem cell_new (w : World) (v : Value) (e : TypeId) (n : Nat) (hn : w.heap.size = n) : (w.alloc (.cells #[v] e)).cell? ⟨n, 0, none⟩ = some v := by
  have h := heap_alloc_new w (.cells #[v] e)
  rw [hn] at h
  unfold World.cell?
  rw [h]
  rfl
theorem kinds_world (w : World) (C : Array Value) (e1 e2 e3 : TypeId) (hC : C.size = 30) :
    KindsAt w (World.setCells (((((((w.alloc (.cells C e1)).alloc (.cells #[.func (.func 93) #[] #[]] e2)).alloc (.cells #[.int .i64 1] e3)).alloc (.cells #[.int .i64 1] e3)).alloc (.cells #[.int .i64 0] e3)).alloc (.cells #[.int .i64 1] e3)).drew) w.heap.size 0 (kCells w)) := by
  have b0 := (Below.refl w.heap.size w).alloc (Nat.le_refl _) (.cells C e1)
  have s0 : (w.alloc (.cells C e1)).heap.size = w.heap.size + 1 := by simp
  have c1 := cell_new (w.alloc (.cells C e1)) (.func (.func 93) #[] #[]) e2 _ s0
  have t0 := there_new w C e1 30 hC
  generalize w.alloc (.cells C e1) = W0 at *
  have b1 := b0.alloc (by omega) (.cells #[.func (.func 93) #[] #[]] e2)
  have s1 : (W0.alloc (.cells #[.func (.func 93) #[] #[]] e2)).heap.size = w.heap.size + 1 + 1 := by simp [s0]
  have t1 := World.there_alloc t0 (.cells #[.func (.func 93) #[] #[]] e2)
  generalize W0.alloc (.cells #[.func (.func 93) #[] #[]] e2) = W1 at *
  have c2 := cell_new W1 (.int .i64 1) e3 _ s1
  have b2 := b1.alloc (by omega) (.cells #[.int .i64 1] e3)
  have s2 : (W1.alloc (.cells #[.int .i64 1] e3)).heap.size = w.heap.size + 1 + 1 + 1 := by simp [s1]
  have t2 := World.there_alloc t1 (.cells #[.int .i64 1] e3)
  replace c1 := keep_alloc (o := .cells #[.int .i64 1] e3) c1
  generalize W1.alloc (.cells #[.int .i64 1] e3) = W2 at *
  have c3 := cell_new W2 (.int .i64 1) e3 _ s2
  have b3 := b2.alloc (by omega) (.cells #[.int .i64 1] e3)
  have s3 : (W2.alloc (.cells #[.int .i64 1] e3)).heap.size = w.heap.size + 1 + 1 + 1 + 1 := by simp [s2]
  have t3 := World.there_alloc t2 (.cells #[.int .i64 1] e3)
  replace c1 := keep_alloc (o := .cells #[.int .i64 1] e3) c1
  replace c2 := keep_alloc (o := .cells #[.int .i64 1] e3) c2
  generalize W2.alloc (.cells #[.int .i64 1] e3) = W3 at *
  have c4 := cell_new W3 (.int .i64 0) e3 _ s3
  have b4 := b3.alloc (by omega) (.cells #[.int .i64 0] e3)
  have s4 : (W3.alloc (.cells #[.int .i64 0] e3)).heap.size = w.heap.size + 1 + 1 + 1 + 1 + 1 := by simp [s3]
  have t4 := World.there_alloc t3 (.cells #[.int .i64 0] e3)
  replace c1 := keep_alloc (o := .cells #[.int .i64 0] e3) c1
  replace c2 := keep_alloc (o := .cells #[.int .i64 0] e3) c2
  replace c3 := keep_alloc (o := .cells #[.int .i64 0] e3) c3
  generalize W3.alloc (.cells #[.int .i64 0] e3) = W4 at *
  have c5 := cell_new W4 (.int .i64 1) e3 _ s4
  have b5 := b4.alloc (by omega) (.cells #[.int .i64 1] e3)
  have t5 := World.there_alloc t4 (.cells #[.int .i64 1] e3)
  replace c1 := keep_alloc (o := .cells #[.int .i64 1] e3) c1
  replace c2 := keep_alloc (o := .cells #[.int .i64 1] e3) c2
  replace c3 := keep_alloc (o := .cells #[.int .i64 1] e3) c3
  replace c4 := keep_alloc (o := .cells #[.int .i64 1] e3) c4
  generalize W4.alloc (.cells #[.int .i64 1] e3) = W5 at *
  have out : ∀ (p : Addr) (v : Value), p.block ≠ w.heap.size → W5.cell? p = some v → (W5.drew.setCells w.heap.size 0 (kCells w)).cell? p = some v :=
    fun p v hp h => (World.cell?_setCells_out w.heap.size (kCells w) 0 W5.drew p (fun e => absurd e hp)).trans h
  have hl : (kCells w).length = 30 := rfl
  refine ⟨below_put _ _ _ b5.drew (Nat.le_refl _), World.rangeAt_setCells_same W5.drew w.heap.size 0 (kCells w) (by rw [hl]; exact t5), out _ _ (by simp) c1, out _ _ (by simp only [ne_eq]; omega) c2, out _ _ (by simp only [ne_eq]; omega) c3, out _ _ (by simp only [ne_eq]; omega) c4, out _ _ (by simp only [ne_eq]; omega) c5⟩
set_option maxHeartbeats 4000000 in
set_option maxRecDepth 100000 in
theorem kinds_any (w : World) : Calls Try.prog 88 #[] w fun e w' => e = .returned (.agg (kCells w).toArray) ∧ KindsAt w w' := by
  have hrow : (Try.prog.info? 114).map (·.size) = some 30 := by kernel_rfl
  have hone : ∀ (v : Value), v ∈ ([.string ⟨#[]⟩, .nilFunc, .nilFunc, .string ⟨#[99, 117, 116]⟩, .func (.func 89) #[] #[], .func (.func 102) #[] #[], .string ⟨#[100, 101, 97, 108]⟩, .func (.func 89) #[] #[], .func (.func 93) #[] #[], .string ⟨#[102, 108, 105, 112]⟩, .func (.func 89) #[] #[], .func (.func 97) #[] #[.pointer (some ⟨w.heap.size + 1, 0, none⟩)], .string ⟨#[102, 97, 114, 111]⟩, .func (.func 92) #[] #[.pointer (some ⟨w.heap.size + 1 + 1, 0, none⟩)], .func (.func 103) #[] #[], .string ⟨#[109, 111, 110, 103, 101]⟩, .func (.func 92) #[] #[.pointer (some ⟨w.heap.size + 1 + 1 + 1, 0, none⟩)], .func (.func 104) #[] #[], .string ⟨#[109, 105, 108, 107]⟩, .func (.func 92) #[] #[.pointer (some ⟨w.heap.size + 1 + 1 + 1 + 1, 0, none⟩)], .func (.func 98) #[] #[], .string ⟨#[100, 117, 99, 107]⟩, .func (.func 92) #[] #[.pointer (some ⟨w.heap.size + 1 + 1 + 1 + 1 + 1, 0, none⟩)], .func (.func 105) #[] #[], .string ⟨#[116, 117, 114, 110]⟩, .func (.func 90) #[] #[], .func (.func 95) #[] #[], .string ⟨#[117, 110, 100, 101, 114]⟩, .func (.func 90) #[] #[], .func (.func 100) #[] #[]] : List Value) → v.oneCell' = true := by
    intro v hv
    simp only [List.mem_cons, List.not_mem_nil, or_false] at hv
    rcases hv with rfl | rfl | rfl | rfl | rfl | rfl | rfl | rfl | rfl | rfl | rfl | rfl | rfl | rfl | rfl | rfl | rfl | rfl | rfl | rfl | rfl | rfl | rfl | rfl | rfl | rfl | rfl | rfl | rfl | rfl <;> rfl
  go_enter Try.func88, Try.ntmps88
  go_wp2
  go_region_held3 (fun w' => w'.cell? ⟨w.heap.size + 1, 0, none⟩ = some (.func (.func 93) #[] #[]) ∧ w'.there w.heap.size 0 30) ((first | (go_split_ands; with_reducible (refine keep2 (by assumption) (by assumption) ?_); simp) | (go_split_ands; with_reducible (exact keep1 (by assumption) (by assumption))) | exact keep0 _ _ _ _ _ rfl)) ((first | (go_at_call 91; refine (always_any _ _).mono ?_; rintro e w' ⟨rfl, rfl⟩)))
  have HK := Lib.hid (kinds_world w #[.string ⟨#[]⟩, .nilFunc, .nilFunc, .string ⟨#[]⟩, .nilFunc, .nilFunc, .string ⟨#[]⟩, .nilFunc, .nilFunc, .string ⟨#[]⟩, .nilFunc, .nilFunc, .string ⟨#[]⟩, .nilFunc, .nilFunc, .string ⟨#[]⟩, .nilFunc, .nilFunc, .string ⟨#[]⟩, .nilFunc, .nilFunc, .string ⟨#[]⟩, .nilFunc, .nilFunc, .string ⟨#[]⟩, .nilFunc, .nilFunc, .string ⟨#[]⟩, .nilFunc, .nilFunc] 114 109 3 rfl)
  change Exit.then _ _ _ _ (World.setCells _ w.heap.size 0 (kCells w))
  generalize World.setCells _ w.heap.size 0 (kCells w) = W at *
  have hload := run_loadVar_mid (P := Try.prog) W w.heap.size 0 114 (kCells w) _ HK.out.range Try.underlying114 rfl hrow
  have HLD := Lib.hid hload
  clear hone hrow hload
  go_wp2
  (try simp only [Exit.inBlock, Exit.then])
  refine bodyPost_ret (results_cell rfl _ rfl HLD.out) rfl ?_
  exact ⟨rfl, HK.out⟩
end Go.Proofs.Ytibephoepkofnaa.Mk
