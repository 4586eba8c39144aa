/-
  The second program: the first one with a sequential body in the place of nearestTo; and its facts, as the first one has them.
-/
import Derived.Test.YtjgkignnfkbeaaaProg
import Derived.KernelRfl
namespace Go.Proofs
open Go
set_option maxRecDepth 100000

noncomputable def Tro.s0 : Array Oper := #[⟨some 18, .alloc 47, 0, "", #[], none⟩,
  ⟨none, .store 47 (.tmp 18) (.tmp 0), 0, "", #[], none⟩,
  ⟨some 19, .alloc 47, 0, "", #[], none⟩,
  ⟨none, .store 47 (.tmp 19) (.tmp 1), 0, "", #[], none⟩,
  ⟨some 5, .field 47 (.tmp 0) 0, 3, "", #[], none⟩,
  ⟨some 6, .field 47 (.tmp 0) 1, 3, "", #[], none⟩,
  ⟨some 7, .field 47 (.tmp 1) 1, 3, "", #[], none⟩,
  ⟨some 8, .field 47 (.tmp 1) 0, 3, "", #[], none⟩,
  ⟨some 14, .binOp .mul 3 (.tmp 5) (.const (.int .i64 1)) 3, 3, "", #[], none⟩,
  ⟨some 15, .binOp .mul 3 (.tmp 6) (.const (.int .i64 1)) 3, 3, "", #[], none⟩,
  ⟨some 16, .binOp .mul 3 (.tmp 7) (.const (.int .i64 1)) 3, 3, "", #[], none⟩,
  ⟨some 17, .binOp .mul 3 (.tmp 8) (.const (.int .i64 1)) 3, 3, "", #[], none⟩,
  ⟨some 9, .call { callee := .value (.func 41), args := #[.tmp 5, .tmp 6, .tmp 7], argTypes := #[3, 3, 3] }, 4, "", #[], none⟩]
noncomputable def Tro.s1 : Array Oper := #[⟨some 10, .binOp .eql 3 (.tmp 5) (.tmp 8) 3, 4, "", #[], none⟩]
noncomputable def Tro.s2 : Array Oper := #[⟨some 11, .call { callee := .value (.func 45), args := #[.tmp 5, .tmp 6, .tmp 7], argTypes := #[3, 3, 3] }, 0, "", #[], none⟩,
  ⟨some 12, .extract (.tmp 11) 0, 3, "", #[], none⟩,
  ⟨some 13, .extract (.tmp 11) 1, 3, "", #[], none⟩,
  ⟨some 4, .build 49 #[(0, .tmp 13), (1, .tmp 12)], 49, "", #[], none⟩]
noncomputable def Tro.body : Code := .seq (.region 0 Tro.s0 false) (.seq (.cond (.tmp 9) .skip (.refuse "")) (.seq (.region 1 Tro.s1 false) (.seq (.cond (.tmp 10) .skip (.refuse "")) (.seq (.region 2 Tro.s2 false) .ret))))
noncomputable def Tro.f42 : Func := { Try.f42 with body := some (.seq (.region 0 #[⟨some 18, .alloc 47, 0, "", #[], none⟩,
  ⟨none, .store 47 (.tmp 18) (.tmp 0), 0, "", #[], none⟩,
  ⟨some 19, .alloc 47, 0, "", #[], none⟩,
  ⟨none, .store 47 (.tmp 19) (.tmp 1), 0, "", #[], none⟩,
  ⟨some 5, .field 47 (.tmp 0) 0, 3, "", #[], none⟩,
  ⟨some 6, .field 47 (.tmp 0) 1, 3, "", #[], none⟩,
  ⟨some 7, .field 47 (.tmp 1) 1, 3, "", #[], none⟩,
  ⟨some 8, .field 47 (.tmp 1) 0, 3, "", #[], none⟩,
  ⟨some 14, .binOp .mul 3 (.tmp 5) (.const (.int .i64 1)) 3, 3, "", #[], none⟩,
  ⟨some 15, .binOp .mul 3 (.tmp 6) (.const (.int .i64 1)) 3, 3, "", #[], none⟩,
  ⟨some 16, .binOp .mul 3 (.tmp 7) (.const (.int .i64 1)) 3, 3, "", #[], none⟩,
  ⟨some 17, .binOp .mul 3 (.tmp 8) (.const (.int .i64 1)) 3, 3, "", #[], none⟩,
  ⟨some 9, .call { callee := .value (.func 41), args := #[.tmp 5, .tmp 6, .tmp 7], argTypes := #[3, 3, 3] }, 4, "", #[], none⟩] false) (.seq (.cond (.tmp 9) .skip (.refuse "")) (.seq (.region 1 #[⟨some 10, .binOp .eql 3 (.tmp 5) (.tmp 8) 3, 4, "", #[], none⟩] false) (.seq (.cond (.tmp 10) .skip (.refuse "")) (.seq (.region 2 #[⟨some 11, .call { callee := .value (.func 45), args := #[.tmp 5, .tmp 6, .tmp 7], argTypes := #[3, 3, 3] }, 0, "", #[], none⟩,
  ⟨some 12, .extract (.tmp 11) 0, 3, "", #[], none⟩,
  ⟨some 13, .extract (.tmp 11) 1, 3, "", #[], none⟩,
  ⟨some 4, .build 49 #[(0, .tmp 13), (1, .tmp 12)], 49, "", #[], none⟩] false) .ret))))), results := #[.tmp 4], ntmps := 20 }
noncomputable def Tro.funcs : Array Func := #[Try.f0, Try.f1, Try.f2, Try.f3, Try.f4, Try.f5, Try.f6, Try.f7, Try.f8, Try.f9, Try.f10, Try.f11, Try.f12, Try.f13, Try.f14, Try.f15, Try.f16, Try.f17, Try.f18, Try.f19, Try.f20, Try.f21, Try.f22, Try.f23, Try.f24, Try.f25, Try.f26, Try.f27, Try.f28, Try.f29, Try.f30, Try.f31, Try.f32, Try.f33, Try.f34, Try.f35, Try.f36, Try.f37, Try.f38, Try.f39, Try.f40, Try.f41, Tro.f42, Try.f43, Try.f44, Try.f45, Try.f46, Try.f47, Try.f48, Try.f49, Try.f50, Try.f51, Try.f52, Try.f53, Try.f54, Try.f55, Try.f56, Try.f57, Try.f58, Try.f59, Try.f60, Try.f61, Try.f62, Try.f63, Try.f64, Try.f65, Try.f66, Try.f67, Try.f68, Try.f69, Try.f70, Try.f71, Try.f72, Try.f73, Try.f74, Try.f75, Try.f76, Try.f77, Try.f78, Try.f79, Try.f80, Try.f81, Try.f82, Try.f83, Try.f84, Try.f85, Try.f86, Try.f87, Try.f88, Try.f89, Try.f90, Try.f91, Try.f92, Try.f93, Try.f94, Try.f95, Try.f96, Try.f97, Try.f98, Try.f99, Try.f100, Try.f101, Try.f102, Try.f103, Try.f104, Try.f105, Try.f106, Try.f107, Try.f108, Try.f109, Try.f110, Try.f111, Try.f112, Try.f113, Try.f114, Try.f115, Try.f116, Try.f117, Try.f118, Try.f119, Try.f120, Try.f121, Try.f122, Try.f123]

noncomputable def Tro.prog : Program := ⟨Try.progTables, Tro.funcs⟩

@[simp] theorem Tro.call2 : ∀ (args : Array Go.Value) (w : Go.World), Go.Sem.run Go.Proofs.Tro.prog (Go.callFunc 2 args) w = Go.Result.ok (Go.Next.enter 2 args) w := fun args w => by kernel_rfl
@[simp] theorem Tro.call3 : ∀ (args : Array Go.Value) (w : Go.World), Go.Sem.run Go.Proofs.Tro.prog (Go.callFunc 3 args) w = Go.Result.ok (Go.Next.enter 3 args) w := fun args w => by kernel_rfl
@[simp] theorem Tro.call4 : ∀ (args : Array Go.Value) (w : Go.World), Go.Sem.run Go.Proofs.Tro.prog (Go.callFunc 4 args) w = Go.Result.ok (Go.Next.enter 4 args) w := fun args w => by kernel_rfl
@[simp] theorem Tro.call5 : ∀ (args : Array Go.Value) (w : Go.World), Go.Sem.run Go.Proofs.Tro.prog (Go.callFunc 5 args) w = Go.Result.ok (Go.Next.enter 5 args) w := fun args w => by kernel_rfl
@[simp] theorem Tro.call6 : ∀ (args : Array Go.Value) (w : Go.World), Go.Sem.run Go.Proofs.Tro.prog (Go.callFunc 6 args) w = Go.Result.ok (Go.Next.enter 6 args) w := fun args w => by kernel_rfl
@[simp] theorem Tro.call7 : ∀ (args : Array Go.Value) (w : Go.World), Go.Sem.run Go.Proofs.Tro.prog (Go.callFunc 7 args) w = Go.Result.ok (Go.Next.enter 7 args) w := fun args w => by kernel_rfl
@[simp] theorem Tro.call8 : ∀ (args : Array Go.Value) (w : Go.World), Go.Sem.run Go.Proofs.Tro.prog (Go.callFunc 8 args) w = Go.Result.ok (Go.Next.enter 8 args) w := fun args w => by kernel_rfl
@[simp] theorem Tro.call9 : ∀ (args : Array Go.Value) (w : Go.World), Go.Sem.run Go.Proofs.Tro.prog (Go.callFunc 9 args) w = Go.Result.ok (Go.Next.enter 9 args) w := fun args w => by kernel_rfl
@[simp] theorem Tro.call10 : ∀ (args : Array Go.Value) (w : Go.World), Go.Sem.run Go.Proofs.Tro.prog (Go.callFunc 10 args) w = Go.Result.ok (Go.Next.enter 10 args) w := fun args w => by kernel_rfl
@[simp] theorem Tro.call11 : ∀ (args : Array Go.Value) (w : Go.World), Go.Sem.run Go.Proofs.Tro.prog (Go.callFunc 11 args) w = Go.Result.ok (Go.Next.enter 11 args) w := fun args w => by kernel_rfl
@[simp] theorem Tro.call12 : ∀ (args : Array Go.Value) (w : Go.World), Go.Sem.run Go.Proofs.Tro.prog (Go.callFunc 12 args) w = Go.Result.ok (Go.Next.enter 12 args) w := fun args w => by kernel_rfl
@[simp] theorem Tro.call13 : ∀ (args : Array Go.Value) (w : Go.World), Go.Sem.run Go.Proofs.Tro.prog (Go.callFunc 13 args) w = Go.Result.ok (Go.Next.enter 13 args) w := fun args w => by kernel_rfl
@[simp] theorem Tro.call14 : ∀ (args : Array Go.Value) (w : Go.World), Go.Sem.run Go.Proofs.Tro.prog (Go.callFunc 14 args) w = Go.Result.ok (Go.Next.enter 14 args) w := fun args w => by kernel_rfl
@[simp] theorem Tro.call15 : ∀ (args : Array Go.Value) (w : Go.World), Go.Sem.run Go.Proofs.Tro.prog (Go.callFunc 15 args) w = Go.Result.ok (Go.Next.enter 15 args) w := fun args w => by kernel_rfl
@[simp] theorem Tro.call16 : ∀ (args : Array Go.Value) (w : Go.World), Go.Sem.run Go.Proofs.Tro.prog (Go.callFunc 16 args) w = Go.Result.ok (Go.Next.enter 16 args) w := fun args w => by kernel_rfl
@[simp] theorem Tro.call17 : ∀ (args : Array Go.Value) (w : Go.World), Go.Sem.run Go.Proofs.Tro.prog (Go.callFunc 17 args) w = Go.Result.ok (Go.Next.enter 17 args) w := fun args w => by kernel_rfl
@[simp] theorem Tro.call18 : ∀ (args : Array Go.Value) (w : Go.World), Go.Sem.run Go.Proofs.Tro.prog (Go.callFunc 18 args) w = Go.Result.ok (Go.Next.enter 18 args) w := fun args w => by kernel_rfl
@[simp] theorem Tro.call19 : ∀ (args : Array Go.Value) (w : Go.World), Go.Sem.run Go.Proofs.Tro.prog (Go.callFunc 19 args) w = Go.Result.ok (Go.Next.enter 19 args) w := fun args w => by kernel_rfl
@[simp] theorem Tro.call20 : ∀ (args : Array Go.Value) (w : Go.World), Go.Sem.run Go.Proofs.Tro.prog (Go.callFunc 20 args) w = Go.Result.ok (Go.Next.enter 20 args) w := fun args w => by kernel_rfl
@[simp] theorem Tro.call21 : ∀ (args : Array Go.Value) (w : Go.World), Go.Sem.run Go.Proofs.Tro.prog (Go.callFunc 21 args) w = Go.Result.ok (Go.Next.enter 21 args) w := fun args w => by kernel_rfl
@[simp] theorem Tro.call22 : ∀ (args : Array Go.Value) (w : Go.World), Go.Sem.run Go.Proofs.Tro.prog (Go.callFunc 22 args) w = Go.Result.ok (Go.Next.enter 22 args) w := fun args w => by kernel_rfl
@[simp] theorem Tro.call23 : ∀ (args : Array Go.Value) (w : Go.World), Go.Sem.run Go.Proofs.Tro.prog (Go.callFunc 23 args) w = Go.Result.ok (Go.Next.enter 23 args) w := fun args w => by kernel_rfl
@[simp] theorem Tro.call24 : ∀ (args : Array Go.Value) (w : Go.World), Go.Sem.run Go.Proofs.Tro.prog (Go.callFunc 24 args) w = Go.Result.ok (Go.Next.enter 24 args) w := fun args w => by kernel_rfl
@[simp] theorem Tro.call25 : ∀ (args : Array Go.Value) (w : Go.World), Go.Sem.run Go.Proofs.Tro.prog (Go.callFunc 25 args) w = Go.Result.ok (Go.Next.enter 25 args) w := fun args w => by kernel_rfl
@[simp] theorem Tro.call26 : ∀ (args : Array Go.Value) (w : Go.World), Go.Sem.run Go.Proofs.Tro.prog (Go.callFunc 26 args) w = Go.Result.ok (Go.Next.enter 26 args) w := fun args w => by kernel_rfl
@[simp] theorem Tro.call27 : ∀ (args : Array Go.Value) (w : Go.World), Go.Sem.run Go.Proofs.Tro.prog (Go.callFunc 27 args) w = Go.Result.ok (Go.Next.enter 27 args) w := fun args w => by kernel_rfl
@[simp] theorem Tro.call28 : ∀ (args : Array Go.Value) (w : Go.World), Go.Sem.run Go.Proofs.Tro.prog (Go.callFunc 28 args) w = Go.Result.ok (Go.Next.enter 28 args) w := fun args w => by kernel_rfl
@[simp] theorem Tro.call29 : ∀ (args : Array Go.Value) (w : Go.World), Go.Sem.run Go.Proofs.Tro.prog (Go.callFunc 29 args) w = Go.Result.ok (Go.Next.enter 29 args) w := fun args w => by kernel_rfl
@[simp] theorem Tro.call30 : ∀ (args : Array Go.Value) (w : Go.World), Go.Sem.run Go.Proofs.Tro.prog (Go.callFunc 30 args) w = Go.Result.ok (Go.Next.enter 30 args) w := fun args w => by kernel_rfl
@[simp] theorem Tro.call31 : ∀ (args : Array Go.Value) (w : Go.World), Go.Sem.run Go.Proofs.Tro.prog (Go.callFunc 31 args) w = Go.Result.ok (Go.Next.enter 31 args) w := fun args w => by kernel_rfl
@[simp] theorem Tro.call32 : ∀ (args : Array Go.Value) (w : Go.World), Go.Sem.run Go.Proofs.Tro.prog (Go.callFunc 32 args) w = Go.Result.ok (Go.Next.enter 32 args) w := fun args w => by kernel_rfl
@[simp] theorem Tro.call33 : ∀ (args : Array Go.Value) (w : Go.World), Go.Sem.run Go.Proofs.Tro.prog (Go.callFunc 33 args) w = Go.Result.ok (Go.Next.enter 33 args) w := fun args w => by kernel_rfl
@[simp] theorem Tro.call34 : ∀ (args : Array Go.Value) (w : Go.World), Go.Sem.run Go.Proofs.Tro.prog (Go.callFunc 34 args) w = Go.Result.ok (Go.Next.enter 34 args) w := fun args w => by kernel_rfl
@[simp] theorem Tro.call35 : ∀ (args : Array Go.Value) (w : Go.World), Go.Sem.run Go.Proofs.Tro.prog (Go.callFunc 35 args) w = Go.Result.ok (Go.Next.enter 35 args) w := fun args w => by kernel_rfl
@[simp] theorem Tro.call36 : ∀ (args : Array Go.Value) (w : Go.World), Go.Sem.run Go.Proofs.Tro.prog (Go.callFunc 36 args) w = Go.Result.ok (Go.Next.enter 36 args) w := fun args w => by kernel_rfl
@[simp] theorem Tro.call37 : ∀ (args : Array Go.Value) (w : Go.World), Go.Sem.run Go.Proofs.Tro.prog (Go.callFunc 37 args) w = Go.Result.ok (Go.Next.enter 37 args) w := fun args w => by kernel_rfl
@[simp] theorem Tro.call38 : ∀ (args : Array Go.Value) (w : Go.World), Go.Sem.run Go.Proofs.Tro.prog (Go.callFunc 38 args) w = Go.Result.ok (Go.Next.enter 38 args) w := fun args w => by kernel_rfl
@[simp] theorem Tro.call39 : ∀ (args : Array Go.Value) (w : Go.World), Go.Sem.run Go.Proofs.Tro.prog (Go.callFunc 39 args) w = Go.Result.ok (Go.Next.enter 39 args) w := fun args w => by kernel_rfl
@[simp] theorem Tro.call40 : ∀ (args : Array Go.Value) (w : Go.World), Go.Sem.run Go.Proofs.Tro.prog (Go.callFunc 40 args) w = Go.Result.ok (Go.Next.enter 40 args) w := fun args w => by kernel_rfl
@[simp] theorem Tro.call41 : ∀ (args : Array Go.Value) (w : Go.World), Go.Sem.run Go.Proofs.Tro.prog (Go.callFunc 41 args) w = Go.Result.ok (Go.Next.enter 41 args) w := fun args w => by kernel_rfl
@[simp] theorem Tro.call42 : ∀ (args : Array Go.Value) (w : Go.World), Go.Sem.run Go.Proofs.Tro.prog (Go.callFunc 42 args) w = Go.Result.ok (Go.Next.enter 42 args) w := fun args w => by kernel_rfl
@[simp] theorem Tro.call43 : ∀ (args : Array Go.Value) (w : Go.World), Go.Sem.run Go.Proofs.Tro.prog (Go.callFunc 43 args) w = Go.Result.ok (Go.Next.enter 43 args) w := fun args w => by kernel_rfl
@[simp] theorem Tro.call44 : ∀ (args : Array Go.Value) (w : Go.World), Go.Sem.run Go.Proofs.Tro.prog (Go.callFunc 44 args) w = Go.Result.ok (Go.Next.enter 44 args) w := fun args w => by kernel_rfl
@[simp] theorem Tro.call45 : ∀ (args : Array Go.Value) (w : Go.World), Go.Sem.run Go.Proofs.Tro.prog (Go.callFunc 45 args) w = Go.Result.ok (Go.Next.enter 45 args) w := fun args w => by kernel_rfl
@[simp] theorem Tro.call46 : ∀ (args : Array Go.Value) (w : Go.World), Go.Sem.run Go.Proofs.Tro.prog (Go.callFunc 46 args) w = Go.Result.ok (Go.Next.enter 46 args) w := fun args w => by kernel_rfl
@[simp] theorem Tro.call47 : ∀ (args : Array Go.Value) (w : Go.World), Go.Sem.run Go.Proofs.Tro.prog (Go.callFunc 47 args) w = Go.Result.ok (Go.Next.enter 47 args) w := fun args w => by kernel_rfl
@[simp] theorem Tro.call48 : ∀ (args : Array Go.Value) (w : Go.World), Go.Sem.run Go.Proofs.Tro.prog (Go.callFunc 48 args) w = Go.Result.ok (Go.Next.enter 48 args) w := fun args w => by kernel_rfl
@[simp] theorem Tro.call49 : ∀ (args : Array Go.Value) (w : Go.World), Go.Sem.run Go.Proofs.Tro.prog (Go.callFunc 49 args) w = Go.Result.ok (Go.Next.enter 49 args) w := fun args w => by kernel_rfl
@[simp] theorem Tro.call50 : ∀ (args : Array Go.Value) (w : Go.World), Go.Sem.run Go.Proofs.Tro.prog (Go.callFunc 50 args) w = Go.Result.ok (Go.Next.enter 50 args) w := fun args w => by kernel_rfl
@[simp] theorem Tro.call51 : ∀ (args : Array Go.Value) (w : Go.World), Go.Sem.run Go.Proofs.Tro.prog (Go.callFunc 51 args) w = Go.Result.ok (Go.Next.enter 51 args) w := fun args w => by kernel_rfl
@[simp] theorem Tro.call52 : ∀ (args : Array Go.Value) (w : Go.World), Go.Sem.run Go.Proofs.Tro.prog (Go.callFunc 52 args) w = Go.Result.ok (Go.Next.enter 52 args) w := fun args w => by kernel_rfl
@[simp] theorem Tro.call53 : ∀ (args : Array Go.Value) (w : Go.World), Go.Sem.run Go.Proofs.Tro.prog (Go.callFunc 53 args) w = Go.Result.ok (Go.Next.enter 53 args) w := fun args w => by kernel_rfl
@[simp] theorem Tro.call54 : ∀ (args : Array Go.Value) (w : Go.World), Go.Sem.run Go.Proofs.Tro.prog (Go.callFunc 54 args) w = Go.Result.ok (Go.Next.enter 54 args) w := fun args w => by kernel_rfl
@[simp] theorem Tro.call55 : ∀ (args : Array Go.Value) (w : Go.World), Go.Sem.run Go.Proofs.Tro.prog (Go.callFunc 55 args) w = Go.Result.ok (Go.Next.enter 55 args) w := fun args w => by kernel_rfl
@[simp] theorem Tro.call56 : ∀ (args : Array Go.Value) (w : Go.World), Go.Sem.run Go.Proofs.Tro.prog (Go.callFunc 56 args) w = Go.Result.ok (Go.Next.enter 56 args) w := fun args w => by kernel_rfl
@[simp] theorem Tro.call57 : ∀ (args : Array Go.Value) (w : Go.World), Go.Sem.run Go.Proofs.Tro.prog (Go.callFunc 57 args) w = Go.Result.ok (Go.Next.enter 57 args) w := fun args w => by kernel_rfl
@[simp] theorem Tro.call58 : ∀ (args : Array Go.Value) (w : Go.World), Go.Sem.run Go.Proofs.Tro.prog (Go.callFunc 58 args) w = Go.Result.ok (Go.Next.enter 58 args) w := fun args w => by kernel_rfl
@[simp] theorem Tro.call59 : ∀ (args : Array Go.Value) (w : Go.World), Go.Sem.run Go.Proofs.Tro.prog (Go.callFunc 59 args) w = Go.Result.ok (Go.Next.enter 59 args) w := fun args w => by kernel_rfl
@[simp] theorem Tro.call60 : ∀ (args : Array Go.Value) (w : Go.World), Go.Sem.run Go.Proofs.Tro.prog (Go.callFunc 60 args) w = Go.Result.ok (Go.Next.enter 60 args) w := fun args w => by kernel_rfl
@[simp] theorem Tro.call61 : ∀ (args : Array Go.Value) (w : Go.World), Go.Sem.run Go.Proofs.Tro.prog (Go.callFunc 61 args) w = Go.Result.ok (Go.Next.enter 61 args) w := fun args w => by kernel_rfl
@[simp] theorem Tro.call62 : ∀ (args : Array Go.Value) (w : Go.World), Go.Sem.run Go.Proofs.Tro.prog (Go.callFunc 62 args) w = Go.Result.ok (Go.Next.enter 62 args) w := fun args w => by kernel_rfl
@[simp] theorem Tro.call63 : ∀ (args : Array Go.Value) (w : Go.World), Go.Sem.run Go.Proofs.Tro.prog (Go.callFunc 63 args) w = Go.Result.ok (Go.Next.enter 63 args) w := fun args w => by kernel_rfl
@[simp] theorem Tro.call64 : ∀ (args : Array Go.Value) (w : Go.World), Go.Sem.run Go.Proofs.Tro.prog (Go.callFunc 64 args) w = Go.Result.ok (Go.Next.enter 64 args) w := fun args w => by kernel_rfl
@[simp] theorem Tro.call65 : ∀ (args : Array Go.Value) (w : Go.World), Go.Sem.run Go.Proofs.Tro.prog (Go.callFunc 65 args) w = Go.Result.ok (Go.Next.enter 65 args) w := fun args w => by kernel_rfl
@[simp] theorem Tro.call66 : ∀ (args : Array Go.Value) (w : Go.World), Go.Sem.run Go.Proofs.Tro.prog (Go.callFunc 66 args) w = Go.Result.ok (Go.Next.enter 66 args) w := fun args w => by kernel_rfl
@[simp] theorem Tro.call67 : ∀ (args : Array Go.Value) (w : Go.World), Go.Sem.run Go.Proofs.Tro.prog (Go.callFunc 67 args) w = Go.Result.ok (Go.Next.enter 67 args) w := fun args w => by kernel_rfl
@[simp] theorem Tro.call68 : ∀ (args : Array Go.Value) (w : Go.World), Go.Sem.run Go.Proofs.Tro.prog (Go.callFunc 68 args) w = Go.Result.ok (Go.Next.enter 68 args) w := fun args w => by kernel_rfl
@[simp] theorem Tro.call69 : ∀ (args : Array Go.Value) (w : Go.World), Go.Sem.run Go.Proofs.Tro.prog (Go.callFunc 69 args) w = Go.Result.ok (Go.Next.enter 69 args) w := fun args w => by kernel_rfl
@[simp] theorem Tro.call70 : ∀ (args : Array Go.Value) (w : Go.World), Go.Sem.run Go.Proofs.Tro.prog (Go.callFunc 70 args) w = Go.Result.ok (Go.Next.enter 70 args) w := fun args w => by kernel_rfl
@[simp] theorem Tro.call71 : ∀ (args : Array Go.Value) (w : Go.World), Go.Sem.run Go.Proofs.Tro.prog (Go.callFunc 71 args) w = Go.Result.ok (Go.Next.enter 71 args) w := fun args w => by kernel_rfl
@[simp] theorem Tro.call72 : ∀ (args : Array Go.Value) (w : Go.World), Go.Sem.run Go.Proofs.Tro.prog (Go.callFunc 72 args) w = Go.Result.ok (Go.Next.enter 72 args) w := fun args w => by kernel_rfl
@[simp] theorem Tro.call73 : ∀ (args : Array Go.Value) (w : Go.World), Go.Sem.run Go.Proofs.Tro.prog (Go.callFunc 73 args) w = Go.Result.ok (Go.Next.enter 73 args) w := fun args w => by kernel_rfl
@[simp] theorem Tro.call74 : ∀ (args : Array Go.Value) (w : Go.World), Go.Sem.run Go.Proofs.Tro.prog (Go.callFunc 74 args) w = Go.Result.ok (Go.Next.enter 74 args) w := fun args w => by kernel_rfl
@[simp] theorem Tro.call75 : ∀ (args : Array Go.Value) (w : Go.World), Go.Sem.run Go.Proofs.Tro.prog (Go.callFunc 75 args) w = Go.Result.ok (Go.Next.enter 75 args) w := fun args w => by kernel_rfl
@[simp] theorem Tro.call76 : ∀ (args : Array Go.Value) (w : Go.World), Go.Sem.run Go.Proofs.Tro.prog (Go.callFunc 76 args) w = Go.Result.ok (Go.Next.enter 76 args) w := fun args w => by kernel_rfl
@[simp] theorem Tro.call77 : ∀ (args : Array Go.Value) (w : Go.World), Go.Sem.run Go.Proofs.Tro.prog (Go.callFunc 77 args) w = Go.Result.ok (Go.Next.enter 77 args) w := fun args w => by kernel_rfl
@[simp] theorem Tro.call78 : ∀ (args : Array Go.Value) (w : Go.World), Go.Sem.run Go.Proofs.Tro.prog (Go.callFunc 78 args) w = Go.Result.ok (Go.Next.enter 78 args) w := fun args w => by kernel_rfl
@[simp] theorem Tro.call79 : ∀ (args : Array Go.Value) (w : Go.World), Go.Sem.run Go.Proofs.Tro.prog (Go.callFunc 79 args) w = Go.Result.ok (Go.Next.enter 79 args) w := fun args w => by kernel_rfl
@[simp] theorem Tro.call80 : ∀ (args : Array Go.Value) (w : Go.World), Go.Sem.run Go.Proofs.Tro.prog (Go.callFunc 80 args) w = Go.Result.ok (Go.Next.enter 80 args) w := fun args w => by kernel_rfl
@[simp] theorem Tro.call81 : ∀ (args : Array Go.Value) (w : Go.World), Go.Sem.run Go.Proofs.Tro.prog (Go.callFunc 81 args) w = Go.Result.ok (Go.Next.enter 81 args) w := fun args w => by kernel_rfl
@[simp] theorem Tro.call82 : ∀ (args : Array Go.Value) (w : Go.World), Go.Sem.run Go.Proofs.Tro.prog (Go.callFunc 82 args) w = Go.Result.ok (Go.Next.enter 82 args) w := fun args w => by kernel_rfl
@[simp] theorem Tro.call83 : ∀ (args : Array Go.Value) (w : Go.World), Go.Sem.run Go.Proofs.Tro.prog (Go.callFunc 83 args) w = Go.Result.ok (Go.Next.enter 83 args) w := fun args w => by kernel_rfl
@[simp] theorem Tro.call84 : ∀ (args : Array Go.Value) (w : Go.World), Go.Sem.run Go.Proofs.Tro.prog (Go.callFunc 84 args) w = Go.Result.ok (Go.Next.enter 84 args) w := fun args w => by kernel_rfl
@[simp] theorem Tro.call85 : ∀ (args : Array Go.Value) (w : Go.World), Go.Sem.run Go.Proofs.Tro.prog (Go.callFunc 85 args) w = Go.Result.ok (Go.Next.enter 85 args) w := fun args w => by kernel_rfl
@[simp] theorem Tro.call86 : ∀ (args : Array Go.Value) (w : Go.World), Go.Sem.run Go.Proofs.Tro.prog (Go.callFunc 86 args) w = Go.Result.ok (Go.Next.enter 86 args) w := fun args w => by kernel_rfl
@[simp] theorem Tro.call87 : ∀ (args : Array Go.Value) (w : Go.World), Go.Sem.run Go.Proofs.Tro.prog (Go.callFunc 87 args) w = Go.Result.ok (Go.Next.enter 87 args) w := fun args w => by kernel_rfl
@[simp] theorem Tro.call88 : ∀ (args : Array Go.Value) (w : Go.World), Go.Sem.run Go.Proofs.Tro.prog (Go.callFunc 88 args) w = Go.Result.ok (Go.Next.enter 88 args) w := fun args w => by kernel_rfl
@[simp] theorem Tro.call89 : ∀ (args : Array Go.Value) (w : Go.World), Go.Sem.run Go.Proofs.Tro.prog (Go.callFunc 89 args) w = Go.Result.ok (Go.Next.enter 89 args) w := fun args w => by kernel_rfl
@[simp] theorem Tro.call90 : ∀ (args : Array Go.Value) (w : Go.World), Go.Sem.run Go.Proofs.Tro.prog (Go.callFunc 90 args) w = Go.Result.ok (Go.Next.enter 90 args) w := fun args w => by kernel_rfl
@[simp] theorem Tro.call91 : ∀ (args : Array Go.Value) (w : Go.World), Go.Sem.run Go.Proofs.Tro.prog (Go.callFunc 91 args) w = Go.Result.ok (Go.Next.enter 91 args) w := fun args w => by kernel_rfl
@[simp] theorem Tro.call92 : ∀ (args : Array Go.Value) (w : Go.World), Go.Sem.run Go.Proofs.Tro.prog (Go.callFunc 92 args) w = Go.Result.ok (Go.Next.enter 92 args) w := fun args w => by kernel_rfl
@[simp] theorem Tro.call93 : ∀ (args : Array Go.Value) (w : Go.World), Go.Sem.run Go.Proofs.Tro.prog (Go.callFunc 93 args) w = Go.Result.ok (Go.Next.enter 93 args) w := fun args w => by kernel_rfl
@[simp] theorem Tro.call94 : ∀ (args : Array Go.Value) (w : Go.World), Go.Sem.run Go.Proofs.Tro.prog (Go.callFunc 94 args) w = Go.Result.ok (Go.Next.enter 94 args) w := fun args w => by kernel_rfl
@[simp] theorem Tro.call95 : ∀ (args : Array Go.Value) (w : Go.World), Go.Sem.run Go.Proofs.Tro.prog (Go.callFunc 95 args) w = Go.Result.ok (Go.Next.enter 95 args) w := fun args w => by kernel_rfl
@[simp] theorem Tro.call96 : ∀ (args : Array Go.Value) (w : Go.World), Go.Sem.run Go.Proofs.Tro.prog (Go.callFunc 96 args) w = Go.Result.ok (Go.Next.enter 96 args) w := fun args w => by kernel_rfl
@[simp] theorem Tro.call97 : ∀ (args : Array Go.Value) (w : Go.World), Go.Sem.run Go.Proofs.Tro.prog (Go.callFunc 97 args) w = Go.Result.ok (Go.Next.enter 97 args) w := fun args w => by kernel_rfl
@[simp] theorem Tro.call98 : ∀ (args : Array Go.Value) (w : Go.World), Go.Sem.run Go.Proofs.Tro.prog (Go.callFunc 98 args) w = Go.Result.ok (Go.Next.enter 98 args) w := fun args w => by kernel_rfl
@[simp] theorem Tro.call99 : ∀ (args : Array Go.Value) (w : Go.World), Go.Sem.run Go.Proofs.Tro.prog (Go.callFunc 99 args) w = Go.Result.ok (Go.Next.enter 99 args) w := fun args w => by kernel_rfl
@[simp] theorem Tro.call100 : ∀ (args : Array Go.Value) (w : Go.World), Go.Sem.run Go.Proofs.Tro.prog (Go.callFunc 100 args) w = Go.Result.ok (Go.Next.enter 100 args) w := fun args w => by kernel_rfl
@[simp] theorem Tro.call101 : ∀ (args : Array Go.Value) (w : Go.World), Go.Sem.run Go.Proofs.Tro.prog (Go.callFunc 101 args) w = Go.Result.ok (Go.Next.enter 101 args) w := fun args w => by kernel_rfl
@[simp] theorem Tro.call102 : ∀ (args : Array Go.Value) (w : Go.World), Go.Sem.run Go.Proofs.Tro.prog (Go.callFunc 102 args) w = Go.Result.ok (Go.Next.enter 102 args) w := fun args w => by kernel_rfl
@[simp] theorem Tro.call103 : ∀ (args : Array Go.Value) (w : Go.World), Go.Sem.run Go.Proofs.Tro.prog (Go.callFunc 103 args) w = Go.Result.ok (Go.Next.enter 103 args) w := fun args w => by kernel_rfl
@[simp] theorem Tro.call104 : ∀ (args : Array Go.Value) (w : Go.World), Go.Sem.run Go.Proofs.Tro.prog (Go.callFunc 104 args) w = Go.Result.ok (Go.Next.enter 104 args) w := fun args w => by kernel_rfl
@[simp] theorem Tro.call105 : ∀ (args : Array Go.Value) (w : Go.World), Go.Sem.run Go.Proofs.Tro.prog (Go.callFunc 105 args) w = Go.Result.ok (Go.Next.enter 105 args) w := fun args w => by kernel_rfl
@[simp] theorem Tro.call106 : ∀ (args : Array Go.Value) (w : Go.World), Go.Sem.run Go.Proofs.Tro.prog (Go.callFunc 106 args) w = Go.Result.ok (Go.Next.enter 106 args) w := fun args w => by kernel_rfl
@[simp] theorem Tro.call107 : ∀ (args : Array Go.Value) (w : Go.World), Go.Sem.run Go.Proofs.Tro.prog (Go.callFunc 107 args) w = Go.Result.ok (Go.Next.enter 107 args) w := fun args w => by kernel_rfl
@[simp] theorem Tro.eqGuardType7 : Go.Proofs.Tro.prog.eqGuardType Go.Proofs.Tro.prog.depth 7 = Bool.false := by kernel_rfl
@[simp] theorem Tro.eqGuardType8 : Go.Proofs.Tro.prog.eqGuardType Go.Proofs.Tro.prog.depth 8 = Bool.false := by kernel_rfl
@[simp] theorem Tro.eqGuardType13 : Go.Proofs.Tro.prog.eqGuardType Go.Proofs.Tro.prog.depth 13 = Bool.false := by kernel_rfl
@[simp] theorem Tro.eqGuardType14 : Go.Proofs.Tro.prog.eqGuardType Go.Proofs.Tro.prog.depth 14 = Bool.false := by kernel_rfl
@[simp] theorem Tro.eqGuardType18 : Go.Proofs.Tro.prog.eqGuardType Go.Proofs.Tro.prog.depth 18 = Bool.false := by kernel_rfl
@[simp] theorem Tro.eqGuardType19 : Go.Proofs.Tro.prog.eqGuardType Go.Proofs.Tro.prog.depth 19 = Bool.false := by kernel_rfl
@[simp] theorem Tro.eqGuardType46 : Go.Proofs.Tro.prog.eqGuardType Go.Proofs.Tro.prog.depth 46 = Bool.false := by kernel_rfl
@[simp] theorem Tro.eqGuardType47 : Go.Proofs.Tro.prog.eqGuardType Go.Proofs.Tro.prog.depth 47 = Bool.false := by kernel_rfl
@[simp] theorem Tro.eqGuardType48 : Go.Proofs.Tro.prog.eqGuardType Go.Proofs.Tro.prog.depth 48 = Bool.false := by kernel_rfl
@[simp] theorem Tro.eqGuardType49 : Go.Proofs.Tro.prog.eqGuardType Go.Proofs.Tro.prog.depth 49 = Bool.false := by kernel_rfl
@[simp] theorem Tro.eqGuardType61 : Go.Proofs.Tro.prog.eqGuardType Go.Proofs.Tro.prog.depth 61 = Bool.false := by kernel_rfl
@[simp] theorem Tro.eqGuardType62 : Go.Proofs.Tro.prog.eqGuardType Go.Proofs.Tro.prog.depth 62 = Bool.false := by kernel_rfl
@[simp] theorem Tro.eqGuardType96 : Go.Proofs.Tro.prog.eqGuardType Go.Proofs.Tro.prog.depth 96 = Bool.false := by kernel_rfl
@[simp] theorem Tro.eqGuardType97 : Go.Proofs.Tro.prog.eqGuardType Go.Proofs.Tro.prog.depth 97 = Bool.false := by kernel_rfl
@[simp] theorem Tro.eqGuardType98 : Go.Proofs.Tro.prog.eqGuardType Go.Proofs.Tro.prog.depth 98 = Bool.false := by kernel_rfl
@[simp] theorem Tro.eqGuardType99 : Go.Proofs.Tro.prog.eqGuardType Go.Proofs.Tro.prog.depth 99 = Bool.false := by kernel_rfl
@[simp] theorem Tro.eqGuardType100 : Go.Proofs.Tro.prog.eqGuardType Go.Proofs.Tro.prog.depth 100 = Bool.false := by kernel_rfl
@[simp] theorem Tro.eqGuardType107 : Go.Proofs.Tro.prog.eqGuardType Go.Proofs.Tro.prog.depth 107 = Bool.false := by kernel_rfl
@[simp] theorem Tro.eqGuardType108 : Go.Proofs.Tro.prog.eqGuardType Go.Proofs.Tro.prog.depth 108 = Bool.false := by kernel_rfl
@[simp] theorem Tro.func0 : Go.Proofs.Tro.prog.funcs[0]? = Option.some Go.Proofs.Try.f0 := by kernel_rfl
@[simp] theorem Tro.func1 : Go.Proofs.Tro.prog.funcs[1]? = Option.some Go.Proofs.Try.f1 := by kernel_rfl
@[simp] theorem Tro.func2 : Go.Proofs.Tro.prog.funcs[2]? = Option.some Go.Proofs.Try.f2 := by kernel_rfl
@[simp] theorem Tro.func3 : Go.Proofs.Tro.prog.funcs[3]? = Option.some Go.Proofs.Try.f3 := by kernel_rfl
@[simp] theorem Tro.func4 : Go.Proofs.Tro.prog.funcs[4]? = Option.some Go.Proofs.Try.f4 := by kernel_rfl
@[simp] theorem Tro.func5 : Go.Proofs.Tro.prog.funcs[5]? = Option.some Go.Proofs.Try.f5 := by kernel_rfl
@[simp] theorem Tro.func6 : Go.Proofs.Tro.prog.funcs[6]? = Option.some Go.Proofs.Try.f6 := by kernel_rfl
@[simp] theorem Tro.func7 : Go.Proofs.Tro.prog.funcs[7]? = Option.some Go.Proofs.Try.f7 := by kernel_rfl
@[simp] theorem Tro.func8 : Go.Proofs.Tro.prog.funcs[8]? = Option.some Go.Proofs.Try.f8 := by kernel_rfl
@[simp] theorem Tro.func9 : Go.Proofs.Tro.prog.funcs[9]? = Option.some Go.Proofs.Try.f9 := by kernel_rfl
@[simp] theorem Tro.func10 : Go.Proofs.Tro.prog.funcs[10]? = Option.some Go.Proofs.Try.f10 := by kernel_rfl
@[simp] theorem Tro.func11 : Go.Proofs.Tro.prog.funcs[11]? = Option.some Go.Proofs.Try.f11 := by kernel_rfl
@[simp] theorem Tro.func12 : Go.Proofs.Tro.prog.funcs[12]? = Option.some Go.Proofs.Try.f12 := by kernel_rfl
@[simp] theorem Tro.func13 : Go.Proofs.Tro.prog.funcs[13]? = Option.some Go.Proofs.Try.f13 := by kernel_rfl
@[simp] theorem Tro.func14 : Go.Proofs.Tro.prog.funcs[14]? = Option.some Go.Proofs.Try.f14 := by kernel_rfl
@[simp] theorem Tro.func15 : Go.Proofs.Tro.prog.funcs[15]? = Option.some Go.Proofs.Try.f15 := by kernel_rfl
@[simp] theorem Tro.func16 : Go.Proofs.Tro.prog.funcs[16]? = Option.some Go.Proofs.Try.f16 := by kernel_rfl
@[simp] theorem Tro.func17 : Go.Proofs.Tro.prog.funcs[17]? = Option.some Go.Proofs.Try.f17 := by kernel_rfl
@[simp] theorem Tro.func18 : Go.Proofs.Tro.prog.funcs[18]? = Option.some Go.Proofs.Try.f18 := by kernel_rfl
@[simp] theorem Tro.func19 : Go.Proofs.Tro.prog.funcs[19]? = Option.some Go.Proofs.Try.f19 := by kernel_rfl
@[simp] theorem Tro.func20 : Go.Proofs.Tro.prog.funcs[20]? = Option.some Go.Proofs.Try.f20 := by kernel_rfl
@[simp] theorem Tro.func21 : Go.Proofs.Tro.prog.funcs[21]? = Option.some Go.Proofs.Try.f21 := by kernel_rfl
@[simp] theorem Tro.func22 : Go.Proofs.Tro.prog.funcs[22]? = Option.some Go.Proofs.Try.f22 := by kernel_rfl
@[simp] theorem Tro.func23 : Go.Proofs.Tro.prog.funcs[23]? = Option.some Go.Proofs.Try.f23 := by kernel_rfl
@[simp] theorem Tro.func24 : Go.Proofs.Tro.prog.funcs[24]? = Option.some Go.Proofs.Try.f24 := by kernel_rfl
@[simp] theorem Tro.func25 : Go.Proofs.Tro.prog.funcs[25]? = Option.some Go.Proofs.Try.f25 := by kernel_rfl
@[simp] theorem Tro.func26 : Go.Proofs.Tro.prog.funcs[26]? = Option.some Go.Proofs.Try.f26 := by kernel_rfl
@[simp] theorem Tro.func27 : Go.Proofs.Tro.prog.funcs[27]? = Option.some Go.Proofs.Try.f27 := by kernel_rfl
@[simp] theorem Tro.func28 : Go.Proofs.Tro.prog.funcs[28]? = Option.some Go.Proofs.Try.f28 := by kernel_rfl
@[simp] theorem Tro.func29 : Go.Proofs.Tro.prog.funcs[29]? = Option.some Go.Proofs.Try.f29 := by kernel_rfl
@[simp] theorem Tro.func30 : Go.Proofs.Tro.prog.funcs[30]? = Option.some Go.Proofs.Try.f30 := by kernel_rfl
@[simp] theorem Tro.func31 : Go.Proofs.Tro.prog.funcs[31]? = Option.some Go.Proofs.Try.f31 := by kernel_rfl
@[simp] theorem Tro.func32 : Go.Proofs.Tro.prog.funcs[32]? = Option.some Go.Proofs.Try.f32 := by kernel_rfl
@[simp] theorem Tro.func33 : Go.Proofs.Tro.prog.funcs[33]? = Option.some Go.Proofs.Try.f33 := by kernel_rfl
@[simp] theorem Tro.func34 : Go.Proofs.Tro.prog.funcs[34]? = Option.some Go.Proofs.Try.f34 := by kernel_rfl
@[simp] theorem Tro.func35 : Go.Proofs.Tro.prog.funcs[35]? = Option.some Go.Proofs.Try.f35 := by kernel_rfl
@[simp] theorem Tro.func36 : Go.Proofs.Tro.prog.funcs[36]? = Option.some Go.Proofs.Try.f36 := by kernel_rfl
@[simp] theorem Tro.func37 : Go.Proofs.Tro.prog.funcs[37]? = Option.some Go.Proofs.Try.f37 := by kernel_rfl
@[simp] theorem Tro.func38 : Go.Proofs.Tro.prog.funcs[38]? = Option.some Go.Proofs.Try.f38 := by kernel_rfl
@[simp] theorem Tro.func39 : Go.Proofs.Tro.prog.funcs[39]? = Option.some Go.Proofs.Try.f39 := by kernel_rfl
@[simp] theorem Tro.func40 : Go.Proofs.Tro.prog.funcs[40]? = Option.some Go.Proofs.Try.f40 := by kernel_rfl
@[simp] theorem Tro.func41 : Go.Proofs.Tro.prog.funcs[41]? = Option.some Go.Proofs.Try.f41 := by kernel_rfl
@[simp] theorem Tro.func42 : Go.Proofs.Tro.prog.funcs[42]? = Option.some Go.Proofs.Tro.f42 := by kernel_rfl
@[simp] theorem Tro.func43 : Go.Proofs.Tro.prog.funcs[43]? = Option.some Go.Proofs.Try.f43 := by kernel_rfl
@[simp] theorem Tro.func44 : Go.Proofs.Tro.prog.funcs[44]? = Option.some Go.Proofs.Try.f44 := by kernel_rfl
@[simp] theorem Tro.func45 : Go.Proofs.Tro.prog.funcs[45]? = Option.some Go.Proofs.Try.f45 := by kernel_rfl
@[simp] theorem Tro.func46 : Go.Proofs.Tro.prog.funcs[46]? = Option.some Go.Proofs.Try.f46 := by kernel_rfl
@[simp] theorem Tro.func47 : Go.Proofs.Tro.prog.funcs[47]? = Option.some Go.Proofs.Try.f47 := by kernel_rfl
@[simp] theorem Tro.func48 : Go.Proofs.Tro.prog.funcs[48]? = Option.some Go.Proofs.Try.f48 := by kernel_rfl
@[simp] theorem Tro.func49 : Go.Proofs.Tro.prog.funcs[49]? = Option.some Go.Proofs.Try.f49 := by kernel_rfl
@[simp] theorem Tro.func50 : Go.Proofs.Tro.prog.funcs[50]? = Option.some Go.Proofs.Try.f50 := by kernel_rfl
@[simp] theorem Tro.func51 : Go.Proofs.Tro.prog.funcs[51]? = Option.some Go.Proofs.Try.f51 := by kernel_rfl
@[simp] theorem Tro.func52 : Go.Proofs.Tro.prog.funcs[52]? = Option.some Go.Proofs.Try.f52 := by kernel_rfl
@[simp] theorem Tro.func53 : Go.Proofs.Tro.prog.funcs[53]? = Option.some Go.Proofs.Try.f53 := by kernel_rfl
@[simp] theorem Tro.func54 : Go.Proofs.Tro.prog.funcs[54]? = Option.some Go.Proofs.Try.f54 := by kernel_rfl
@[simp] theorem Tro.func55 : Go.Proofs.Tro.prog.funcs[55]? = Option.some Go.Proofs.Try.f55 := by kernel_rfl
@[simp] theorem Tro.func56 : Go.Proofs.Tro.prog.funcs[56]? = Option.some Go.Proofs.Try.f56 := by kernel_rfl
@[simp] theorem Tro.func57 : Go.Proofs.Tro.prog.funcs[57]? = Option.some Go.Proofs.Try.f57 := by kernel_rfl
@[simp] theorem Tro.func58 : Go.Proofs.Tro.prog.funcs[58]? = Option.some Go.Proofs.Try.f58 := by kernel_rfl
@[simp] theorem Tro.func59 : Go.Proofs.Tro.prog.funcs[59]? = Option.some Go.Proofs.Try.f59 := by kernel_rfl
@[simp] theorem Tro.func60 : Go.Proofs.Tro.prog.funcs[60]? = Option.some Go.Proofs.Try.f60 := by kernel_rfl
@[simp] theorem Tro.func61 : Go.Proofs.Tro.prog.funcs[61]? = Option.some Go.Proofs.Try.f61 := by kernel_rfl
@[simp] theorem Tro.func62 : Go.Proofs.Tro.prog.funcs[62]? = Option.some Go.Proofs.Try.f62 := by kernel_rfl
@[simp] theorem Tro.func63 : Go.Proofs.Tro.prog.funcs[63]? = Option.some Go.Proofs.Try.f63 := by kernel_rfl
@[simp] theorem Tro.func64 : Go.Proofs.Tro.prog.funcs[64]? = Option.some Go.Proofs.Try.f64 := by kernel_rfl
@[simp] theorem Tro.func65 : Go.Proofs.Tro.prog.funcs[65]? = Option.some Go.Proofs.Try.f65 := by kernel_rfl
@[simp] theorem Tro.func66 : Go.Proofs.Tro.prog.funcs[66]? = Option.some Go.Proofs.Try.f66 := by kernel_rfl
@[simp] theorem Tro.func67 : Go.Proofs.Tro.prog.funcs[67]? = Option.some Go.Proofs.Try.f67 := by kernel_rfl
@[simp] theorem Tro.func68 : Go.Proofs.Tro.prog.funcs[68]? = Option.some Go.Proofs.Try.f68 := by kernel_rfl
@[simp] theorem Tro.func69 : Go.Proofs.Tro.prog.funcs[69]? = Option.some Go.Proofs.Try.f69 := by kernel_rfl
@[simp] theorem Tro.func70 : Go.Proofs.Tro.prog.funcs[70]? = Option.some Go.Proofs.Try.f70 := by kernel_rfl
@[simp] theorem Tro.func71 : Go.Proofs.Tro.prog.funcs[71]? = Option.some Go.Proofs.Try.f71 := by kernel_rfl
@[simp] theorem Tro.func72 : Go.Proofs.Tro.prog.funcs[72]? = Option.some Go.Proofs.Try.f72 := by kernel_rfl
@[simp] theorem Tro.func73 : Go.Proofs.Tro.prog.funcs[73]? = Option.some Go.Proofs.Try.f73 := by kernel_rfl
@[simp] theorem Tro.func74 : Go.Proofs.Tro.prog.funcs[74]? = Option.some Go.Proofs.Try.f74 := by kernel_rfl
@[simp] theorem Tro.func75 : Go.Proofs.Tro.prog.funcs[75]? = Option.some Go.Proofs.Try.f75 := by kernel_rfl
@[simp] theorem Tro.func76 : Go.Proofs.Tro.prog.funcs[76]? = Option.some Go.Proofs.Try.f76 := by kernel_rfl
@[simp] theorem Tro.func77 : Go.Proofs.Tro.prog.funcs[77]? = Option.some Go.Proofs.Try.f77 := by kernel_rfl
@[simp] theorem Tro.func78 : Go.Proofs.Tro.prog.funcs[78]? = Option.some Go.Proofs.Try.f78 := by kernel_rfl
@[simp] theorem Tro.func79 : Go.Proofs.Tro.prog.funcs[79]? = Option.some Go.Proofs.Try.f79 := by kernel_rfl
@[simp] theorem Tro.func80 : Go.Proofs.Tro.prog.funcs[80]? = Option.some Go.Proofs.Try.f80 := by kernel_rfl
@[simp] theorem Tro.func81 : Go.Proofs.Tro.prog.funcs[81]? = Option.some Go.Proofs.Try.f81 := by kernel_rfl
@[simp] theorem Tro.func82 : Go.Proofs.Tro.prog.funcs[82]? = Option.some Go.Proofs.Try.f82 := by kernel_rfl
@[simp] theorem Tro.func83 : Go.Proofs.Tro.prog.funcs[83]? = Option.some Go.Proofs.Try.f83 := by kernel_rfl
@[simp] theorem Tro.func84 : Go.Proofs.Tro.prog.funcs[84]? = Option.some Go.Proofs.Try.f84 := by kernel_rfl
@[simp] theorem Tro.func85 : Go.Proofs.Tro.prog.funcs[85]? = Option.some Go.Proofs.Try.f85 := by kernel_rfl
@[simp] theorem Tro.func86 : Go.Proofs.Tro.prog.funcs[86]? = Option.some Go.Proofs.Try.f86 := by kernel_rfl
@[simp] theorem Tro.func87 : Go.Proofs.Tro.prog.funcs[87]? = Option.some Go.Proofs.Try.f87 := by kernel_rfl
@[simp] theorem Tro.func88 : Go.Proofs.Tro.prog.funcs[88]? = Option.some Go.Proofs.Try.f88 := by kernel_rfl
@[simp] theorem Tro.func89 : Go.Proofs.Tro.prog.funcs[89]? = Option.some Go.Proofs.Try.f89 := by kernel_rfl
@[simp] theorem Tro.func90 : Go.Proofs.Tro.prog.funcs[90]? = Option.some Go.Proofs.Try.f90 := by kernel_rfl
@[simp] theorem Tro.func91 : Go.Proofs.Tro.prog.funcs[91]? = Option.some Go.Proofs.Try.f91 := by kernel_rfl
@[simp] theorem Tro.func92 : Go.Proofs.Tro.prog.funcs[92]? = Option.some Go.Proofs.Try.f92 := by kernel_rfl
@[simp] theorem Tro.func93 : Go.Proofs.Tro.prog.funcs[93]? = Option.some Go.Proofs.Try.f93 := by kernel_rfl
@[simp] theorem Tro.func94 : Go.Proofs.Tro.prog.funcs[94]? = Option.some Go.Proofs.Try.f94 := by kernel_rfl
@[simp] theorem Tro.func95 : Go.Proofs.Tro.prog.funcs[95]? = Option.some Go.Proofs.Try.f95 := by kernel_rfl
@[simp] theorem Tro.func96 : Go.Proofs.Tro.prog.funcs[96]? = Option.some Go.Proofs.Try.f96 := by kernel_rfl
@[simp] theorem Tro.func97 : Go.Proofs.Tro.prog.funcs[97]? = Option.some Go.Proofs.Try.f97 := by kernel_rfl
@[simp] theorem Tro.func98 : Go.Proofs.Tro.prog.funcs[98]? = Option.some Go.Proofs.Try.f98 := by kernel_rfl
@[simp] theorem Tro.func99 : Go.Proofs.Tro.prog.funcs[99]? = Option.some Go.Proofs.Try.f99 := by kernel_rfl
@[simp] theorem Tro.func100 : Go.Proofs.Tro.prog.funcs[100]? = Option.some Go.Proofs.Try.f100 := by kernel_rfl
@[simp] theorem Tro.func101 : Go.Proofs.Tro.prog.funcs[101]? = Option.some Go.Proofs.Try.f101 := by kernel_rfl
@[simp] theorem Tro.func102 : Go.Proofs.Tro.prog.funcs[102]? = Option.some Go.Proofs.Try.f102 := by kernel_rfl
@[simp] theorem Tro.func103 : Go.Proofs.Tro.prog.funcs[103]? = Option.some Go.Proofs.Try.f103 := by kernel_rfl
@[simp] theorem Tro.func104 : Go.Proofs.Tro.prog.funcs[104]? = Option.some Go.Proofs.Try.f104 := by kernel_rfl
@[simp] theorem Tro.func105 : Go.Proofs.Tro.prog.funcs[105]? = Option.some Go.Proofs.Try.f105 := by kernel_rfl
@[simp] theorem Tro.func106 : Go.Proofs.Tro.prog.funcs[106]? = Option.some Go.Proofs.Try.f106 := by kernel_rfl
@[simp] theorem Tro.func107 : Go.Proofs.Tro.prog.funcs[107]? = Option.some Go.Proofs.Try.f107 := by kernel_rfl
@[simp] theorem Tro.func108 : Go.Proofs.Tro.prog.funcs[108]? = Option.some Go.Proofs.Try.f108 := by kernel_rfl
@[simp] theorem Tro.func109 : Go.Proofs.Tro.prog.funcs[109]? = Option.some Go.Proofs.Try.f109 := by kernel_rfl
@[simp] theorem Tro.func110 : Go.Proofs.Tro.prog.funcs[110]? = Option.some Go.Proofs.Try.f110 := by kernel_rfl
@[simp] theorem Tro.func111 : Go.Proofs.Tro.prog.funcs[111]? = Option.some Go.Proofs.Try.f111 := by kernel_rfl
@[simp] theorem Tro.func112 : Go.Proofs.Tro.prog.funcs[112]? = Option.some Go.Proofs.Try.f112 := by kernel_rfl
@[simp] theorem Tro.func113 : Go.Proofs.Tro.prog.funcs[113]? = Option.some Go.Proofs.Try.f113 := by kernel_rfl
@[simp] theorem Tro.func114 : Go.Proofs.Tro.prog.funcs[114]? = Option.some Go.Proofs.Try.f114 := by kernel_rfl
@[simp] theorem Tro.func115 : Go.Proofs.Tro.prog.funcs[115]? = Option.some Go.Proofs.Try.f115 := by kernel_rfl
@[simp] theorem Tro.func116 : Go.Proofs.Tro.prog.funcs[116]? = Option.some Go.Proofs.Try.f116 := by kernel_rfl
@[simp] theorem Tro.func117 : Go.Proofs.Tro.prog.funcs[117]? = Option.some Go.Proofs.Try.f117 := by kernel_rfl
@[simp] theorem Tro.func118 : Go.Proofs.Tro.prog.funcs[118]? = Option.some Go.Proofs.Try.f118 := by kernel_rfl
@[simp] theorem Tro.func119 : Go.Proofs.Tro.prog.funcs[119]? = Option.some Go.Proofs.Try.f119 := by kernel_rfl
@[simp] theorem Tro.func120 : Go.Proofs.Tro.prog.funcs[120]? = Option.some Go.Proofs.Try.f120 := by kernel_rfl
@[simp] theorem Tro.func121 : Go.Proofs.Tro.prog.funcs[121]? = Option.some Go.Proofs.Try.f121 := by kernel_rfl
@[simp] theorem Tro.func122 : Go.Proofs.Tro.prog.funcs[122]? = Option.some Go.Proofs.Try.f122 := by kernel_rfl
@[simp] theorem Tro.func123 : Go.Proofs.Tro.prog.funcs[123]? = Option.some Go.Proofs.Try.f123 := by kernel_rfl
@[simp] theorem Tro.globals_size : Go.Proofs.Tro.prog.globals.size = 0 := by kernel_rfl
@[simp] theorem Tro.inits_eq : Go.Proofs.Tro.prog.inits = #[2] := by kernel_rfl
@[simp] theorem Tro.isAgg0 : ∀ (w : Go.World), Go.Sem.run Go.Proofs.Tro.prog (Go.isAgg 0) w = Go.Result.ok Bool.false w := fun w => by kernel_rfl
@[simp] theorem Tro.isAgg1 : ∀ (w : Go.World), Go.Sem.run Go.Proofs.Tro.prog (Go.isAgg 1) w = Go.Result.ok Bool.false w := fun w => by kernel_rfl
@[simp] theorem Tro.isAgg2 : ∀ (w : Go.World), Go.Sem.run Go.Proofs.Tro.prog (Go.isAgg 2) w = Go.Result.ok Bool.false w := fun w => by kernel_rfl
@[simp] theorem Tro.isAgg3 : ∀ (w : Go.World), Go.Sem.run Go.Proofs.Tro.prog (Go.isAgg 3) w = Go.Result.ok Bool.false w := fun w => by kernel_rfl
@[simp] theorem Tro.isAgg4 : ∀ (w : Go.World), Go.Sem.run Go.Proofs.Tro.prog (Go.isAgg 4) w = Go.Result.ok Bool.false w := fun w => by kernel_rfl
@[simp] theorem Tro.isAgg5 : ∀ (w : Go.World), Go.Sem.run Go.Proofs.Tro.prog (Go.isAgg 5) w = Go.Result.ok Bool.false w := fun w => by kernel_rfl
@[simp] theorem Tro.isAgg6 : ∀ (w : Go.World), Go.Sem.run Go.Proofs.Tro.prog (Go.isAgg 6) w = Go.Result.ok Bool.false w := fun w => by kernel_rfl
@[simp] theorem Tro.isAgg7 : ∀ (w : Go.World), Go.Sem.run Go.Proofs.Tro.prog (Go.isAgg 7) w = Go.Result.ok Bool.true w := fun w => by kernel_rfl
@[simp] theorem Tro.isAgg8 : ∀ (w : Go.World), Go.Sem.run Go.Proofs.Tro.prog (Go.isAgg 8) w = Go.Result.ok Bool.true w := fun w => by kernel_rfl
@[simp] theorem Tro.isAgg9 : ∀ (w : Go.World), Go.Sem.run Go.Proofs.Tro.prog (Go.isAgg 9) w = Go.Result.ok Bool.false w := fun w => by kernel_rfl
@[simp] theorem Tro.isAgg10 : ∀ (w : Go.World), Go.Sem.run Go.Proofs.Tro.prog (Go.isAgg 10) w = Go.Result.ok Bool.false w := fun w => by kernel_rfl
@[simp] theorem Tro.isAgg11 : ∀ (w : Go.World), Go.Sem.run Go.Proofs.Tro.prog (Go.isAgg 11) w = Go.Result.ok Bool.false w := fun w => by kernel_rfl
@[simp] theorem Tro.isAgg12 : ∀ (w : Go.World), Go.Sem.run Go.Proofs.Tro.prog (Go.isAgg 12) w = Go.Result.ok Bool.false w := fun w => by kernel_rfl
@[simp] theorem Tro.isAgg13 : ∀ (w : Go.World), Go.Sem.run Go.Proofs.Tro.prog (Go.isAgg 13) w = Go.Result.ok Bool.true w := fun w => by kernel_rfl
@[simp] theorem Tro.isAgg14 : ∀ (w : Go.World), Go.Sem.run Go.Proofs.Tro.prog (Go.isAgg 14) w = Go.Result.ok Bool.true w := fun w => by kernel_rfl
@[simp] theorem Tro.isAgg15 : ∀ (w : Go.World), Go.Sem.run Go.Proofs.Tro.prog (Go.isAgg 15) w = Go.Result.ok Bool.false w := fun w => by kernel_rfl
@[simp] theorem Tro.isAgg16 : ∀ (w : Go.World), Go.Sem.run Go.Proofs.Tro.prog (Go.isAgg 16) w = Go.Result.ok Bool.false w := fun w => by kernel_rfl
@[simp] theorem Tro.isAgg17 : ∀ (w : Go.World), Go.Sem.run Go.Proofs.Tro.prog (Go.isAgg 17) w = Go.Result.ok Bool.false w := fun w => by kernel_rfl
@[simp] theorem Tro.isAgg18 : ∀ (w : Go.World), Go.Sem.run Go.Proofs.Tro.prog (Go.isAgg 18) w = Go.Result.ok Bool.true w := fun w => by kernel_rfl
@[simp] theorem Tro.isAgg19 : ∀ (w : Go.World), Go.Sem.run Go.Proofs.Tro.prog (Go.isAgg 19) w = Go.Result.ok Bool.true w := fun w => by kernel_rfl
@[simp] theorem Tro.isAgg20 : ∀ (w : Go.World), Go.Sem.run Go.Proofs.Tro.prog (Go.isAgg 20) w = Go.Result.ok Bool.false w := fun w => by kernel_rfl
@[simp] theorem Tro.isAgg21 : ∀ (w : Go.World), Go.Sem.run Go.Proofs.Tro.prog (Go.isAgg 21) w = Go.Result.ok Bool.false w := fun w => by kernel_rfl
@[simp] theorem Tro.isAgg22 : ∀ (w : Go.World), Go.Sem.run Go.Proofs.Tro.prog (Go.isAgg 22) w = Go.Result.ok Bool.false w := fun w => by kernel_rfl
@[simp] theorem Tro.isAgg23 : ∀ (w : Go.World), Go.Sem.run Go.Proofs.Tro.prog (Go.isAgg 23) w = Go.Result.ok Bool.false w := fun w => by kernel_rfl
@[simp] theorem Tro.isAgg24 : ∀ (w : Go.World), Go.Sem.run Go.Proofs.Tro.prog (Go.isAgg 24) w = Go.Result.ok Bool.false w := fun w => by kernel_rfl
@[simp] theorem Tro.isAgg25 : ∀ (w : Go.World), Go.Sem.run Go.Proofs.Tro.prog (Go.isAgg 25) w = Go.Result.ok Bool.false w := fun w => by kernel_rfl
@[simp] theorem Tro.isAgg26 : ∀ (w : Go.World), Go.Sem.run Go.Proofs.Tro.prog (Go.isAgg 26) w = Go.Result.ok Bool.false w := fun w => by kernel_rfl
@[simp] theorem Tro.isAgg27 : ∀ (w : Go.World), Go.Sem.run Go.Proofs.Tro.prog (Go.isAgg 27) w = Go.Result.ok Bool.false w := fun w => by kernel_rfl
@[simp] theorem Tro.isAgg28 : ∀ (w : Go.World), Go.Sem.run Go.Proofs.Tro.prog (Go.isAgg 28) w = Go.Result.ok Bool.false w := fun w => by kernel_rfl
@[simp] theorem Tro.isAgg29 : ∀ (w : Go.World), Go.Sem.run Go.Proofs.Tro.prog (Go.isAgg 29) w = Go.Result.ok Bool.false w := fun w => by kernel_rfl
@[simp] theorem Tro.isAgg30 : ∀ (w : Go.World), Go.Sem.run Go.Proofs.Tro.prog (Go.isAgg 30) w = Go.Result.ok Bool.false w := fun w => by kernel_rfl
@[simp] theorem Tro.isAgg31 : ∀ (w : Go.World), Go.Sem.run Go.Proofs.Tro.prog (Go.isAgg 31) w = Go.Result.ok Bool.false w := fun w => by kernel_rfl
@[simp] theorem Tro.isAgg32 : ∀ (w : Go.World), Go.Sem.run Go.Proofs.Tro.prog (Go.isAgg 32) w = Go.Result.ok Bool.false w := fun w => by kernel_rfl
@[simp] theorem Tro.isAgg33 : ∀ (w : Go.World), Go.Sem.run Go.Proofs.Tro.prog (Go.isAgg 33) w = Go.Result.ok Bool.false w := fun w => by kernel_rfl
@[simp] theorem Tro.isAgg34 : ∀ (w : Go.World), Go.Sem.run Go.Proofs.Tro.prog (Go.isAgg 34) w = Go.Result.ok Bool.false w := fun w => by kernel_rfl
@[simp] theorem Tro.isAgg35 : ∀ (w : Go.World), Go.Sem.run Go.Proofs.Tro.prog (Go.isAgg 35) w = Go.Result.ok Bool.false w := fun w => by kernel_rfl
@[simp] theorem Tro.isAgg36 : ∀ (w : Go.World), Go.Sem.run Go.Proofs.Tro.prog (Go.isAgg 36) w = Go.Result.ok Bool.false w := fun w => by kernel_rfl
@[simp] theorem Tro.isAgg37 : ∀ (w : Go.World), Go.Sem.run Go.Proofs.Tro.prog (Go.isAgg 37) w = Go.Result.ok Bool.false w := fun w => by kernel_rfl
@[simp] theorem Tro.isAgg38 : ∀ (w : Go.World), Go.Sem.run Go.Proofs.Tro.prog (Go.isAgg 38) w = Go.Result.ok Bool.false w := fun w => by kernel_rfl
@[simp] theorem Tro.isAgg39 : ∀ (w : Go.World), Go.Sem.run Go.Proofs.Tro.prog (Go.isAgg 39) w = Go.Result.ok Bool.false w := fun w => by kernel_rfl
@[simp] theorem Tro.isAgg40 : ∀ (w : Go.World), Go.Sem.run Go.Proofs.Tro.prog (Go.isAgg 40) w = Go.Result.ok Bool.false w := fun w => by kernel_rfl
@[simp] theorem Tro.isAgg41 : ∀ (w : Go.World), Go.Sem.run Go.Proofs.Tro.prog (Go.isAgg 41) w = Go.Result.ok Bool.false w := fun w => by kernel_rfl
@[simp] theorem Tro.isAgg42 : ∀ (w : Go.World), Go.Sem.run Go.Proofs.Tro.prog (Go.isAgg 42) w = Go.Result.ok Bool.false w := fun w => by kernel_rfl
@[simp] theorem Tro.isAgg43 : ∀ (w : Go.World), Go.Sem.run Go.Proofs.Tro.prog (Go.isAgg 43) w = Go.Result.ok Bool.false w := fun w => by kernel_rfl
@[simp] theorem Tro.isAgg44 : ∀ (w : Go.World), Go.Sem.run Go.Proofs.Tro.prog (Go.isAgg 44) w = Go.Result.ok Bool.false w := fun w => by kernel_rfl
@[simp] theorem Tro.isAgg45 : ∀ (w : Go.World), Go.Sem.run Go.Proofs.Tro.prog (Go.isAgg 45) w = Go.Result.ok Bool.false w := fun w => by kernel_rfl
@[simp] theorem Tro.isAgg46 : ∀ (w : Go.World), Go.Sem.run Go.Proofs.Tro.prog (Go.isAgg 46) w = Go.Result.ok Bool.true w := fun w => by kernel_rfl
@[simp] theorem Tro.isAgg47 : ∀ (w : Go.World), Go.Sem.run Go.Proofs.Tro.prog (Go.isAgg 47) w = Go.Result.ok Bool.true w := fun w => by kernel_rfl
@[simp] theorem Tro.isAgg48 : ∀ (w : Go.World), Go.Sem.run Go.Proofs.Tro.prog (Go.isAgg 48) w = Go.Result.ok Bool.true w := fun w => by kernel_rfl
@[simp] theorem Tro.isAgg49 : ∀ (w : Go.World), Go.Sem.run Go.Proofs.Tro.prog (Go.isAgg 49) w = Go.Result.ok Bool.true w := fun w => by kernel_rfl
@[simp] theorem Tro.isAgg50 : ∀ (w : Go.World), Go.Sem.run Go.Proofs.Tro.prog (Go.isAgg 50) w = Go.Result.ok Bool.false w := fun w => by kernel_rfl
@[simp] theorem Tro.isAgg51 : ∀ (w : Go.World), Go.Sem.run Go.Proofs.Tro.prog (Go.isAgg 51) w = Go.Result.ok Bool.false w := fun w => by kernel_rfl
@[simp] theorem Tro.isAgg52 : ∀ (w : Go.World), Go.Sem.run Go.Proofs.Tro.prog (Go.isAgg 52) w = Go.Result.ok Bool.false w := fun w => by kernel_rfl
@[simp] theorem Tro.isAgg53 : ∀ (w : Go.World), Go.Sem.run Go.Proofs.Tro.prog (Go.isAgg 53) w = Go.Result.ok Bool.false w := fun w => by kernel_rfl
@[simp] theorem Tro.isAgg54 : ∀ (w : Go.World), Go.Sem.run Go.Proofs.Tro.prog (Go.isAgg 54) w = Go.Result.ok Bool.false w := fun w => by kernel_rfl
@[simp] theorem Tro.isAgg55 : ∀ (w : Go.World), Go.Sem.run Go.Proofs.Tro.prog (Go.isAgg 55) w = Go.Result.ok Bool.false w := fun w => by kernel_rfl
@[simp] theorem Tro.isAgg56 : ∀ (w : Go.World), Go.Sem.run Go.Proofs.Tro.prog (Go.isAgg 56) w = Go.Result.ok Bool.false w := fun w => by kernel_rfl
@[simp] theorem Tro.isAgg57 : ∀ (w : Go.World), Go.Sem.run Go.Proofs.Tro.prog (Go.isAgg 57) w = Go.Result.ok Bool.false w := fun w => by kernel_rfl
@[simp] theorem Tro.isAgg58 : ∀ (w : Go.World), Go.Sem.run Go.Proofs.Tro.prog (Go.isAgg 58) w = Go.Result.ok Bool.false w := fun w => by kernel_rfl
@[simp] theorem Tro.isAgg59 : ∀ (w : Go.World), Go.Sem.run Go.Proofs.Tro.prog (Go.isAgg 59) w = Go.Result.ok Bool.false w := fun w => by kernel_rfl
@[simp] theorem Tro.isAgg60 : ∀ (w : Go.World), Go.Sem.run Go.Proofs.Tro.prog (Go.isAgg 60) w = Go.Result.ok Bool.false w := fun w => by kernel_rfl
@[simp] theorem Tro.isAgg61 : ∀ (w : Go.World), Go.Sem.run Go.Proofs.Tro.prog (Go.isAgg 61) w = Go.Result.ok Bool.true w := fun w => by kernel_rfl
@[simp] theorem Tro.isAgg62 : ∀ (w : Go.World), Go.Sem.run Go.Proofs.Tro.prog (Go.isAgg 62) w = Go.Result.ok Bool.true w := fun w => by kernel_rfl
@[simp] theorem Tro.isAgg63 : ∀ (w : Go.World), Go.Sem.run Go.Proofs.Tro.prog (Go.isAgg 63) w = Go.Result.ok Bool.false w := fun w => by kernel_rfl
@[simp] theorem Tro.isAgg64 : ∀ (w : Go.World), Go.Sem.run Go.Proofs.Tro.prog (Go.isAgg 64) w = Go.Result.ok Bool.false w := fun w => by kernel_rfl
@[simp] theorem Tro.isAgg65 : ∀ (w : Go.World), Go.Sem.run Go.Proofs.Tro.prog (Go.isAgg 65) w = Go.Result.ok Bool.false w := fun w => by kernel_rfl
@[simp] theorem Tro.isAgg66 : ∀ (w : Go.World), Go.Sem.run Go.Proofs.Tro.prog (Go.isAgg 66) w = Go.Result.ok Bool.false w := fun w => by kernel_rfl
@[simp] theorem Tro.isAgg67 : ∀ (w : Go.World), Go.Sem.run Go.Proofs.Tro.prog (Go.isAgg 67) w = Go.Result.ok Bool.false w := fun w => by kernel_rfl
@[simp] theorem Tro.isAgg68 : ∀ (w : Go.World), Go.Sem.run Go.Proofs.Tro.prog (Go.isAgg 68) w = Go.Result.ok Bool.false w := fun w => by kernel_rfl
@[simp] theorem Tro.isAgg69 : ∀ (w : Go.World), Go.Sem.run Go.Proofs.Tro.prog (Go.isAgg 69) w = Go.Result.ok Bool.false w := fun w => by kernel_rfl
@[simp] theorem Tro.isAgg70 : ∀ (w : Go.World), Go.Sem.run Go.Proofs.Tro.prog (Go.isAgg 70) w = Go.Result.ok Bool.false w := fun w => by kernel_rfl
@[simp] theorem Tro.isAgg71 : ∀ (w : Go.World), Go.Sem.run Go.Proofs.Tro.prog (Go.isAgg 71) w = Go.Result.ok Bool.false w := fun w => by kernel_rfl
@[simp] theorem Tro.isAgg72 : ∀ (w : Go.World), Go.Sem.run Go.Proofs.Tro.prog (Go.isAgg 72) w = Go.Result.ok Bool.false w := fun w => by kernel_rfl
@[simp] theorem Tro.isAgg73 : ∀ (w : Go.World), Go.Sem.run Go.Proofs.Tro.prog (Go.isAgg 73) w = Go.Result.ok Bool.false w := fun w => by kernel_rfl
@[simp] theorem Tro.isAgg74 : ∀ (w : Go.World), Go.Sem.run Go.Proofs.Tro.prog (Go.isAgg 74) w = Go.Result.ok Bool.false w := fun w => by kernel_rfl
@[simp] theorem Tro.isAgg75 : ∀ (w : Go.World), Go.Sem.run Go.Proofs.Tro.prog (Go.isAgg 75) w = Go.Result.ok Bool.false w := fun w => by kernel_rfl
@[simp] theorem Tro.isAgg76 : ∀ (w : Go.World), Go.Sem.run Go.Proofs.Tro.prog (Go.isAgg 76) w = Go.Result.ok Bool.false w := fun w => by kernel_rfl
@[simp] theorem Tro.isAgg77 : ∀ (w : Go.World), Go.Sem.run Go.Proofs.Tro.prog (Go.isAgg 77) w = Go.Result.ok Bool.false w := fun w => by kernel_rfl
@[simp] theorem Tro.isAgg78 : ∀ (w : Go.World), Go.Sem.run Go.Proofs.Tro.prog (Go.isAgg 78) w = Go.Result.ok Bool.false w := fun w => by kernel_rfl
@[simp] theorem Tro.isAgg79 : ∀ (w : Go.World), Go.Sem.run Go.Proofs.Tro.prog (Go.isAgg 79) w = Go.Result.ok Bool.false w := fun w => by kernel_rfl
@[simp] theorem Tro.isAgg80 : ∀ (w : Go.World), Go.Sem.run Go.Proofs.Tro.prog (Go.isAgg 80) w = Go.Result.ok Bool.false w := fun w => by kernel_rfl
@[simp] theorem Tro.isAgg81 : ∀ (w : Go.World), Go.Sem.run Go.Proofs.Tro.prog (Go.isAgg 81) w = Go.Result.ok Bool.false w := fun w => by kernel_rfl
@[simp] theorem Tro.isAgg82 : ∀ (w : Go.World), Go.Sem.run Go.Proofs.Tro.prog (Go.isAgg 82) w = Go.Result.ok Bool.false w := fun w => by kernel_rfl
@[simp] theorem Tro.isAgg83 : ∀ (w : Go.World), Go.Sem.run Go.Proofs.Tro.prog (Go.isAgg 83) w = Go.Result.ok Bool.false w := fun w => by kernel_rfl
@[simp] theorem Tro.isAgg84 : ∀ (w : Go.World), Go.Sem.run Go.Proofs.Tro.prog (Go.isAgg 84) w = Go.Result.ok Bool.false w := fun w => by kernel_rfl
@[simp] theorem Tro.isAgg85 : ∀ (w : Go.World), Go.Sem.run Go.Proofs.Tro.prog (Go.isAgg 85) w = Go.Result.ok Bool.false w := fun w => by kernel_rfl
@[simp] theorem Tro.isAgg86 : ∀ (w : Go.World), Go.Sem.run Go.Proofs.Tro.prog (Go.isAgg 86) w = Go.Result.ok Bool.false w := fun w => by kernel_rfl
@[simp] theorem Tro.isAgg87 : ∀ (w : Go.World), Go.Sem.run Go.Proofs.Tro.prog (Go.isAgg 87) w = Go.Result.ok Bool.false w := fun w => by kernel_rfl
@[simp] theorem Tro.isAgg88 : ∀ (w : Go.World), Go.Sem.run Go.Proofs.Tro.prog (Go.isAgg 88) w = Go.Result.ok Bool.false w := fun w => by kernel_rfl
@[simp] theorem Tro.isAgg89 : ∀ (w : Go.World), Go.Sem.run Go.Proofs.Tro.prog (Go.isAgg 89) w = Go.Result.ok Bool.false w := fun w => by kernel_rfl
@[simp] theorem Tro.isAgg90 : ∀ (w : Go.World), Go.Sem.run Go.Proofs.Tro.prog (Go.isAgg 90) w = Go.Result.ok Bool.false w := fun w => by kernel_rfl
@[simp] theorem Tro.isAgg91 : ∀ (w : Go.World), Go.Sem.run Go.Proofs.Tro.prog (Go.isAgg 91) w = Go.Result.ok Bool.false w := fun w => by kernel_rfl
@[simp] theorem Tro.isAgg92 : ∀ (w : Go.World), Go.Sem.run Go.Proofs.Tro.prog (Go.isAgg 92) w = Go.Result.ok Bool.false w := fun w => by kernel_rfl
@[simp] theorem Tro.isAgg93 : ∀ (w : Go.World), Go.Sem.run Go.Proofs.Tro.prog (Go.isAgg 93) w = Go.Result.ok Bool.false w := fun w => by kernel_rfl
@[simp] theorem Tro.isAgg94 : ∀ (w : Go.World), Go.Sem.run Go.Proofs.Tro.prog (Go.isAgg 94) w = Go.Result.ok Bool.false w := fun w => by kernel_rfl
@[simp] theorem Tro.isAgg95 : ∀ (w : Go.World), Go.Sem.run Go.Proofs.Tro.prog (Go.isAgg 95) w = Go.Result.ok Bool.false w := fun w => by kernel_rfl
@[simp] theorem Tro.isAgg96 : ∀ (w : Go.World), Go.Sem.run Go.Proofs.Tro.prog (Go.isAgg 96) w = Go.Result.ok Bool.true w := fun w => by kernel_rfl
@[simp] theorem Tro.isAgg97 : ∀ (w : Go.World), Go.Sem.run Go.Proofs.Tro.prog (Go.isAgg 97) w = Go.Result.ok Bool.true w := fun w => by kernel_rfl
@[simp] theorem Tro.isAgg98 : ∀ (w : Go.World), Go.Sem.run Go.Proofs.Tro.prog (Go.isAgg 98) w = Go.Result.ok Bool.true w := fun w => by kernel_rfl
@[simp] theorem Tro.isAgg99 : ∀ (w : Go.World), Go.Sem.run Go.Proofs.Tro.prog (Go.isAgg 99) w = Go.Result.ok Bool.true w := fun w => by kernel_rfl
@[simp] theorem Tro.isAgg100 : ∀ (w : Go.World), Go.Sem.run Go.Proofs.Tro.prog (Go.isAgg 100) w = Go.Result.ok Bool.true w := fun w => by kernel_rfl
@[simp] theorem Tro.isAgg101 : ∀ (w : Go.World), Go.Sem.run Go.Proofs.Tro.prog (Go.isAgg 101) w = Go.Result.ok Bool.false w := fun w => by kernel_rfl
@[simp] theorem Tro.isAgg102 : ∀ (w : Go.World), Go.Sem.run Go.Proofs.Tro.prog (Go.isAgg 102) w = Go.Result.ok Bool.false w := fun w => by kernel_rfl
@[simp] theorem Tro.isAgg103 : ∀ (w : Go.World), Go.Sem.run Go.Proofs.Tro.prog (Go.isAgg 103) w = Go.Result.ok Bool.false w := fun w => by kernel_rfl
@[simp] theorem Tro.isAgg104 : ∀ (w : Go.World), Go.Sem.run Go.Proofs.Tro.prog (Go.isAgg 104) w = Go.Result.ok Bool.false w := fun w => by kernel_rfl
@[simp] theorem Tro.isAgg105 : ∀ (w : Go.World), Go.Sem.run Go.Proofs.Tro.prog (Go.isAgg 105) w = Go.Result.ok Bool.false w := fun w => by kernel_rfl
@[simp] theorem Tro.isAgg106 : ∀ (w : Go.World), Go.Sem.run Go.Proofs.Tro.prog (Go.isAgg 106) w = Go.Result.ok Bool.false w := fun w => by kernel_rfl
@[simp] theorem Tro.isAgg107 : ∀ (w : Go.World), Go.Sem.run Go.Proofs.Tro.prog (Go.isAgg 107) w = Go.Result.ok Bool.true w := fun w => by kernel_rfl
@[simp] theorem Tro.isAgg108 : ∀ (w : Go.World), Go.Sem.run Go.Proofs.Tro.prog (Go.isAgg 108) w = Go.Result.ok Bool.true w := fun w => by kernel_rfl
@[simp] theorem Tro.isAgg109 : ∀ (w : Go.World), Go.Sem.run Go.Proofs.Tro.prog (Go.isAgg 109) w = Go.Result.ok Bool.false w := fun w => by kernel_rfl
@[simp] theorem Tro.main_eq : Go.Proofs.Tro.prog.main = 0 := by kernel_rfl
theorem Tro.nfree0 : Go.Proofs.Try.f0.nfree = 0 := Try.nfree0
theorem Tro.nfree1 : Go.Proofs.Try.f1.nfree = 0 := Try.nfree1
theorem Tro.nfree2 : Go.Proofs.Try.f2.nfree = 0 := Try.nfree2
theorem Tro.nfree3 : Go.Proofs.Try.f3.nfree = 0 := Try.nfree3
theorem Tro.nfree4 : Go.Proofs.Try.f4.nfree = 0 := Try.nfree4
theorem Tro.nfree5 : Go.Proofs.Try.f5.nfree = 0 := Try.nfree5
theorem Tro.nfree6 : Go.Proofs.Try.f6.nfree = 0 := Try.nfree6
theorem Tro.nfree7 : Go.Proofs.Try.f7.nfree = 0 := Try.nfree7
theorem Tro.nfree8 : Go.Proofs.Try.f8.nfree = 0 := Try.nfree8
theorem Tro.nfree9 : Go.Proofs.Try.f9.nfree = 0 := Try.nfree9
theorem Tro.nfree10 : Go.Proofs.Try.f10.nfree = 0 := Try.nfree10
theorem Tro.nfree11 : Go.Proofs.Try.f11.nfree = 0 := Try.nfree11
theorem Tro.nfree12 : Go.Proofs.Try.f12.nfree = 0 := Try.nfree12
theorem Tro.nfree13 : Go.Proofs.Try.f13.nfree = 0 := Try.nfree13
theorem Tro.nfree14 : Go.Proofs.Try.f14.nfree = 0 := Try.nfree14
theorem Tro.nfree15 : Go.Proofs.Try.f15.nfree = 0 := Try.nfree15
theorem Tro.nfree16 : Go.Proofs.Try.f16.nfree = 0 := Try.nfree16
theorem Tro.nfree17 : Go.Proofs.Try.f17.nfree = 0 := Try.nfree17
theorem Tro.nfree18 : Go.Proofs.Try.f18.nfree = 0 := Try.nfree18
theorem Tro.nfree19 : Go.Proofs.Try.f19.nfree = 0 := Try.nfree19
theorem Tro.nfree20 : Go.Proofs.Try.f20.nfree = 0 := Try.nfree20
theorem Tro.nfree21 : Go.Proofs.Try.f21.nfree = 0 := Try.nfree21
theorem Tro.nfree22 : Go.Proofs.Try.f22.nfree = 0 := Try.nfree22
theorem Tro.nfree23 : Go.Proofs.Try.f23.nfree = 0 := Try.nfree23
theorem Tro.nfree24 : Go.Proofs.Try.f24.nfree = 0 := Try.nfree24
theorem Tro.nfree25 : Go.Proofs.Try.f25.nfree = 0 := Try.nfree25
theorem Tro.nfree26 : Go.Proofs.Try.f26.nfree = 0 := Try.nfree26
theorem Tro.nfree27 : Go.Proofs.Try.f27.nfree = 0 := Try.nfree27
theorem Tro.nfree28 : Go.Proofs.Try.f28.nfree = 0 := Try.nfree28
theorem Tro.nfree29 : Go.Proofs.Try.f29.nfree = 0 := Try.nfree29
theorem Tro.nfree30 : Go.Proofs.Try.f30.nfree = 0 := Try.nfree30
theorem Tro.nfree31 : Go.Proofs.Try.f31.nfree = 0 := Try.nfree31
theorem Tro.nfree32 : Go.Proofs.Try.f32.nfree = 0 := Try.nfree32
theorem Tro.nfree33 : Go.Proofs.Try.f33.nfree = 0 := Try.nfree33
theorem Tro.nfree34 : Go.Proofs.Try.f34.nfree = 0 := Try.nfree34
theorem Tro.nfree35 : Go.Proofs.Try.f35.nfree = 0 := Try.nfree35
theorem Tro.nfree36 : Go.Proofs.Try.f36.nfree = 0 := Try.nfree36
theorem Tro.nfree37 : Go.Proofs.Try.f37.nfree = 0 := Try.nfree37
theorem Tro.nfree38 : Go.Proofs.Try.f38.nfree = 0 := Try.nfree38
theorem Tro.nfree39 : Go.Proofs.Try.f39.nfree = 0 := Try.nfree39
theorem Tro.nfree40 : Go.Proofs.Try.f40.nfree = 0 := Try.nfree40
theorem Tro.nfree41 : Go.Proofs.Try.f41.nfree = 0 := Try.nfree41
@[simp] theorem Tro.nfree42 : Go.Proofs.Tro.f42.nfree = 0 := by kernel_rfl
theorem Tro.nfree43 : Go.Proofs.Try.f43.nfree = 0 := Try.nfree43
theorem Tro.nfree44 : Go.Proofs.Try.f44.nfree = 0 := Try.nfree44
theorem Tro.nfree45 : Go.Proofs.Try.f45.nfree = 0 := Try.nfree45
theorem Tro.nfree46 : Go.Proofs.Try.f46.nfree = 0 := Try.nfree46
theorem Tro.nfree47 : Go.Proofs.Try.f47.nfree = 0 := Try.nfree47
theorem Tro.nfree48 : Go.Proofs.Try.f48.nfree = 0 := Try.nfree48
theorem Tro.nfree49 : Go.Proofs.Try.f49.nfree = 0 := Try.nfree49
theorem Tro.nfree50 : Go.Proofs.Try.f50.nfree = 0 := Try.nfree50
theorem Tro.nfree51 : Go.Proofs.Try.f51.nfree = 0 := Try.nfree51
theorem Tro.nfree52 : Go.Proofs.Try.f52.nfree = 0 := Try.nfree52
theorem Tro.nfree53 : Go.Proofs.Try.f53.nfree = 0 := Try.nfree53
theorem Tro.nfree54 : Go.Proofs.Try.f54.nfree = 0 := Try.nfree54
theorem Tro.nfree55 : Go.Proofs.Try.f55.nfree = 0 := Try.nfree55
theorem Tro.nfree56 : Go.Proofs.Try.f56.nfree = 0 := Try.nfree56
theorem Tro.nfree57 : Go.Proofs.Try.f57.nfree = 0 := Try.nfree57
theorem Tro.nfree58 : Go.Proofs.Try.f58.nfree = 0 := Try.nfree58
theorem Tro.nfree59 : Go.Proofs.Try.f59.nfree = 0 := Try.nfree59
theorem Tro.nfree60 : Go.Proofs.Try.f60.nfree = 0 := Try.nfree60
theorem Tro.nfree61 : Go.Proofs.Try.f61.nfree = 0 := Try.nfree61
theorem Tro.nfree62 : Go.Proofs.Try.f62.nfree = 0 := Try.nfree62
theorem Tro.nfree63 : Go.Proofs.Try.f63.nfree = 0 := Try.nfree63
theorem Tro.nfree64 : Go.Proofs.Try.f64.nfree = 0 := Try.nfree64
theorem Tro.nfree65 : Go.Proofs.Try.f65.nfree = 0 := Try.nfree65
theorem Tro.nfree66 : Go.Proofs.Try.f66.nfree = 0 := Try.nfree66
theorem Tro.nfree67 : Go.Proofs.Try.f67.nfree = 0 := Try.nfree67
theorem Tro.nfree68 : Go.Proofs.Try.f68.nfree = 0 := Try.nfree68
theorem Tro.nfree69 : Go.Proofs.Try.f69.nfree = 0 := Try.nfree69
theorem Tro.nfree70 : Go.Proofs.Try.f70.nfree = 0 := Try.nfree70
theorem Tro.nfree71 : Go.Proofs.Try.f71.nfree = 0 := Try.nfree71
theorem Tro.nfree72 : Go.Proofs.Try.f72.nfree = 0 := Try.nfree72
theorem Tro.nfree73 : Go.Proofs.Try.f73.nfree = 0 := Try.nfree73
theorem Tro.nfree74 : Go.Proofs.Try.f74.nfree = 0 := Try.nfree74
theorem Tro.nfree75 : Go.Proofs.Try.f75.nfree = 0 := Try.nfree75
theorem Tro.nfree76 : Go.Proofs.Try.f76.nfree = 0 := Try.nfree76
theorem Tro.nfree77 : Go.Proofs.Try.f77.nfree = 0 := Try.nfree77
theorem Tro.nfree78 : Go.Proofs.Try.f78.nfree = 0 := Try.nfree78
theorem Tro.nfree79 : Go.Proofs.Try.f79.nfree = 0 := Try.nfree79
theorem Tro.nfree80 : Go.Proofs.Try.f80.nfree = 0 := Try.nfree80
theorem Tro.nfree81 : Go.Proofs.Try.f81.nfree = 0 := Try.nfree81
theorem Tro.nfree82 : Go.Proofs.Try.f82.nfree = 0 := Try.nfree82
theorem Tro.nfree83 : Go.Proofs.Try.f83.nfree = 3 := Try.nfree83
theorem Tro.nfree84 : Go.Proofs.Try.f84.nfree = 0 := Try.nfree84
theorem Tro.nfree85 : Go.Proofs.Try.f85.nfree = 0 := Try.nfree85
theorem Tro.nfree86 : Go.Proofs.Try.f86.nfree = 0 := Try.nfree86
theorem Tro.nfree87 : Go.Proofs.Try.f87.nfree = 0 := Try.nfree87
theorem Tro.nfree88 : Go.Proofs.Try.f88.nfree = 0 := Try.nfree88
theorem Tro.nfree89 : Go.Proofs.Try.f89.nfree = 0 := Try.nfree89
theorem Tro.nfree90 : Go.Proofs.Try.f90.nfree = 0 := Try.nfree90
theorem Tro.nfree91 : Go.Proofs.Try.f91.nfree = 0 := Try.nfree91
theorem Tro.nfree92 : Go.Proofs.Try.f92.nfree = 0 := Try.nfree92
theorem Tro.nfree93 : Go.Proofs.Try.f93.nfree = 0 := Try.nfree93
theorem Tro.nfree94 : Go.Proofs.Try.f94.nfree = 0 := Try.nfree94
theorem Tro.nfree95 : Go.Proofs.Try.f95.nfree = 0 := Try.nfree95
theorem Tro.nfree96 : Go.Proofs.Try.f96.nfree = 0 := Try.nfree96
theorem Tro.nfree97 : Go.Proofs.Try.f97.nfree = 0 := Try.nfree97
theorem Tro.nfree98 : Go.Proofs.Try.f98.nfree = 0 := Try.nfree98
theorem Tro.nfree99 : Go.Proofs.Try.f99.nfree = 0 := Try.nfree99
theorem Tro.nfree100 : Go.Proofs.Try.f100.nfree = 0 := Try.nfree100
theorem Tro.nfree101 : Go.Proofs.Try.f101.nfree = 0 := Try.nfree101
theorem Tro.nfree102 : Go.Proofs.Try.f102.nfree = 0 := Try.nfree102
theorem Tro.nfree103 : Go.Proofs.Try.f103.nfree = 0 := Try.nfree103
theorem Tro.nfree104 : Go.Proofs.Try.f104.nfree = 0 := Try.nfree104
theorem Tro.nfree105 : Go.Proofs.Try.f105.nfree = 0 := Try.nfree105
theorem Tro.nfree106 : Go.Proofs.Try.f106.nfree = 0 := Try.nfree106
theorem Tro.nfree107 : Go.Proofs.Try.f107.nfree = 0 := Try.nfree107
theorem Tro.nfree108 : Go.Proofs.Try.f108.nfree = 0 := Try.nfree108
theorem Tro.nfree109 : Go.Proofs.Try.f109.nfree = 0 := Try.nfree109
theorem Tro.nfree110 : Go.Proofs.Try.f110.nfree = 0 := Try.nfree110
theorem Tro.nfree111 : Go.Proofs.Try.f111.nfree = 0 := Try.nfree111
theorem Tro.nfree112 : Go.Proofs.Try.f112.nfree = 0 := Try.nfree112
theorem Tro.nfree113 : Go.Proofs.Try.f113.nfree = 0 := Try.nfree113
theorem Tro.nfree114 : Go.Proofs.Try.f114.nfree = 0 := Try.nfree114
theorem Tro.nfree115 : Go.Proofs.Try.f115.nfree = 0 := Try.nfree115
theorem Tro.nfree116 : Go.Proofs.Try.f116.nfree = 0 := Try.nfree116
theorem Tro.nfree117 : Go.Proofs.Try.f117.nfree = 0 := Try.nfree117
theorem Tro.nfree118 : Go.Proofs.Try.f118.nfree = 0 := Try.nfree118
theorem Tro.nfree119 : Go.Proofs.Try.f119.nfree = 0 := Try.nfree119
theorem Tro.nfree120 : Go.Proofs.Try.f120.nfree = 0 := Try.nfree120
theorem Tro.nfree121 : Go.Proofs.Try.f121.nfree = 0 := Try.nfree121
theorem Tro.nfree122 : Go.Proofs.Try.f122.nfree = 0 := Try.nfree122
theorem Tro.nfree123 : Go.Proofs.Try.f123.nfree = 0 := Try.nfree123
theorem Tro.ntmps0 : Go.Proofs.Try.f0.ntmps = 0 := Try.ntmps0
theorem Tro.ntmps1 : Go.Proofs.Try.f1.ntmps = 0 := Try.ntmps1
theorem Tro.ntmps2 : Go.Proofs.Try.f2.ntmps = 1 := Try.ntmps2
theorem Tro.ntmps3 : Go.Proofs.Try.f3.ntmps = 118 := Try.ntmps3
theorem Tro.ntmps4 : Go.Proofs.Try.f4.ntmps = 68 := Try.ntmps4
theorem Tro.ntmps5 : Go.Proofs.Try.f5.ntmps = 48 := Try.ntmps5
theorem Tro.ntmps6 : Go.Proofs.Try.f6.ntmps = 84 := Try.ntmps6
theorem Tro.ntmps7 : Go.Proofs.Try.f7.ntmps = 101 := Try.ntmps7
theorem Tro.ntmps8 : Go.Proofs.Try.f8.ntmps = 73 := Try.ntmps8
theorem Tro.ntmps9 : Go.Proofs.Try.f9.ntmps = 20 := Try.ntmps9
theorem Tro.ntmps10 : Go.Proofs.Try.f10.ntmps = 51 := Try.ntmps10
theorem Tro.ntmps11 : Go.Proofs.Try.f11.ntmps = 29 := Try.ntmps11
theorem Tro.ntmps12 : Go.Proofs.Try.f12.ntmps = 11 := Try.ntmps12
theorem Tro.ntmps13 : Go.Proofs.Try.f13.ntmps = 29 := Try.ntmps13
theorem Tro.ntmps14 : Go.Proofs.Try.f14.ntmps = 49 := Try.ntmps14
theorem Tro.ntmps15 : Go.Proofs.Try.f15.ntmps = 26 := Try.ntmps15
theorem Tro.ntmps16 : Go.Proofs.Try.f16.ntmps = 13 := Try.ntmps16
theorem Tro.ntmps17 : Go.Proofs.Try.f17.ntmps = 20 := Try.ntmps17
theorem Tro.ntmps18 : Go.Proofs.Try.f18.ntmps = 54 := Try.ntmps18
theorem Tro.ntmps19 : Go.Proofs.Try.f19.ntmps = 9 := Try.ntmps19
theorem Tro.ntmps20 : Go.Proofs.Try.f20.ntmps = 13 := Try.ntmps20
theorem Tro.ntmps21 : Go.Proofs.Try.f21.ntmps = 12 := Try.ntmps21
theorem Tro.ntmps22 : Go.Proofs.Try.f22.ntmps = 17 := Try.ntmps22
theorem Tro.ntmps23 : Go.Proofs.Try.f23.ntmps = 18 := Try.ntmps23
theorem Tro.ntmps24 : Go.Proofs.Try.f24.ntmps = 20 := Try.ntmps24
theorem Tro.ntmps25 : Go.Proofs.Try.f25.ntmps = 11 := Try.ntmps25
theorem Tro.ntmps26 : Go.Proofs.Try.f26.ntmps = 20 := Try.ntmps26
theorem Tro.ntmps27 : Go.Proofs.Try.f27.ntmps = 18 := Try.ntmps27
theorem Tro.ntmps28 : Go.Proofs.Try.f28.ntmps = 11 := Try.ntmps28
theorem Tro.ntmps29 : Go.Proofs.Try.f29.ntmps = 29 := Try.ntmps29
theorem Tro.ntmps30 : Go.Proofs.Try.f30.ntmps = 57 := Try.ntmps30
theorem Tro.ntmps31 : Go.Proofs.Try.f31.ntmps = 9 := Try.ntmps31
theorem Tro.ntmps32 : Go.Proofs.Try.f32.ntmps = 47 := Try.ntmps32
theorem Tro.ntmps33 : Go.Proofs.Try.f33.ntmps = 44 := Try.ntmps33
theorem Tro.ntmps34 : Go.Proofs.Try.f34.ntmps = 22 := Try.ntmps34
theorem Tro.ntmps35 : Go.Proofs.Try.f35.ntmps = 13 := Try.ntmps35
theorem Tro.ntmps36 : Go.Proofs.Try.f36.ntmps = 26 := Try.ntmps36
theorem Tro.ntmps37 : Go.Proofs.Try.f37.ntmps = 19 := Try.ntmps37
theorem Tro.ntmps38 : Go.Proofs.Try.f38.ntmps = 21 := Try.ntmps38
theorem Tro.ntmps39 : Go.Proofs.Try.f39.ntmps = 84 := Try.ntmps39
theorem Tro.ntmps40 : Go.Proofs.Try.f40.ntmps = 11 := Try.ntmps40
theorem Tro.ntmps41 : Go.Proofs.Try.f41.ntmps = 30 := Try.ntmps41
@[simp] theorem Tro.ntmps42 : Tro.f42.ntmps = 20 := by kernel_rfl
theorem Tro.ntmps43 : Go.Proofs.Try.f43.ntmps = 15 := Try.ntmps43
theorem Tro.ntmps44 : Go.Proofs.Try.f44.ntmps = 26 := Try.ntmps44
theorem Tro.ntmps45 : Go.Proofs.Try.f45.ntmps = 60 := Try.ntmps45
theorem Tro.ntmps46 : Go.Proofs.Try.f46.ntmps = 22 := Try.ntmps46
theorem Tro.ntmps47 : Go.Proofs.Try.f47.ntmps = 19 := Try.ntmps47
theorem Tro.ntmps48 : Go.Proofs.Try.f48.ntmps = 10 := Try.ntmps48
theorem Tro.ntmps49 : Go.Proofs.Try.f49.ntmps = 11 := Try.ntmps49
theorem Tro.ntmps50 : Go.Proofs.Try.f50.ntmps = 11 := Try.ntmps50
theorem Tro.ntmps51 : Go.Proofs.Try.f51.ntmps = 46 := Try.ntmps51
theorem Tro.ntmps52 : Go.Proofs.Try.f52.ntmps = 14 := Try.ntmps52
theorem Tro.ntmps53 : Go.Proofs.Try.f53.ntmps = 49 := Try.ntmps53
theorem Tro.ntmps54 : Go.Proofs.Try.f54.ntmps = 9 := Try.ntmps54
theorem Tro.ntmps55 : Go.Proofs.Try.f55.ntmps = 92 := Try.ntmps55
theorem Tro.ntmps56 : Go.Proofs.Try.f56.ntmps = 35 := Try.ntmps56
theorem Tro.ntmps57 : Go.Proofs.Try.f57.ntmps = 8 := Try.ntmps57
theorem Tro.ntmps58 : Go.Proofs.Try.f58.ntmps = 21 := Try.ntmps58
theorem Tro.ntmps59 : Go.Proofs.Try.f59.ntmps = 27 := Try.ntmps59
theorem Tro.ntmps60 : Go.Proofs.Try.f60.ntmps = 9 := Try.ntmps60
theorem Tro.ntmps61 : Go.Proofs.Try.f61.ntmps = 53 := Try.ntmps61
theorem Tro.ntmps62 : Go.Proofs.Try.f62.ntmps = 99 := Try.ntmps62
theorem Tro.ntmps63 : Go.Proofs.Try.f63.ntmps = 27 := Try.ntmps63
theorem Tro.ntmps64 : Go.Proofs.Try.f64.ntmps = 13 := Try.ntmps64
theorem Tro.ntmps65 : Go.Proofs.Try.f65.ntmps = 11 := Try.ntmps65
theorem Tro.ntmps66 : Go.Proofs.Try.f66.ntmps = 7 := Try.ntmps66
theorem Tro.ntmps67 : Go.Proofs.Try.f67.ntmps = 9 := Try.ntmps67
theorem Tro.ntmps68 : Go.Proofs.Try.f68.ntmps = 22 := Try.ntmps68
theorem Tro.ntmps69 : Go.Proofs.Try.f69.ntmps = 18 := Try.ntmps69
theorem Tro.ntmps70 : Go.Proofs.Try.f70.ntmps = 10 := Try.ntmps70
theorem Tro.ntmps71 : Go.Proofs.Try.f71.ntmps = 11 := Try.ntmps71
theorem Tro.ntmps72 : Go.Proofs.Try.f72.ntmps = 12 := Try.ntmps72
theorem Tro.ntmps73 : Go.Proofs.Try.f73.ntmps = 12 := Try.ntmps73
theorem Tro.ntmps74 : Go.Proofs.Try.f74.ntmps = 12 := Try.ntmps74
theorem Tro.ntmps75 : Go.Proofs.Try.f75.ntmps = 15 := Try.ntmps75
theorem Tro.ntmps76 : Go.Proofs.Try.f76.ntmps = 11 := Try.ntmps76
theorem Tro.ntmps77 : Go.Proofs.Try.f77.ntmps = 15 := Try.ntmps77
theorem Tro.ntmps78 : Go.Proofs.Try.f78.ntmps = 12 := Try.ntmps78
theorem Tro.ntmps79 : Go.Proofs.Try.f79.ntmps = 29 := Try.ntmps79
theorem Tro.ntmps80 : Go.Proofs.Try.f80.ntmps = 12 := Try.ntmps80
theorem Tro.ntmps81 : Go.Proofs.Try.f81.ntmps = 27 := Try.ntmps81
theorem Tro.ntmps82 : Go.Proofs.Try.f82.ntmps = 8 := Try.ntmps82
theorem Tro.ntmps83 : Go.Proofs.Try.f83.ntmps = 19 := Try.ntmps83
theorem Tro.ntmps84 : Go.Proofs.Try.f84.ntmps = 28 := Try.ntmps84
theorem Tro.ntmps85 : Go.Proofs.Try.f85.ntmps = 134 := Try.ntmps85
theorem Tro.ntmps86 : Go.Proofs.Try.f86.ntmps = 8 := Try.ntmps86
theorem Tro.ntmps87 : Go.Proofs.Try.f87.ntmps = 21 := Try.ntmps87
theorem Tro.ntmps88 : Go.Proofs.Try.f88.ntmps = 35 := Try.ntmps88
theorem Tro.ntmps89 : Go.Proofs.Try.f89.ntmps = 18 := Try.ntmps89
theorem Tro.ntmps90 : Go.Proofs.Try.f90.ntmps = 49 := Try.ntmps90
theorem Tro.ntmps91 : Go.Proofs.Try.f91.ntmps = 56 := Try.ntmps91
theorem Tro.ntmps92 : Go.Proofs.Try.f92.ntmps = 65 := Try.ntmps92
theorem Tro.ntmps93 : Go.Proofs.Try.f93.ntmps = 57 := Try.ntmps93
theorem Tro.ntmps94 : Go.Proofs.Try.f94.ntmps = 32 := Try.ntmps94
theorem Tro.ntmps95 : Go.Proofs.Try.f95.ntmps = 133 := Try.ntmps95
theorem Tro.ntmps96 : Go.Proofs.Try.f96.ntmps = 17 := Try.ntmps96
theorem Tro.ntmps97 : Go.Proofs.Try.f97.ntmps = 84 := Try.ntmps97
theorem Tro.ntmps98 : Go.Proofs.Try.f98.ntmps = 168 := Try.ntmps98
theorem Tro.ntmps99 : Go.Proofs.Try.f99.ntmps = 19 := Try.ntmps99
theorem Tro.ntmps100 : Go.Proofs.Try.f100.ntmps = 25 := Try.ntmps100
theorem Tro.ntmps101 : Go.Proofs.Try.f101.ntmps = 76 := Try.ntmps101
theorem Tro.ntmps102 : Go.Proofs.Try.f102.ntmps = 7 := Try.ntmps102
theorem Tro.ntmps103 : Go.Proofs.Try.f103.ntmps = 33 := Try.ntmps103
theorem Tro.ntmps104 : Go.Proofs.Try.f104.ntmps = 15 := Try.ntmps104
theorem Tro.ntmps105 : Go.Proofs.Try.f105.ntmps = 36 := Try.ntmps105
theorem Tro.ntmps106 : Go.Proofs.Try.f106.ntmps = 6 := Try.ntmps106
theorem Tro.ntmps107 : Go.Proofs.Try.f107.ntmps = 28 := Try.ntmps107
theorem Tro.ntmps108 : Go.Proofs.Try.f108.ntmps = 1 := Try.ntmps108
theorem Tro.ntmps109 : Go.Proofs.Try.f109.ntmps = 1 := Try.ntmps109
theorem Tro.ntmps110 : Go.Proofs.Try.f110.ntmps = 1 := Try.ntmps110
theorem Tro.ntmps111 : Go.Proofs.Try.f111.ntmps = 1 := Try.ntmps111
theorem Tro.ntmps112 : Go.Proofs.Try.f112.ntmps = 1 := Try.ntmps112
theorem Tro.ntmps113 : Go.Proofs.Try.f113.ntmps = 1 := Try.ntmps113
theorem Tro.ntmps114 : Go.Proofs.Try.f114.ntmps = 1 := Try.ntmps114
theorem Tro.ntmps115 : Go.Proofs.Try.f115.ntmps = 1 := Try.ntmps115
theorem Tro.ntmps116 : Go.Proofs.Try.f116.ntmps = 1 := Try.ntmps116
theorem Tro.ntmps117 : Go.Proofs.Try.f117.ntmps = 1 := Try.ntmps117
theorem Tro.ntmps118 : Go.Proofs.Try.f118.ntmps = 1 := Try.ntmps118
theorem Tro.ntmps119 : Go.Proofs.Try.f119.ntmps = 1 := Try.ntmps119
theorem Tro.ntmps120 : Go.Proofs.Try.f120.ntmps = 1 := Try.ntmps120
theorem Tro.ntmps121 : Go.Proofs.Try.f121.ntmps = 1 := Try.ntmps121
theorem Tro.ntmps122 : Go.Proofs.Try.f122.ntmps = 1 := Try.ntmps122
theorem Tro.ntmps123 : Go.Proofs.Try.f123.ntmps = 1 := Try.ntmps123
theorem Tro.params0 : Go.Proofs.Try.f0.params = #[] := Try.params0
theorem Tro.params1 : Go.Proofs.Try.f1.params = #[] := Try.params1
theorem Tro.params2 : Go.Proofs.Try.f2.params = #[] := Try.params2
theorem Tro.params3 : Go.Proofs.Try.f3.params = #[22] := Try.params3
theorem Tro.params4 : Go.Proofs.Try.f4.params = #[22] := Try.params4
theorem Tro.params5 : Go.Proofs.Try.f5.params = #[22] := Try.params5
theorem Tro.params6 : Go.Proofs.Try.f6.params = #[22] := Try.params6
theorem Tro.params7 : Go.Proofs.Try.f7.params = #[22] := Try.params7
theorem Tro.params8 : Go.Proofs.Try.f8.params = #[3, 3, 3] := Try.params8
theorem Tro.params9 : Go.Proofs.Try.f9.params = #[3, 3, 3] := Try.params9
theorem Tro.params10 : Go.Proofs.Try.f10.params = #[3, 3, 3] := Try.params10
theorem Tro.params11 : Go.Proofs.Try.f11.params = #[3, 3] := Try.params11
theorem Tro.params12 : Go.Proofs.Try.f12.params = #[22] := Try.params12
theorem Tro.params13 : Go.Proofs.Try.f13.params = #[3, 3, 3] := Try.params13
theorem Tro.params14 : Go.Proofs.Try.f14.params = #[3, 3, 3] := Try.params14
theorem Tro.params15 : Go.Proofs.Try.f15.params = #[25, 25] := Try.params15
theorem Tro.params16 : Go.Proofs.Try.f16.params = #[3, 3] := Try.params16
theorem Tro.params17 : Go.Proofs.Try.f17.params = #[3, 3, 3] := Try.params17
theorem Tro.params18 : Go.Proofs.Try.f18.params = #[3, 25, 25, 3, 3] := Try.params18
theorem Tro.params19 : Go.Proofs.Try.f19.params = #[22] := Try.params19
theorem Tro.params20 : Go.Proofs.Try.f20.params = #[3, 3] := Try.params20
theorem Tro.params21 : Go.Proofs.Try.f21.params = #[3, 3] := Try.params21
theorem Tro.params22 : Go.Proofs.Try.f22.params = #[3, 3] := Try.params22
theorem Tro.params23 : Go.Proofs.Try.f23.params = #[25, 3] := Try.params23
theorem Tro.params24 : Go.Proofs.Try.f24.params = #[25] := Try.params24
theorem Tro.params25 : Go.Proofs.Try.f25.params = #[22] := Try.params25
theorem Tro.params26 : Go.Proofs.Try.f26.params = #[3, 3, 3] := Try.params26
theorem Tro.params27 : Go.Proofs.Try.f27.params = #[3, 3, 3] := Try.params27
theorem Tro.params28 : Go.Proofs.Try.f28.params = #[22] := Try.params28
theorem Tro.params29 : Go.Proofs.Try.f29.params = #[3, 3, 3] := Try.params29
theorem Tro.params30 : Go.Proofs.Try.f30.params = #[3, 3, 3] := Try.params30
theorem Tro.params31 : Go.Proofs.Try.f31.params = #[22] := Try.params31
theorem Tro.params32 : Go.Proofs.Try.f32.params = #[3, 3] := Try.params32
theorem Tro.params33 : Go.Proofs.Try.f33.params = #[3, 3] := Try.params33
theorem Tro.params34 : Go.Proofs.Try.f34.params = #[3, 3, 3] := Try.params34
theorem Tro.params35 : Go.Proofs.Try.f35.params = #[3] := Try.params35
theorem Tro.params36 : Go.Proofs.Try.f36.params = #[25, 25] := Try.params36
theorem Tro.params37 : Go.Proofs.Try.f37.params = #[25, 3] := Try.params37
theorem Tro.params38 : Go.Proofs.Try.f38.params = #[25, 3] := Try.params38
theorem Tro.params39 : Go.Proofs.Try.f39.params = #[44] := Try.params39
theorem Tro.params40 : Go.Proofs.Try.f40.params = #[22] := Try.params40
theorem Tro.params41 : Go.Proofs.Try.f41.params = #[3, 3, 3] := Try.params41
@[simp] theorem Tro.params42 : Go.Proofs.Tro.f42.params = #[47, 47] := by kernel_rfl
theorem Tro.params43 : Go.Proofs.Try.f43.params = #[47, 3] := Try.params43
theorem Tro.params44 : Go.Proofs.Try.f44.params = #[3, 3, 3] := Try.params44
theorem Tro.params45 : Go.Proofs.Try.f45.params = #[3, 3, 3] := Try.params45
theorem Tro.params46 : Go.Proofs.Try.f46.params = #[3, 3] := Try.params46
theorem Tro.params47 : Go.Proofs.Try.f47.params = #[47] := Try.params47
theorem Tro.params48 : Go.Proofs.Try.f48.params = #[3, 3] := Try.params48
theorem Tro.params49 : Go.Proofs.Try.f49.params = #[3] := Try.params49
theorem Tro.params50 : Go.Proofs.Try.f50.params = #[44] := Try.params50
theorem Tro.params51 : Go.Proofs.Try.f51.params = #[47] := Try.params51
theorem Tro.params52 : Go.Proofs.Try.f52.params = #[3, 3] := Try.params52
theorem Tro.params53 : Go.Proofs.Try.f53.params = #[3, 3] := Try.params53
theorem Tro.params54 : Go.Proofs.Try.f54.params = #[3] := Try.params54
theorem Tro.params55 : Go.Proofs.Try.f55.params = #[3, 3] := Try.params55
theorem Tro.params56 : Go.Proofs.Try.f56.params = #[3, 3, 3] := Try.params56
theorem Tro.params57 : Go.Proofs.Try.f57.params = #[47, 3] := Try.params57
theorem Tro.params58 : Go.Proofs.Try.f58.params = #[49, 57] := Try.params58
theorem Tro.params59 : Go.Proofs.Try.f59.params = #[3, 3, 3] := Try.params59
theorem Tro.params60 : Go.Proofs.Try.f60.params = #[3] := Try.params60
theorem Tro.params61 : Go.Proofs.Try.f61.params = #[44, 3] := Try.params61
theorem Tro.params62 : Go.Proofs.Try.f62.params = #[44, 3] := Try.params62
theorem Tro.params63 : Go.Proofs.Try.f63.params = #[3, 3, 3] := Try.params63
theorem Tro.params64 : Go.Proofs.Try.f64.params = #[3] := Try.params64
theorem Tro.params65 : Go.Proofs.Try.f65.params = #[3] := Try.params65
theorem Tro.params66 : Go.Proofs.Try.f66.params = #[47] := Try.params66
theorem Tro.params67 : Go.Proofs.Try.f67.params = #[47, 47] := Try.params67
theorem Tro.params68 : Go.Proofs.Try.f68.params = #[25, 25] := Try.params68
theorem Tro.params69 : Go.Proofs.Try.f69.params = #[3, 3, 3] := Try.params69
theorem Tro.params70 : Go.Proofs.Try.f70.params = #[3, 3] := Try.params70
theorem Tro.params71 : Go.Proofs.Try.f71.params = #[47, 3] := Try.params71
theorem Tro.params72 : Go.Proofs.Try.f72.params = #[44] := Try.params72
theorem Tro.params73 : Go.Proofs.Try.f73.params = #[3, 3] := Try.params73
theorem Tro.params74 : Go.Proofs.Try.f74.params = #[47, 3] := Try.params74
theorem Tro.params75 : Go.Proofs.Try.f75.params = #[47, 3] := Try.params75
theorem Tro.params76 : Go.Proofs.Try.f76.params = #[25] := Try.params76
theorem Tro.params77 : Go.Proofs.Try.f77.params = #[3, 3, 3] := Try.params77
theorem Tro.params78 : Go.Proofs.Try.f78.params = #[3, 3] := Try.params78
theorem Tro.params79 : Go.Proofs.Try.f79.params = #[47, 3, 3] := Try.params79
theorem Tro.params80 : Go.Proofs.Try.f80.params = #[44, 25] := Try.params80
theorem Tro.params81 : Go.Proofs.Try.f81.params = #[3, 3, 3] := Try.params81
theorem Tro.params82 : Go.Proofs.Try.f82.params = #[72] := Try.params82
theorem Tro.params83 : Go.Proofs.Try.f83.params = #[] := Try.params83
theorem Tro.params84 : Go.Proofs.Try.f84.params = #[47, 25] := Try.params84
theorem Tro.params85 : Go.Proofs.Try.f85.params = #[25, 3, 3, 3] := Try.params85
theorem Tro.params86 : Go.Proofs.Try.f86.params = #[72] := Try.params86
theorem Tro.params87 : Go.Proofs.Try.f87.params = #[76] := Try.params87
theorem Tro.params88 : Go.Proofs.Try.f88.params = #[78] := Try.params88
theorem Tro.params89 : Go.Proofs.Try.f89.params = #[3, 3, 3] := Try.params89
theorem Tro.params90 : Go.Proofs.Try.f90.params = #[25, 3, 3] := Try.params90
theorem Tro.params91 : Go.Proofs.Try.f91.params = #[25, 3, 3] := Try.params91
theorem Tro.params92 : Go.Proofs.Try.f92.params = #[25, 3, 3] := Try.params92
theorem Tro.params93 : Go.Proofs.Try.f93.params = #[25, 3, 3] := Try.params93
theorem Tro.params94 : Go.Proofs.Try.f94.params = #[25, 3, 3] := Try.params94
theorem Tro.params95 : Go.Proofs.Try.f95.params = #[25, 3, 3] := Try.params95
theorem Tro.params96 : Go.Proofs.Try.f96.params = #[3, 3] := Try.params96
theorem Tro.params97 : Go.Proofs.Try.f97.params = #[25, 3, 3, 3] := Try.params97
theorem Tro.params98 : Go.Proofs.Try.f98.params = #[25, 3, 3, 3] := Try.params98
theorem Tro.params99 : Go.Proofs.Try.f99.params = #[76] := Try.params99
theorem Tro.params100 : Go.Proofs.Try.f100.params = #[78] := Try.params100
theorem Tro.params101 : Go.Proofs.Try.f101.params = #[25, 3, 3, 3] := Try.params101
theorem Tro.params102 : Go.Proofs.Try.f102.params = #[3] := Try.params102
theorem Tro.params103 : Go.Proofs.Try.f103.params = #[93] := Try.params103
theorem Tro.params104 : Go.Proofs.Try.f104.params = #[25, 3, 91] := Try.params104
theorem Tro.params105 : Go.Proofs.Try.f105.params = #[25, 3, 3, 3, 91] := Try.params105
theorem Tro.params106 : Go.Proofs.Try.f106.params = #[3] := Try.params106
theorem Tro.params107 : Go.Proofs.Try.f107.params = #[25, 3, 3, 91] := Try.params107
theorem Tro.params108 : Go.Proofs.Try.f108.params = #[8] := Try.params108
theorem Tro.params109 : Go.Proofs.Try.f109.params = #[8] := Try.params109
theorem Tro.params110 : Go.Proofs.Try.f110.params = #[10] := Try.params110
theorem Tro.params111 : Go.Proofs.Try.f111.params = #[10] := Try.params111
theorem Tro.params112 : Go.Proofs.Try.f112.params = #[11] := Try.params112
theorem Tro.params113 : Go.Proofs.Try.f113.params = #[11] := Try.params113
theorem Tro.params114 : Go.Proofs.Try.f114.params = #[14] := Try.params114
theorem Tro.params115 : Go.Proofs.Try.f115.params = #[14] := Try.params115
theorem Tro.params116 : Go.Proofs.Try.f116.params = #[15] := Try.params116
theorem Tro.params117 : Go.Proofs.Try.f117.params = #[15] := Try.params117
theorem Tro.params118 : Go.Proofs.Try.f118.params = #[16] := Try.params118
theorem Tro.params119 : Go.Proofs.Try.f119.params = #[16] := Try.params119
theorem Tro.params120 : Go.Proofs.Try.f120.params = #[17] := Try.params120
theorem Tro.params121 : Go.Proofs.Try.f121.params = #[19] := Try.params121
theorem Tro.params122 : Go.Proofs.Try.f122.params = #[19] := Try.params122
theorem Tro.params123 : Go.Proofs.Try.f123.params = #[102] := Try.params123
theorem Tro.results0 : Go.Proofs.Try.f0.results = #[] := Try.results0
theorem Tro.results1 : Go.Proofs.Try.f1.results = #[] := Try.results1
theorem Tro.results2 : Go.Proofs.Try.f2.results = #[] := Try.results2
theorem Tro.results3 : Go.Proofs.Try.f3.results = #[Go.ResultVar.tmp 2] := Try.results3
theorem Tro.results4 : Go.Proofs.Try.f4.results = #[Go.ResultVar.tmp 2] := Try.results4
theorem Tro.results5 : Go.Proofs.Try.f5.results = #[Go.ResultVar.tmp 2] := Try.results5
theorem Tro.results6 : Go.Proofs.Try.f6.results = #[Go.ResultVar.tmp 2] := Try.results6
theorem Tro.results7 : Go.Proofs.Try.f7.results = #[Go.ResultVar.tmp 2] := Try.results7
theorem Tro.results8 : Go.Proofs.Try.f8.results = #[Go.ResultVar.tmp 6] := Try.results8
theorem Tro.results9 : Go.Proofs.Try.f9.results = #[Go.ResultVar.tmp 6] := Try.results9
theorem Tro.results10 : Go.Proofs.Try.f10.results = #[Go.ResultVar.tmp 6] := Try.results10
theorem Tro.results11 : Go.Proofs.Try.f11.results = #[Go.ResultVar.tmp 4] := Try.results11
theorem Tro.results12 : Go.Proofs.Try.f12.results = #[Go.ResultVar.tmp 2, Go.ResultVar.tmp 3, Go.ResultVar.tmp 4] := Try.results12
theorem Tro.results13 : Go.Proofs.Try.f13.results = #[Go.ResultVar.tmp 6, Go.ResultVar.tmp 7] := Try.results13
theorem Tro.results14 : Go.Proofs.Try.f14.results = #[Go.ResultVar.tmp 6, Go.ResultVar.tmp 7] := Try.results14
theorem Tro.results15 : Go.Proofs.Try.f15.results = #[Go.ResultVar.tmp 4] := Try.results15
theorem Tro.results16 : Go.Proofs.Try.f16.results = #[Go.ResultVar.tmp 4] := Try.results16
theorem Tro.results17 : Go.Proofs.Try.f17.results = #[Go.ResultVar.tmp 6] := Try.results17
theorem Tro.results18 : Go.Proofs.Try.f18.results = #[Go.ResultVar.tmp 10] := Try.results18
theorem Tro.results19 : Go.Proofs.Try.f19.results = #[Go.ResultVar.tmp 2, Go.ResultVar.tmp 3] := Try.results19
theorem Tro.results20 : Go.Proofs.Try.f20.results = #[Go.ResultVar.tmp 4] := Try.results20
theorem Tro.results21 : Go.Proofs.Try.f21.results = #[Go.ResultVar.tmp 4] := Try.results21
theorem Tro.results22 : Go.Proofs.Try.f22.results = #[Go.ResultVar.tmp 4] := Try.results22
theorem Tro.results23 : Go.Proofs.Try.f23.results = #[Go.ResultVar.tmp 4] := Try.results23
theorem Tro.results24 : Go.Proofs.Try.f24.results = #[Go.ResultVar.tmp 2] := Try.results24
theorem Tro.results25 : Go.Proofs.Try.f25.results = #[Go.ResultVar.tmp 2, Go.ResultVar.tmp 3, Go.ResultVar.tmp 4] := Try.results25
theorem Tro.results26 : Go.Proofs.Try.f26.results = #[Go.ResultVar.tmp 6] := Try.results26
theorem Tro.results27 : Go.Proofs.Try.f27.results = #[Go.ResultVar.tmp 6] := Try.results27
theorem Tro.results28 : Go.Proofs.Try.f28.results = #[Go.ResultVar.tmp 2, Go.ResultVar.tmp 3, Go.ResultVar.tmp 4] := Try.results28
theorem Tro.results29 : Go.Proofs.Try.f29.results = #[Go.ResultVar.tmp 6] := Try.results29
theorem Tro.results30 : Go.Proofs.Try.f30.results = #[Go.ResultVar.tmp 6] := Try.results30
theorem Tro.results31 : Go.Proofs.Try.f31.results = #[Go.ResultVar.tmp 2, Go.ResultVar.tmp 3] := Try.results31
theorem Tro.results32 : Go.Proofs.Try.f32.results = #[Go.ResultVar.tmp 4, Go.ResultVar.tmp 5] := Try.results32
theorem Tro.results33 : Go.Proofs.Try.f33.results = #[Go.ResultVar.tmp 4, Go.ResultVar.tmp 5] := Try.results33
theorem Tro.results34 : Go.Proofs.Try.f34.results = #[Go.ResultVar.tmp 6] := Try.results34
theorem Tro.results35 : Go.Proofs.Try.f35.results = #[Go.ResultVar.tmp 2] := Try.results35
theorem Tro.results36 : Go.Proofs.Try.f36.results = #[Go.ResultVar.tmp 4] := Try.results36
theorem Tro.results37 : Go.Proofs.Try.f37.results = #[Go.ResultVar.tmp 4] := Try.results37
theorem Tro.results38 : Go.Proofs.Try.f38.results = #[Go.ResultVar.tmp 4] := Try.results38
theorem Tro.results39 : Go.Proofs.Try.f39.results = #[Go.ResultVar.tmp 2, Go.ResultVar.tmp 3, Go.ResultVar.tmp 4] := Try.results39
theorem Tro.results40 : Go.Proofs.Try.f40.results = #[Go.ResultVar.tmp 2] := Try.results40
theorem Tro.results41 : Go.Proofs.Try.f41.results = #[Go.ResultVar.tmp 6] := Try.results41
@[simp] theorem Tro.results42 : Tro.f42.results = #[.tmp 4] := by kernel_rfl
theorem Tro.results43 : Go.Proofs.Try.f43.results = #[Go.ResultVar.tmp 4] := Try.results43
theorem Tro.results44 : Go.Proofs.Try.f44.results = #[Go.ResultVar.tmp 6] := Try.results44
theorem Tro.results45 : Go.Proofs.Try.f45.results = #[Go.ResultVar.tmp 6, Go.ResultVar.tmp 7] := Try.results45
theorem Tro.results46 : Go.Proofs.Try.f46.results = #[Go.ResultVar.tmp 4] := Try.results46
theorem Tro.results47 : Go.Proofs.Try.f47.results = #[Go.ResultVar.tmp 2] := Try.results47
theorem Tro.results48 : Go.Proofs.Try.f48.results = #[Go.ResultVar.tmp 4] := Try.results48
theorem Tro.results49 : Go.Proofs.Try.f49.results = #[Go.ResultVar.tmp 2] := Try.results49
theorem Tro.results50 : Go.Proofs.Try.f50.results = #[Go.ResultVar.tmp 2, Go.ResultVar.tmp 3] := Try.results50
theorem Tro.results51 : Go.Proofs.Try.f51.results = #[Go.ResultVar.tmp 2] := Try.results51
theorem Tro.results52 : Go.Proofs.Try.f52.results = #[Go.ResultVar.tmp 4] := Try.results52
theorem Tro.results53 : Go.Proofs.Try.f53.results = #[Go.ResultVar.tmp 4] := Try.results53
theorem Tro.results54 : Go.Proofs.Try.f54.results = #[Go.ResultVar.tmp 2] := Try.results54
theorem Tro.results55 : Go.Proofs.Try.f55.results = #[Go.ResultVar.tmp 4] := Try.results55
theorem Tro.results56 : Go.Proofs.Try.f56.results = #[Go.ResultVar.tmp 6] := Try.results56
theorem Tro.results57 : Go.Proofs.Try.f57.results = #[Go.ResultVar.cell 4 47] := Try.results57
theorem Tro.results58 : Go.Proofs.Try.f58.results = #[Go.ResultVar.cell 4 49] := Try.results58
theorem Tro.results59 : Go.Proofs.Try.f59.results = #[Go.ResultVar.tmp 6] := Try.results59
theorem Tro.results60 : Go.Proofs.Try.f60.results = #[Go.ResultVar.tmp 2] := Try.results60
theorem Tro.results61 : Go.Proofs.Try.f61.results = #[Go.ResultVar.tmp 4] := Try.results61
theorem Tro.results62 : Go.Proofs.Try.f62.results = #[Go.ResultVar.tmp 4] := Try.results62
theorem Tro.results63 : Go.Proofs.Try.f63.results = #[Go.ResultVar.tmp 6] := Try.results63
theorem Tro.results64 : Go.Proofs.Try.f64.results = #[Go.ResultVar.tmp 2] := Try.results64
theorem Tro.results65 : Go.Proofs.Try.f65.results = #[Go.ResultVar.tmp 2] := Try.results65
theorem Tro.results66 : Go.Proofs.Try.f66.results = #[Go.ResultVar.tmp 2] := Try.results66
theorem Tro.results67 : Go.Proofs.Try.f67.results = #[Go.ResultVar.tmp 4] := Try.results67
theorem Tro.results68 : Go.Proofs.Try.f68.results = #[Go.ResultVar.tmp 4] := Try.results68
theorem Tro.results69 : Go.Proofs.Try.f69.results = #[Go.ResultVar.tmp 6] := Try.results69
theorem Tro.results70 : Go.Proofs.Try.f70.results = #[Go.ResultVar.tmp 4] := Try.results70
theorem Tro.results71 : Go.Proofs.Try.f71.results = #[Go.ResultVar.tmp 4] := Try.results71
theorem Tro.results72 : Go.Proofs.Try.f72.results = #[Go.ResultVar.tmp 2] := Try.results72
theorem Tro.results73 : Go.Proofs.Try.f73.results = #[Go.ResultVar.tmp 4] := Try.results73
theorem Tro.results74 : Go.Proofs.Try.f74.results = #[Go.ResultVar.cell 4 47] := Try.results74
theorem Tro.results75 : Go.Proofs.Try.f75.results = #[Go.ResultVar.cell 4 47] := Try.results75
theorem Tro.results76 : Go.Proofs.Try.f76.results = #[] := Try.results76
theorem Tro.results77 : Go.Proofs.Try.f77.results = #[Go.ResultVar.tmp 6] := Try.results77
theorem Tro.results78 : Go.Proofs.Try.f78.results = #[Go.ResultVar.tmp 4] := Try.results78
theorem Tro.results79 : Go.Proofs.Try.f79.results = #[Go.ResultVar.cell 6 47] := Try.results79
theorem Tro.results80 : Go.Proofs.Try.f80.results = #[Go.ResultVar.tmp 4] := Try.results80
theorem Tro.results81 : Go.Proofs.Try.f81.results = #[Go.ResultVar.tmp 6] := Try.results81
theorem Tro.results82 : Go.Proofs.Try.f82.results = #[Go.ResultVar.tmp 2] := Try.results82
theorem Tro.results83 : Go.Proofs.Try.f83.results = #[] := Try.results83
theorem Tro.results84 : Go.Proofs.Try.f84.results = #[Go.ResultVar.tmp 4] := Try.results84
theorem Tro.results85 : Go.Proofs.Try.f85.results = #[] := Try.results85
theorem Tro.results86 : Go.Proofs.Try.f86.results = #[Go.ResultVar.tmp 2] := Try.results86
theorem Tro.results87 : Go.Proofs.Try.f87.results = #[Go.ResultVar.tmp 2] := Try.results87
theorem Tro.results88 : Go.Proofs.Try.f88.results = #[Go.ResultVar.tmp 2] := Try.results88
theorem Tro.results89 : Go.Proofs.Try.f89.results = #[Go.ResultVar.tmp 6] := Try.results89
theorem Tro.results90 : Go.Proofs.Try.f90.results = #[] := Try.results90
theorem Tro.results91 : Go.Proofs.Try.f91.results = #[] := Try.results91
theorem Tro.results92 : Go.Proofs.Try.f92.results = #[] := Try.results92
theorem Tro.results93 : Go.Proofs.Try.f93.results = #[Go.ResultVar.tmp 6, Go.ResultVar.tmp 7] := Try.results93
theorem Tro.results94 : Go.Proofs.Try.f94.results = #[] := Try.results94
theorem Tro.results95 : Go.Proofs.Try.f95.results = #[Go.ResultVar.tmp 6] := Try.results95
theorem Tro.results96 : Go.Proofs.Try.f96.results = #[Go.ResultVar.tmp 4] := Try.results96
theorem Tro.results97 : Go.Proofs.Try.f97.results = #[Go.ResultVar.tmp 8] := Try.results97
theorem Tro.results98 : Go.Proofs.Try.f98.results = #[Go.ResultVar.tmp 8, Go.ResultVar.tmp 9] := Try.results98
theorem Tro.results99 : Go.Proofs.Try.f99.results = #[Go.ResultVar.tmp 2] := Try.results99
theorem Tro.results100 : Go.Proofs.Try.f100.results = #[Go.ResultVar.tmp 2] := Try.results100
theorem Tro.results101 : Go.Proofs.Try.f101.results = #[] := Try.results101
theorem Tro.results102 : Go.Proofs.Try.f102.results = #[Go.ResultVar.tmp 2] := Try.results102
theorem Tro.results103 : Go.Proofs.Try.f103.results = #[Go.ResultVar.tmp 2] := Try.results103
theorem Tro.results104 : Go.Proofs.Try.f104.results = #[Go.ResultVar.tmp 6] := Try.results104
theorem Tro.results105 : Go.Proofs.Try.f105.results = #[Go.ResultVar.tmp 10] := Try.results105
theorem Tro.results106 : Go.Proofs.Try.f106.results = #[Go.ResultVar.tmp 2] := Try.results106
theorem Tro.results107 : Go.Proofs.Try.f107.results = #[Go.ResultVar.tmp 8, Go.ResultVar.tmp 9] := Try.results107
theorem Tro.results108 : Go.Proofs.Try.f108.results = #[] := Try.results108
theorem Tro.results109 : Go.Proofs.Try.f109.results = #[] := Try.results109
theorem Tro.results110 : Go.Proofs.Try.f110.results = #[] := Try.results110
theorem Tro.results111 : Go.Proofs.Try.f111.results = #[] := Try.results111
theorem Tro.results112 : Go.Proofs.Try.f112.results = #[] := Try.results112
theorem Tro.results113 : Go.Proofs.Try.f113.results = #[] := Try.results113
theorem Tro.results114 : Go.Proofs.Try.f114.results = #[] := Try.results114
theorem Tro.results115 : Go.Proofs.Try.f115.results = #[] := Try.results115
theorem Tro.results116 : Go.Proofs.Try.f116.results = #[] := Try.results116
theorem Tro.results117 : Go.Proofs.Try.f117.results = #[] := Try.results117
theorem Tro.results118 : Go.Proofs.Try.f118.results = #[] := Try.results118
theorem Tro.results119 : Go.Proofs.Try.f119.results = #[] := Try.results119
theorem Tro.results120 : Go.Proofs.Try.f120.results = #[] := Try.results120
theorem Tro.results121 : Go.Proofs.Try.f121.results = #[] := Try.results121
theorem Tro.results122 : Go.Proofs.Try.f122.results = #[] := Try.results122
theorem Tro.results123 : Go.Proofs.Try.f123.results = #[] := Try.results123
@[simp] theorem Tro.rt_eq : Go.Proofs.Tro.prog.rt = Go.RuntimeTypes.mk 8 10 11 14 15 16 19 9 20 3 4 21 5 := by kernel_rfl
@[simp] theorem Tro.runUnderlying0 : ∀ (w : Go.World), Go.Sem.run Go.Proofs.Tro.prog (Go.underlying 0) w = Go.Result.ok (Go.TypeDesc.tuple #[]) w := fun w => by kernel_rfl
@[simp] theorem Tro.runUnderlying1 : ∀ (w : Go.World), Go.Sem.run Go.Proofs.Tro.prog (Go.underlying 1) w = Go.Result.ok (Go.TypeDesc.func #[] #[] Bool.false) w := fun w => by kernel_rfl
@[simp] theorem Tro.runUnderlying2 : ∀ (w : Go.World), Go.Sem.run Go.Proofs.Tro.prog (Go.underlying 2) w = Go.Result.ok (Go.TypeDesc.int Go.IntKind.i64) w := fun w => by kernel_rfl
@[simp] theorem Tro.runUnderlying3 : ∀ (w : Go.World), Go.Sem.run Go.Proofs.Tro.prog (Go.underlying 3) w = Go.Result.ok (Go.TypeDesc.int Go.IntKind.i64) w := fun w => by kernel_rfl
@[simp] theorem Tro.runUnderlying4 : ∀ (w : Go.World), Go.Sem.run Go.Proofs.Tro.prog (Go.underlying 4) w = Go.Result.ok Go.TypeDesc.bool w := fun w => by kernel_rfl
@[simp] theorem Tro.runUnderlying5 : ∀ (w : Go.World), Go.Sem.run Go.Proofs.Tro.prog (Go.underlying 5) w = Go.Result.ok (Go.TypeDesc.int Go.IntKind.u8) w := fun w => by kernel_rfl
@[simp] theorem Tro.runUnderlying6 : ∀ (w : Go.World), Go.Sem.run Go.Proofs.Tro.prog (Go.underlying 6) w = Go.Result.ok (Go.TypeDesc.int Go.IntKind.u8) w := fun w => by kernel_rfl
@[simp] theorem Tro.runUnderlying7 : ∀ (w : Go.World), Go.Sem.run Go.Proofs.Tro.prog (Go.underlying 7) w = Go.Result.ok (Go.TypeDesc.struct #[Go.Field.mk "x" 2 0 Bool.false "" "runtime" 0, Go.Field.mk "y" 3 1 Bool.false "" "runtime" 8, Go.Field.mk "signed" 4 2 Bool.false "" "runtime" 16, Go.Field.mk "code" 6 3 Bool.false "" "runtime" 17]) w := fun w => by kernel_rfl
@[simp] theorem Tro.runUnderlying8 : ∀ (w : Go.World), Go.Sem.run Go.Proofs.Tro.prog (Go.underlying 8) w = Go.Result.ok (Go.TypeDesc.struct #[Go.Field.mk "x" 2 0 Bool.false "" "runtime" 0, Go.Field.mk "y" 3 1 Bool.false "" "runtime" 8, Go.Field.mk "signed" 4 2 Bool.false "" "runtime" 16, Go.Field.mk "code" 6 3 Bool.false "" "runtime" 17]) w := fun w => by kernel_rfl
@[simp] theorem Tro.runUnderlying9 : ∀ (w : Go.World), Go.Sem.run Go.Proofs.Tro.prog (Go.underlying 9) w = Go.Result.ok Go.TypeDesc.string w := fun w => by kernel_rfl
@[simp] theorem Tro.runUnderlying10 : ∀ (w : Go.World), Go.Sem.run Go.Proofs.Tro.prog (Go.underlying 10) w = Go.Result.ok Go.TypeDesc.string w := fun w => by kernel_rfl
@[simp] theorem Tro.runUnderlying11 : ∀ (w : Go.World), Go.Sem.run Go.Proofs.Tro.prog (Go.underlying 11) w = Go.Result.ok Go.TypeDesc.string w := fun w => by kernel_rfl
@[simp] theorem Tro.runUnderlying12 : ∀ (w : Go.World), Go.Sem.run Go.Proofs.Tro.prog (Go.underlying 12) w = Go.Result.ok (Go.TypeDesc.int Go.IntKind.u64) w := fun w => by kernel_rfl
@[simp] theorem Tro.runUnderlying13 : ∀ (w : Go.World), Go.Sem.run Go.Proofs.Tro.prog (Go.underlying 13) w = Go.Result.ok (Go.TypeDesc.struct #[Go.Field.mk "msg" 9 0 Bool.false "" "runtime" 0, Go.Field.mk "addr" 12 1 Bool.false "" "runtime" 16]) w := fun w => by kernel_rfl
@[simp] theorem Tro.runUnderlying14 : ∀ (w : Go.World), Go.Sem.run Go.Proofs.Tro.prog (Go.underlying 14) w = Go.Result.ok (Go.TypeDesc.struct #[Go.Field.mk "msg" 9 0 Bool.false "" "runtime" 0, Go.Field.mk "addr" 12 1 Bool.false "" "runtime" 16]) w := fun w => by kernel_rfl
@[simp] theorem Tro.runUnderlying15 : ∀ (w : Go.World), Go.Sem.run Go.Proofs.Tro.prog (Go.underlying 15) w = Go.Result.ok (Go.TypeDesc.pointer 97) w := fun w => by kernel_rfl
@[simp] theorem Tro.runUnderlying16 : ∀ (w : Go.World), Go.Sem.run Go.Proofs.Tro.prog (Go.underlying 16) w = Go.Result.ok (Go.TypeDesc.pointer 100) w := fun w => by kernel_rfl
@[simp] theorem Tro.runUnderlying17 : ∀ (w : Go.World), Go.Sem.run Go.Proofs.Tro.prog (Go.underlying 17) w = Go.Result.ok (Go.TypeDesc.pointer 108) w := fun w => by kernel_rfl
@[simp] theorem Tro.runUnderlying18 : ∀ (w : Go.World), Go.Sem.run Go.Proofs.Tro.prog (Go.underlying 18) w = Go.Result.ok (Go.TypeDesc.struct #[Go.Field.mk "typ" 17 0 Bool.false "" "internal/runtime/maps" 0]) w := fun w => by kernel_rfl
@[simp] theorem Tro.runUnderlying19 : ∀ (w : Go.World), Go.Sem.run Go.Proofs.Tro.prog (Go.underlying 19) w = Go.Result.ok (Go.TypeDesc.struct #[Go.Field.mk "typ" 17 0 Bool.false "" "internal/runtime/maps" 0]) w := fun w => by kernel_rfl
@[simp] theorem Tro.runUnderlying20 : ∀ (w : Go.World), Go.Sem.run Go.Proofs.Tro.prog (Go.underlying 20) w = Go.Result.ok (Go.TypeDesc.interface #[]) w := fun w => by kernel_rfl
@[simp] theorem Tro.runUnderlying21 : ∀ (w : Go.World), Go.Sem.run Go.Proofs.Tro.prog (Go.underlying 21) w = Go.Result.ok (Go.TypeDesc.int Go.IntKind.i32) w := fun w => by kernel_rfl
@[simp] theorem Tro.runUnderlying22 : ∀ (w : Go.World), Go.Sem.run Go.Proofs.Tro.prog (Go.underlying 22) w = Go.Result.ok (Go.TypeDesc.slice 5) w := fun w => by kernel_rfl
@[simp] theorem Tro.runUnderlying23 : ∀ (w : Go.World), Go.Sem.run Go.Proofs.Tro.prog (Go.underlying 23) w = Go.Result.ok (Go.TypeDesc.tuple #[3, 3, 3]) w := fun w => by kernel_rfl
@[simp] theorem Tro.runUnderlying24 : ∀ (w : Go.World), Go.Sem.run Go.Proofs.Tro.prog (Go.underlying 24) w = Go.Result.ok (Go.TypeDesc.func #[22] #[3, 3, 3] Bool.false) w := fun w => by kernel_rfl
@[simp] theorem Tro.runUnderlying25 : ∀ (w : Go.World), Go.Sem.run Go.Proofs.Tro.prog (Go.underlying 25) w = Go.Result.ok (Go.TypeDesc.slice 3) w := fun w => by kernel_rfl
@[simp] theorem Tro.runUnderlying26 : ∀ (w : Go.World), Go.Sem.run Go.Proofs.Tro.prog (Go.underlying 26) w = Go.Result.ok (Go.TypeDesc.tuple #[3, 25]) w := fun w => by kernel_rfl
@[simp] theorem Tro.runUnderlying27 : ∀ (w : Go.World), Go.Sem.run Go.Proofs.Tro.prog (Go.underlying 27) w = Go.Result.ok (Go.TypeDesc.func #[3, 3, 3] #[3, 25] Bool.false) w := fun w => by kernel_rfl
@[simp] theorem Tro.runUnderlying28 : ∀ (w : Go.World), Go.Sem.run Go.Proofs.Tro.prog (Go.underlying 28) w = Go.Result.ok (Go.TypeDesc.func #[25, 25] #[4] Bool.false) w := fun w => by kernel_rfl
@[simp] theorem Tro.runUnderlying29 : ∀ (w : Go.World), Go.Sem.run Go.Proofs.Tro.prog (Go.underlying 29) w = Go.Result.ok (Go.TypeDesc.func #[3, 3] #[25] Bool.false) w := fun w => by kernel_rfl
@[simp] theorem Tro.runUnderlying30 : ∀ (w : Go.World), Go.Sem.run Go.Proofs.Tro.prog (Go.underlying 30) w = Go.Result.ok (Go.TypeDesc.func #[3, 3, 3] #[3] Bool.false) w := fun w => by kernel_rfl
@[simp] theorem Tro.runUnderlying31 : ∀ (w : Go.World), Go.Sem.run Go.Proofs.Tro.prog (Go.underlying 31) w = Go.Result.ok (Go.TypeDesc.func #[3, 25, 25, 3, 3] #[3] Bool.false) w := fun w => by kernel_rfl
@[simp] theorem Tro.runUnderlying32 : ∀ (w : Go.World), Go.Sem.run Go.Proofs.Tro.prog (Go.underlying 32) w = Go.Result.ok (Go.TypeDesc.func #[22] #[4] Bool.false) w := fun w => by kernel_rfl
@[simp] theorem Tro.runUnderlying33 : ∀ (w : Go.World), Go.Sem.run Go.Proofs.Tro.prog (Go.underlying 33) w = Go.Result.ok (Go.TypeDesc.tuple #[3, 3]) w := fun w => by kernel_rfl
@[simp] theorem Tro.runUnderlying34 : ∀ (w : Go.World), Go.Sem.run Go.Proofs.Tro.prog (Go.underlying 34) w = Go.Result.ok (Go.TypeDesc.func #[22] #[3, 3] Bool.false) w := fun w => by kernel_rfl
@[simp] theorem Tro.runUnderlying35 : ∀ (w : Go.World), Go.Sem.run Go.Proofs.Tro.prog (Go.underlying 35) w = Go.Result.ok (Go.TypeDesc.func #[3, 3] #[4] Bool.false) w := fun w => by kernel_rfl
@[simp] theorem Tro.runUnderlying36 : ∀ (w : Go.World), Go.Sem.run Go.Proofs.Tro.prog (Go.underlying 36) w = Go.Result.ok (Go.TypeDesc.func #[25, 3] #[4] Bool.false) w := fun w => by kernel_rfl
@[simp] theorem Tro.runUnderlying37 : ∀ (w : Go.World), Go.Sem.run Go.Proofs.Tro.prog (Go.underlying 37) w = Go.Result.ok (Go.TypeDesc.func #[25] #[4] Bool.false) w := fun w => by kernel_rfl
@[simp] theorem Tro.runUnderlying38 : ∀ (w : Go.World), Go.Sem.run Go.Proofs.Tro.prog (Go.underlying 38) w = Go.Result.ok (Go.TypeDesc.func #[3, 3, 3] #[25] Bool.false) w := fun w => by kernel_rfl
@[simp] theorem Tro.runUnderlying39 : ∀ (w : Go.World), Go.Sem.run Go.Proofs.Tro.prog (Go.underlying 39) w = Go.Result.ok (Go.TypeDesc.func #[3, 3] #[3, 3] Bool.false) w := fun w => by kernel_rfl
@[simp] theorem Tro.runUnderlying40 : ∀ (w : Go.World), Go.Sem.run Go.Proofs.Tro.prog (Go.underlying 40) w = Go.Result.ok (Go.TypeDesc.func #[3] #[3] Bool.false) w := fun w => by kernel_rfl
@[simp] theorem Tro.runUnderlying41 : ∀ (w : Go.World), Go.Sem.run Go.Proofs.Tro.prog (Go.underlying 41) w = Go.Result.ok (Go.TypeDesc.func #[25, 3] #[3] Bool.false) w := fun w => by kernel_rfl
@[simp] theorem Tro.runUnderlying42 : ∀ (w : Go.World), Go.Sem.run Go.Proofs.Tro.prog (Go.underlying 42) w = Go.Result.ok (Go.TypeDesc.func #[3, 3, 3] #[4] Bool.false) w := fun w => by kernel_rfl
@[simp] theorem Tro.runUnderlying43 : ∀ (w : Go.World), Go.Sem.run Go.Proofs.Tro.prog (Go.underlying 43) w = Go.Result.ok (Go.TypeDesc.func #[44] #[3, 3, 3] Bool.false) w := fun w => by kernel_rfl
@[simp] theorem Tro.runUnderlying44 : ∀ (w : Go.World), Go.Sem.run Go.Proofs.Tro.prog (Go.underlying 44) w = Go.Result.ok (Go.TypeDesc.pointer 62) w := fun w => by kernel_rfl
@[simp] theorem Tro.runUnderlying45 : ∀ (w : Go.World), Go.Sem.run Go.Proofs.Tro.prog (Go.underlying 45) w = Go.Result.ok (Go.TypeDesc.func #[22] #[44] Bool.false) w := fun w => by kernel_rfl
@[simp] theorem Tro.runUnderlying46 : ∀ (w : Go.World), Go.Sem.run Go.Proofs.Tro.prog (Go.underlying 46) w = Go.Result.ok (Go.TypeDesc.struct #[Go.Field.mk "size" 3 0 Bool.false "" "loop.example/tonesincircles/impl" 0, Go.Field.mk "tones" 3 1 Bool.false "" "loop.example/tonesincircles/impl" 8]) w := fun w => by kernel_rfl
@[simp] theorem Tro.runUnderlying47 : ∀ (w : Go.World), Go.Sem.run Go.Proofs.Tro.prog (Go.underlying 47) w = Go.Result.ok (Go.TypeDesc.struct #[Go.Field.mk "size" 3 0 Bool.false "" "loop.example/tonesincircles/impl" 0, Go.Field.mk "tones" 3 1 Bool.false "" "loop.example/tonesincircles/impl" 8]) w := fun w => by kernel_rfl
@[simp] theorem Tro.runUnderlying48 : ∀ (w : Go.World), Go.Sem.run Go.Proofs.Tro.prog (Go.underlying 48) w = Go.Result.ok (Go.TypeDesc.struct #[Go.Field.mk "number" 3 0 Bool.false "" "loop.example/tonesincircles/impl" 0, Go.Field.mk "far" 3 1 Bool.false "" "loop.example/tonesincircles/impl" 8]) w := fun w => by kernel_rfl
@[simp] theorem Tro.runUnderlying49 : ∀ (w : Go.World), Go.Sem.run Go.Proofs.Tro.prog (Go.underlying 49) w = Go.Result.ok (Go.TypeDesc.struct #[Go.Field.mk "number" 3 0 Bool.false "" "loop.example/tonesincircles/impl" 0, Go.Field.mk "far" 3 1 Bool.false "" "loop.example/tonesincircles/impl" 8]) w := fun w => by kernel_rfl
@[simp] theorem Tro.runUnderlying50 : ∀ (w : Go.World), Go.Sem.run Go.Proofs.Tro.prog (Go.underlying 50) w = Go.Result.ok (Go.TypeDesc.func #[47] #[49] Bool.false) w := fun w => by kernel_rfl
@[simp] theorem Tro.runUnderlying51 : ∀ (w : Go.World), Go.Sem.run Go.Proofs.Tro.prog (Go.underlying 51) w = Go.Result.ok (Go.TypeDesc.func #[3] #[25] Bool.false) w := fun w => by kernel_rfl
@[simp] theorem Tro.runUnderlying52 : ∀ (w : Go.World), Go.Sem.run Go.Proofs.Tro.prog (Go.underlying 52) w = Go.Result.ok (Go.TypeDesc.func #[3, 3, 3] #[3, 3] Bool.false) w := fun w => by kernel_rfl
@[simp] theorem Tro.runUnderlying53 : ∀ (w : Go.World), Go.Sem.run Go.Proofs.Tro.prog (Go.underlying 53) w = Go.Result.ok (Go.TypeDesc.func #[] #[25] Bool.false) w := fun w => by kernel_rfl
@[simp] theorem Tro.runUnderlying54 : ∀ (w : Go.World), Go.Sem.run Go.Proofs.Tro.prog (Go.underlying 54) w = Go.Result.ok (Go.TypeDesc.func #[3, 3] #[3] Bool.false) w := fun w => by kernel_rfl
@[simp] theorem Tro.runUnderlying55 : ∀ (w : Go.World), Go.Sem.run Go.Proofs.Tro.prog (Go.underlying 55) w = Go.Result.ok (Go.TypeDesc.func #[44] #[3, 3] Bool.false) w := fun w => by kernel_rfl
@[simp] theorem Tro.runUnderlying56 : ∀ (w : Go.World), Go.Sem.run Go.Proofs.Tro.prog (Go.underlying 56) w = Go.Result.ok (Go.TypeDesc.func #[3] #[4] Bool.false) w := fun w => by kernel_rfl
@[simp] theorem Tro.runUnderlying57 : ∀ (w : Go.World), Go.Sem.run Go.Proofs.Tro.prog (Go.underlying 57) w = Go.Result.ok (Go.TypeDesc.slice 49) w := fun w => by kernel_rfl
@[simp] theorem Tro.runUnderlying58 : ∀ (w : Go.World), Go.Sem.run Go.Proofs.Tro.prog (Go.underlying 58) w = Go.Result.ok (Go.TypeDesc.func #[3] #[47] Bool.false) w := fun w => by kernel_rfl
@[simp] theorem Tro.runUnderlying59 : ∀ (w : Go.World), Go.Sem.run Go.Proofs.Tro.prog (Go.underlying 59) w = Go.Result.ok (Go.TypeDesc.func #[49, 57] #[49] Bool.true) w := fun w => by kernel_rfl
@[simp] theorem Tro.runUnderlying60 : ∀ (w : Go.World), Go.Sem.run Go.Proofs.Tro.prog (Go.underlying 60) w = Go.Result.ok (Go.TypeDesc.func #[44, 3] #[3] Bool.false) w := fun w => by kernel_rfl
@[simp] theorem Tro.runUnderlying61 : ∀ (w : Go.World), Go.Sem.run Go.Proofs.Tro.prog (Go.underlying 61) w = Go.Result.ok (Go.TypeDesc.struct #[Go.Field.mk "b" 22 0 Bool.false "" "loop.example/tonesincircles/spec" 0, Go.Field.mk "p" 3 1 Bool.false "" "loop.example/tonesincircles/spec" 24]) w := fun w => by kernel_rfl
@[simp] theorem Tro.runUnderlying62 : ∀ (w : Go.World), Go.Sem.run Go.Proofs.Tro.prog (Go.underlying 62) w = Go.Result.ok (Go.TypeDesc.struct #[Go.Field.mk "b" 22 0 Bool.false "" "loop.example/tonesincircles/spec" 0, Go.Field.mk "p" 3 1 Bool.false "" "loop.example/tonesincircles/spec" 24]) w := fun w => by kernel_rfl
@[simp] theorem Tro.runUnderlying63 : ∀ (w : Go.World), Go.Sem.run Go.Proofs.Tro.prog (Go.underlying 63) w = Go.Result.ok (Go.TypeDesc.func #[] #[3] Bool.false) w := fun w => by kernel_rfl
@[simp] theorem Tro.runUnderlying64 : ∀ (w : Go.World), Go.Sem.run Go.Proofs.Tro.prog (Go.underlying 64) w = Go.Result.ok (Go.TypeDesc.chan Go.ChanDir.recv 49) w := fun w => by kernel_rfl
@[simp] theorem Tro.runUnderlying65 : ∀ (w : Go.World), Go.Sem.run Go.Proofs.Tro.prog (Go.underlying 65) w = Go.Result.ok (Go.TypeDesc.func #[47] #[64] Bool.false) w := fun w => by kernel_rfl
@[simp] theorem Tro.runUnderlying66 : ∀ (w : Go.World), Go.Sem.run Go.Proofs.Tro.prog (Go.underlying 66) w = Go.Result.ok (Go.TypeDesc.func #[25, 25] #[25] Bool.false) w := fun w => by kernel_rfl
@[simp] theorem Tro.runUnderlying67 : ∀ (w : Go.World), Go.Sem.run Go.Proofs.Tro.prog (Go.underlying 67) w = Go.Result.ok (Go.TypeDesc.func #[44] #[3] Bool.false) w := fun w => by kernel_rfl
@[simp] theorem Tro.runUnderlying68 : ∀ (w : Go.World), Go.Sem.run Go.Proofs.Tro.prog (Go.underlying 68) w = Go.Result.ok (Go.TypeDesc.func #[25] #[] Bool.false) w := fun w => by kernel_rfl
@[simp] theorem Tro.runUnderlying69 : ∀ (w : Go.World), Go.Sem.run Go.Proofs.Tro.prog (Go.underlying 69) w = Go.Result.ok (Go.TypeDesc.func #[3, 3] #[47] Bool.false) w := fun w => by kernel_rfl
@[simp] theorem Tro.runUnderlying70 : ∀ (w : Go.World), Go.Sem.run Go.Proofs.Tro.prog (Go.underlying 70) w = Go.Result.ok (Go.TypeDesc.func #[25] #[3] Bool.false) w := fun w => by kernel_rfl
@[simp] theorem Tro.runUnderlying71 : ∀ (w : Go.World), Go.Sem.run Go.Proofs.Tro.prog (Go.underlying 71) w = Go.Result.ok (Go.TypeDesc.func #[72] #[3] Bool.false) w := fun w => by kernel_rfl
@[simp] theorem Tro.runUnderlying72 : ∀ (w : Go.World), Go.Sem.run Go.Proofs.Tro.prog (Go.underlying 72) w = Go.Result.ok (Go.TypeDesc.int Go.IntKind.u64) w := fun w => by kernel_rfl
@[simp] theorem Tro.runUnderlying73 : ∀ (w : Go.World), Go.Sem.run Go.Proofs.Tro.prog (Go.underlying 73) w = Go.Result.ok (Go.TypeDesc.chan Go.ChanDir.both 49) w := fun w => by kernel_rfl
@[simp] theorem Tro.runUnderlying74 : ∀ (w : Go.World), Go.Sem.run Go.Proofs.Tro.prog (Go.underlying 74) w = Go.Result.ok (Go.TypeDesc.func #[25, 3, 3, 3] #[] Bool.false) w := fun w => by kernel_rfl
@[simp] theorem Tro.runUnderlying75 : ∀ (w : Go.World), Go.Sem.run Go.Proofs.Tro.prog (Go.underlying 75) w = Go.Result.ok (Go.TypeDesc.func #[76] #[3] Bool.false) w := fun w => by kernel_rfl
@[simp] theorem Tro.runUnderlying76 : ∀ (w : Go.World), Go.Sem.run Go.Proofs.Tro.prog (Go.underlying 76) w = Go.Result.ok (Go.TypeDesc.int Go.IntKind.u32) w := fun w => by kernel_rfl
@[simp] theorem Tro.runUnderlying77 : ∀ (w : Go.World), Go.Sem.run Go.Proofs.Tro.prog (Go.underlying 77) w = Go.Result.ok (Go.TypeDesc.func #[78] #[3] Bool.false) w := fun w => by kernel_rfl
@[simp] theorem Tro.runUnderlying78 : ∀ (w : Go.World), Go.Sem.run Go.Proofs.Tro.prog (Go.underlying 78) w = Go.Result.ok (Go.TypeDesc.int Go.IntKind.u64) w := fun w => by kernel_rfl
@[simp] theorem Tro.runUnderlying79 : ∀ (w : Go.World), Go.Sem.run Go.Proofs.Tro.prog (Go.underlying 79) w = Go.Result.ok (Go.TypeDesc.func #[25, 3, 3] #[] Bool.false) w := fun w => by kernel_rfl
@[simp] theorem Tro.runUnderlying80 : ∀ (w : Go.World), Go.Sem.run Go.Proofs.Tro.prog (Go.underlying 80) w = Go.Result.ok (Go.TypeDesc.int Go.IntKind.i64) w := fun w => by kernel_rfl
@[simp] theorem Tro.runUnderlying81 : ∀ (w : Go.World), Go.Sem.run Go.Proofs.Tro.prog (Go.underlying 81) w = Go.Result.ok (Go.TypeDesc.tuple #[3, 80]) w := fun w => by kernel_rfl
@[simp] theorem Tro.runUnderlying82 : ∀ (w : Go.World), Go.Sem.run Go.Proofs.Tro.prog (Go.underlying 82) w = Go.Result.ok (Go.TypeDesc.func #[25, 3, 3] #[3, 80] Bool.false) w := fun w => by kernel_rfl
@[simp] theorem Tro.runUnderlying83 : ∀ (w : Go.World), Go.Sem.run Go.Proofs.Tro.prog (Go.underlying 83) w = Go.Result.ok (Go.TypeDesc.func #[25, 3, 3] #[4] Bool.false) w := fun w => by kernel_rfl
@[simp] theorem Tro.runUnderlying84 : ∀ (w : Go.World), Go.Sem.run Go.Proofs.Tro.prog (Go.underlying 84) w = Go.Result.ok (Go.TypeDesc.func #[25, 3, 3, 3] #[3] Bool.false) w := fun w => by kernel_rfl
@[simp] theorem Tro.runUnderlying85 : ∀ (w : Go.World), Go.Sem.run Go.Proofs.Tro.prog (Go.underlying 85) w = Go.Result.ok (Go.TypeDesc.tuple #[3, 4]) w := fun w => by kernel_rfl
@[simp] theorem Tro.runUnderlying86 : ∀ (w : Go.World), Go.Sem.run Go.Proofs.Tro.prog (Go.underlying 86) w = Go.Result.ok (Go.TypeDesc.func #[25, 3, 3, 3] #[3, 4] Bool.false) w := fun w => by kernel_rfl
@[simp] theorem Tro.runUnderlying87 : ∀ (w : Go.World), Go.Sem.run Go.Proofs.Tro.prog (Go.underlying 87) w = Go.Result.ok (Go.TypeDesc.int Go.IntKind.u64) w := fun w => by kernel_rfl
@[simp] theorem Tro.runUnderlying88 : ∀ (w : Go.World), Go.Sem.run Go.Proofs.Tro.prog (Go.underlying 88) w = Go.Result.ok (Go.TypeDesc.func #[3] #[72] Bool.false) w := fun w => by kernel_rfl
@[simp] theorem Tro.runUnderlying89 : ∀ (w : Go.World), Go.Sem.run Go.Proofs.Tro.prog (Go.underlying 89) w = Go.Result.ok (Go.TypeDesc.func #[] #[78] Bool.false) w := fun w => by kernel_rfl
@[simp] theorem Tro.runUnderlying90 : ∀ (w : Go.World), Go.Sem.run Go.Proofs.Tro.prog (Go.underlying 90) w = Go.Result.ok (Go.TypeDesc.func #[25, 3, 91] #[3] Bool.false) w := fun w => by kernel_rfl
@[simp] theorem Tro.runUnderlying91 : ∀ (w : Go.World), Go.Sem.run Go.Proofs.Tro.prog (Go.underlying 91) w = Go.Result.ok (Go.TypeDesc.pointer 3) w := fun w => by kernel_rfl
@[simp] theorem Tro.runUnderlying92 : ∀ (w : Go.World), Go.Sem.run Go.Proofs.Tro.prog (Go.underlying 92) w = Go.Result.ok (Go.TypeDesc.func #[25, 3, 3, 3, 91] #[3] Bool.false) w := fun w => by kernel_rfl
@[simp] theorem Tro.runUnderlying93 : ∀ (w : Go.World), Go.Sem.run Go.Proofs.Tro.prog (Go.underlying 93) w = Go.Result.ok (Go.TypeDesc.pointer 87) w := fun w => by kernel_rfl
@[simp] theorem Tro.runUnderlying94 : ∀ (w : Go.World), Go.Sem.run Go.Proofs.Tro.prog (Go.underlying 94) w = Go.Result.ok (Go.TypeDesc.func #[25, 3, 3, 91] #[3, 3] Bool.false) w := fun w => by kernel_rfl
@[simp] theorem Tro.runUnderlying95 : ∀ (w : Go.World), Go.Sem.run Go.Proofs.Tro.prog (Go.underlying 95) w = Go.Result.ok (Go.TypeDesc.func #[] #[9] Bool.false) w := fun w => by kernel_rfl
@[simp] theorem Tro.runUnderlying96 : ∀ (w : Go.World), Go.Sem.run Go.Proofs.Tro.prog (Go.underlying 96) w = Go.Result.ok (Go.TypeDesc.struct #[Go.Field.mk "_interface" 17 0 Bool.false "" "runtime" 0, Go.Field.mk "concrete" 17 1 Bool.false "" "runtime" 8, Go.Field.mk "asserted" 17 2 Bool.false "" "runtime" 16, Go.Field.mk "missingMethod" 9 3 Bool.false "" "runtime" 24]) w := fun w => by kernel_rfl
@[simp] theorem Tro.runUnderlying97 : ∀ (w : Go.World), Go.Sem.run Go.Proofs.Tro.prog (Go.underlying 97) w = Go.Result.ok (Go.TypeDesc.struct #[Go.Field.mk "_interface" 17 0 Bool.false "" "runtime" 0, Go.Field.mk "concrete" 17 1 Bool.false "" "runtime" 8, Go.Field.mk "asserted" 17 2 Bool.false "" "runtime" 16, Go.Field.mk "missingMethod" 9 3 Bool.false "" "runtime" 24]) w := fun w => by kernel_rfl
@[simp] theorem Tro.runUnderlying98 : ∀ (w : Go.World), Go.Sem.run Go.Proofs.Tro.prog (Go.underlying 98) w = Go.Result.ok (Go.TypeDesc.array 0 16) w := fun w => by kernel_rfl
@[simp] theorem Tro.runUnderlying99 : ∀ (w : Go.World), Go.Sem.run Go.Proofs.Tro.prog (Go.underlying 99) w = Go.Result.ok (Go.TypeDesc.struct #[Go.Field.mk "_" 98 0 Bool.false "" "runtime" 0]) w := fun w => by kernel_rfl
@[simp] theorem Tro.runUnderlying100 : ∀ (w : Go.World), Go.Sem.run Go.Proofs.Tro.prog (Go.underlying 100) w = Go.Result.ok (Go.TypeDesc.struct #[Go.Field.mk "_" 98 0 Bool.false "" "runtime" 0]) w := fun w => by kernel_rfl
@[simp] theorem Tro.runUnderlying101 : ∀ (w : Go.World), Go.Sem.run Go.Proofs.Tro.prog (Go.underlying 101) w = Go.Result.ok (Go.TypeDesc.int Go.IntKind.u8) w := fun w => by kernel_rfl
@[simp] theorem Tro.runUnderlying102 : ∀ (w : Go.World), Go.Sem.run Go.Proofs.Tro.prog (Go.underlying 102) w = Go.Result.ok (Go.TypeDesc.int Go.IntKind.u8) w := fun w => by kernel_rfl
@[simp] theorem Tro.runUnderlying103 : ∀ (w : Go.World), Go.Sem.run Go.Proofs.Tro.prog (Go.underlying 103) w = Go.Result.ok (Go.TypeDesc.func #[109, 109] #[4] Bool.false) w := fun w => by kernel_rfl
@[simp] theorem Tro.runUnderlying104 : ∀ (w : Go.World), Go.Sem.run Go.Proofs.Tro.prog (Go.underlying 104) w = Go.Result.ok (Go.TypeDesc.pointer 5) w := fun w => by kernel_rfl
@[simp] theorem Tro.runUnderlying105 : ∀ (w : Go.World), Go.Sem.run Go.Proofs.Tro.prog (Go.underlying 105) w = Go.Result.ok (Go.TypeDesc.int Go.IntKind.i32) w := fun w => by kernel_rfl
@[simp] theorem Tro.runUnderlying106 : ∀ (w : Go.World), Go.Sem.run Go.Proofs.Tro.prog (Go.underlying 106) w = Go.Result.ok (Go.TypeDesc.int Go.IntKind.i32) w := fun w => by kernel_rfl
@[simp] theorem Tro.runUnderlying107 : ∀ (w : Go.World), Go.Sem.run Go.Proofs.Tro.prog (Go.underlying 107) w = Go.Result.ok (Go.TypeDesc.struct #[Go.Field.mk "Size_" 12 0 Bool.false "" "" 0, Go.Field.mk "PtrBytes" 12 1 Bool.false "" "" 8, Go.Field.mk "Hash" 76 2 Bool.false "" "" 16, Go.Field.mk "TFlag" 101 3 Bool.false "" "" 20, Go.Field.mk "Align_" 5 4 Bool.false "" "" 21, Go.Field.mk "FieldAlign_" 5 5 Bool.false "" "" 22, Go.Field.mk "Kind_" 102 6 Bool.false "" "" 23, Go.Field.mk "Equal" 103 7 Bool.false "" "" 24, Go.Field.mk "GCData" 104 8 Bool.false "" "" 32, Go.Field.mk "Str" 105 9 Bool.false "" "" 40, Go.Field.mk "PtrToThis" 106 10 Bool.false "" "" 44]) w := fun w => by kernel_rfl
@[simp] theorem Tro.runUnderlying108 : ∀ (w : Go.World), Go.Sem.run Go.Proofs.Tro.prog (Go.underlying 108) w = Go.Result.ok (Go.TypeDesc.struct #[Go.Field.mk "Size_" 12 0 Bool.false "" "" 0, Go.Field.mk "PtrBytes" 12 1 Bool.false "" "" 8, Go.Field.mk "Hash" 76 2 Bool.false "" "" 16, Go.Field.mk "TFlag" 101 3 Bool.false "" "" 20, Go.Field.mk "Align_" 5 4 Bool.false "" "" 21, Go.Field.mk "FieldAlign_" 5 5 Bool.false "" "" 22, Go.Field.mk "Kind_" 102 6 Bool.false "" "" 23, Go.Field.mk "Equal" 103 7 Bool.false "" "" 24, Go.Field.mk "GCData" 104 8 Bool.false "" "" 32, Go.Field.mk "Str" 105 9 Bool.false "" "" 40, Go.Field.mk "PtrToThis" 106 10 Bool.false "" "" 44]) w := fun w => by kernel_rfl
@[simp] theorem Tro.runUnderlying109 : ∀ (w : Go.World), Go.Sem.run Go.Proofs.Tro.prog (Go.underlying 109) w = Go.Result.ok Go.TypeDesc.unsafePointer w := fun w => by kernel_rfl
@[simp] theorem Tro.sizeOf0 : ∀ (w : Go.World), Go.Sem.run Go.Proofs.Tro.prog (Go.sizeOf 0) w = Go.Result.ok 1 w := fun w => by kernel_rfl
@[simp] theorem Tro.sizeOf1 : ∀ (w : Go.World), Go.Sem.run Go.Proofs.Tro.prog (Go.sizeOf 1) w = Go.Result.ok 1 w := fun w => by kernel_rfl
@[simp] theorem Tro.sizeOf2 : ∀ (w : Go.World), Go.Sem.run Go.Proofs.Tro.prog (Go.sizeOf 2) w = Go.Result.ok 1 w := fun w => by kernel_rfl
@[simp] theorem Tro.sizeOf3 : ∀ (w : Go.World), Go.Sem.run Go.Proofs.Tro.prog (Go.sizeOf 3) w = Go.Result.ok 1 w := fun w => by kernel_rfl
@[simp] theorem Tro.sizeOf4 : ∀ (w : Go.World), Go.Sem.run Go.Proofs.Tro.prog (Go.sizeOf 4) w = Go.Result.ok 1 w := fun w => by kernel_rfl
@[simp] theorem Tro.sizeOf5 : ∀ (w : Go.World), Go.Sem.run Go.Proofs.Tro.prog (Go.sizeOf 5) w = Go.Result.ok 1 w := fun w => by kernel_rfl
@[simp] theorem Tro.sizeOf6 : ∀ (w : Go.World), Go.Sem.run Go.Proofs.Tro.prog (Go.sizeOf 6) w = Go.Result.ok 1 w := fun w => by kernel_rfl
@[simp] theorem Tro.sizeOf7 : ∀ (w : Go.World), Go.Sem.run Go.Proofs.Tro.prog (Go.sizeOf 7) w = Go.Result.ok 4 w := fun w => by kernel_rfl
@[simp] theorem Tro.sizeOf8 : ∀ (w : Go.World), Go.Sem.run Go.Proofs.Tro.prog (Go.sizeOf 8) w = Go.Result.ok 4 w := fun w => by kernel_rfl
@[simp] theorem Tro.sizeOf9 : ∀ (w : Go.World), Go.Sem.run Go.Proofs.Tro.prog (Go.sizeOf 9) w = Go.Result.ok 1 w := fun w => by kernel_rfl
@[simp] theorem Tro.sizeOf10 : ∀ (w : Go.World), Go.Sem.run Go.Proofs.Tro.prog (Go.sizeOf 10) w = Go.Result.ok 1 w := fun w => by kernel_rfl
@[simp] theorem Tro.sizeOf11 : ∀ (w : Go.World), Go.Sem.run Go.Proofs.Tro.prog (Go.sizeOf 11) w = Go.Result.ok 1 w := fun w => by kernel_rfl
@[simp] theorem Tro.sizeOf12 : ∀ (w : Go.World), Go.Sem.run Go.Proofs.Tro.prog (Go.sizeOf 12) w = Go.Result.ok 1 w := fun w => by kernel_rfl
@[simp] theorem Tro.sizeOf13 : ∀ (w : Go.World), Go.Sem.run Go.Proofs.Tro.prog (Go.sizeOf 13) w = Go.Result.ok 2 w := fun w => by kernel_rfl
@[simp] theorem Tro.sizeOf14 : ∀ (w : Go.World), Go.Sem.run Go.Proofs.Tro.prog (Go.sizeOf 14) w = Go.Result.ok 2 w := fun w => by kernel_rfl
@[simp] theorem Tro.sizeOf15 : ∀ (w : Go.World), Go.Sem.run Go.Proofs.Tro.prog (Go.sizeOf 15) w = Go.Result.ok 1 w := fun w => by kernel_rfl
@[simp] theorem Tro.sizeOf16 : ∀ (w : Go.World), Go.Sem.run Go.Proofs.Tro.prog (Go.sizeOf 16) w = Go.Result.ok 1 w := fun w => by kernel_rfl
@[simp] theorem Tro.sizeOf17 : ∀ (w : Go.World), Go.Sem.run Go.Proofs.Tro.prog (Go.sizeOf 17) w = Go.Result.ok 1 w := fun w => by kernel_rfl
@[simp] theorem Tro.sizeOf18 : ∀ (w : Go.World), Go.Sem.run Go.Proofs.Tro.prog (Go.sizeOf 18) w = Go.Result.ok 1 w := fun w => by kernel_rfl
@[simp] theorem Tro.sizeOf19 : ∀ (w : Go.World), Go.Sem.run Go.Proofs.Tro.prog (Go.sizeOf 19) w = Go.Result.ok 1 w := fun w => by kernel_rfl
@[simp] theorem Tro.sizeOf20 : ∀ (w : Go.World), Go.Sem.run Go.Proofs.Tro.prog (Go.sizeOf 20) w = Go.Result.ok 1 w := fun w => by kernel_rfl
@[simp] theorem Tro.sizeOf21 : ∀ (w : Go.World), Go.Sem.run Go.Proofs.Tro.prog (Go.sizeOf 21) w = Go.Result.ok 1 w := fun w => by kernel_rfl
@[simp] theorem Tro.sizeOf22 : ∀ (w : Go.World), Go.Sem.run Go.Proofs.Tro.prog (Go.sizeOf 22) w = Go.Result.ok 1 w := fun w => by kernel_rfl
@[simp] theorem Tro.sizeOf23 : ∀ (w : Go.World), Go.Sem.run Go.Proofs.Tro.prog (Go.sizeOf 23) w = Go.Result.ok 1 w := fun w => by kernel_rfl
@[simp] theorem Tro.sizeOf24 : ∀ (w : Go.World), Go.Sem.run Go.Proofs.Tro.prog (Go.sizeOf 24) w = Go.Result.ok 1 w := fun w => by kernel_rfl
@[simp] theorem Tro.sizeOf25 : ∀ (w : Go.World), Go.Sem.run Go.Proofs.Tro.prog (Go.sizeOf 25) w = Go.Result.ok 1 w := fun w => by kernel_rfl
@[simp] theorem Tro.sizeOf26 : ∀ (w : Go.World), Go.Sem.run Go.Proofs.Tro.prog (Go.sizeOf 26) w = Go.Result.ok 1 w := fun w => by kernel_rfl
@[simp] theorem Tro.sizeOf27 : ∀ (w : Go.World), Go.Sem.run Go.Proofs.Tro.prog (Go.sizeOf 27) w = Go.Result.ok 1 w := fun w => by kernel_rfl
@[simp] theorem Tro.sizeOf28 : ∀ (w : Go.World), Go.Sem.run Go.Proofs.Tro.prog (Go.sizeOf 28) w = Go.Result.ok 1 w := fun w => by kernel_rfl
@[simp] theorem Tro.sizeOf29 : ∀ (w : Go.World), Go.Sem.run Go.Proofs.Tro.prog (Go.sizeOf 29) w = Go.Result.ok 1 w := fun w => by kernel_rfl
@[simp] theorem Tro.sizeOf30 : ∀ (w : Go.World), Go.Sem.run Go.Proofs.Tro.prog (Go.sizeOf 30) w = Go.Result.ok 1 w := fun w => by kernel_rfl
@[simp] theorem Tro.sizeOf31 : ∀ (w : Go.World), Go.Sem.run Go.Proofs.Tro.prog (Go.sizeOf 31) w = Go.Result.ok 1 w := fun w => by kernel_rfl
@[simp] theorem Tro.sizeOf32 : ∀ (w : Go.World), Go.Sem.run Go.Proofs.Tro.prog (Go.sizeOf 32) w = Go.Result.ok 1 w := fun w => by kernel_rfl
@[simp] theorem Tro.sizeOf33 : ∀ (w : Go.World), Go.Sem.run Go.Proofs.Tro.prog (Go.sizeOf 33) w = Go.Result.ok 1 w := fun w => by kernel_rfl
@[simp] theorem Tro.sizeOf34 : ∀ (w : Go.World), Go.Sem.run Go.Proofs.Tro.prog (Go.sizeOf 34) w = Go.Result.ok 1 w := fun w => by kernel_rfl
@[simp] theorem Tro.sizeOf35 : ∀ (w : Go.World), Go.Sem.run Go.Proofs.Tro.prog (Go.sizeOf 35) w = Go.Result.ok 1 w := fun w => by kernel_rfl
@[simp] theorem Tro.sizeOf36 : ∀ (w : Go.World), Go.Sem.run Go.Proofs.Tro.prog (Go.sizeOf 36) w = Go.Result.ok 1 w := fun w => by kernel_rfl
@[simp] theorem Tro.sizeOf37 : ∀ (w : Go.World), Go.Sem.run Go.Proofs.Tro.prog (Go.sizeOf 37) w = Go.Result.ok 1 w := fun w => by kernel_rfl
@[simp] theorem Tro.sizeOf38 : ∀ (w : Go.World), Go.Sem.run Go.Proofs.Tro.prog (Go.sizeOf 38) w = Go.Result.ok 1 w := fun w => by kernel_rfl
@[simp] theorem Tro.sizeOf39 : ∀ (w : Go.World), Go.Sem.run Go.Proofs.Tro.prog (Go.sizeOf 39) w = Go.Result.ok 1 w := fun w => by kernel_rfl
@[simp] theorem Tro.sizeOf40 : ∀ (w : Go.World), Go.Sem.run Go.Proofs.Tro.prog (Go.sizeOf 40) w = Go.Result.ok 1 w := fun w => by kernel_rfl
@[simp] theorem Tro.sizeOf41 : ∀ (w : Go.World), Go.Sem.run Go.Proofs.Tro.prog (Go.sizeOf 41) w = Go.Result.ok 1 w := fun w => by kernel_rfl
@[simp] theorem Tro.sizeOf42 : ∀ (w : Go.World), Go.Sem.run Go.Proofs.Tro.prog (Go.sizeOf 42) w = Go.Result.ok 1 w := fun w => by kernel_rfl
@[simp] theorem Tro.sizeOf43 : ∀ (w : Go.World), Go.Sem.run Go.Proofs.Tro.prog (Go.sizeOf 43) w = Go.Result.ok 1 w := fun w => by kernel_rfl
@[simp] theorem Tro.sizeOf44 : ∀ (w : Go.World), Go.Sem.run Go.Proofs.Tro.prog (Go.sizeOf 44) w = Go.Result.ok 1 w := fun w => by kernel_rfl
@[simp] theorem Tro.sizeOf45 : ∀ (w : Go.World), Go.Sem.run Go.Proofs.Tro.prog (Go.sizeOf 45) w = Go.Result.ok 1 w := fun w => by kernel_rfl
@[simp] theorem Tro.sizeOf46 : ∀ (w : Go.World), Go.Sem.run Go.Proofs.Tro.prog (Go.sizeOf 46) w = Go.Result.ok 2 w := fun w => by kernel_rfl
@[simp] theorem Tro.sizeOf47 : ∀ (w : Go.World), Go.Sem.run Go.Proofs.Tro.prog (Go.sizeOf 47) w = Go.Result.ok 2 w := fun w => by kernel_rfl
@[simp] theorem Tro.sizeOf48 : ∀ (w : Go.World), Go.Sem.run Go.Proofs.Tro.prog (Go.sizeOf 48) w = Go.Result.ok 2 w := fun w => by kernel_rfl
@[simp] theorem Tro.sizeOf49 : ∀ (w : Go.World), Go.Sem.run Go.Proofs.Tro.prog (Go.sizeOf 49) w = Go.Result.ok 2 w := fun w => by kernel_rfl
@[simp] theorem Tro.sizeOf50 : ∀ (w : Go.World), Go.Sem.run Go.Proofs.Tro.prog (Go.sizeOf 50) w = Go.Result.ok 1 w := fun w => by kernel_rfl
@[simp] theorem Tro.sizeOf51 : ∀ (w : Go.World), Go.Sem.run Go.Proofs.Tro.prog (Go.sizeOf 51) w = Go.Result.ok 1 w := fun w => by kernel_rfl
@[simp] theorem Tro.sizeOf52 : ∀ (w : Go.World), Go.Sem.run Go.Proofs.Tro.prog (Go.sizeOf 52) w = Go.Result.ok 1 w := fun w => by kernel_rfl
@[simp] theorem Tro.sizeOf53 : ∀ (w : Go.World), Go.Sem.run Go.Proofs.Tro.prog (Go.sizeOf 53) w = Go.Result.ok 1 w := fun w => by kernel_rfl
@[simp] theorem Tro.sizeOf54 : ∀ (w : Go.World), Go.Sem.run Go.Proofs.Tro.prog (Go.sizeOf 54) w = Go.Result.ok 1 w := fun w => by kernel_rfl
@[simp] theorem Tro.sizeOf55 : ∀ (w : Go.World), Go.Sem.run Go.Proofs.Tro.prog (Go.sizeOf 55) w = Go.Result.ok 1 w := fun w => by kernel_rfl
@[simp] theorem Tro.sizeOf56 : ∀ (w : Go.World), Go.Sem.run Go.Proofs.Tro.prog (Go.sizeOf 56) w = Go.Result.ok 1 w := fun w => by kernel_rfl
@[simp] theorem Tro.sizeOf57 : ∀ (w : Go.World), Go.Sem.run Go.Proofs.Tro.prog (Go.sizeOf 57) w = Go.Result.ok 1 w := fun w => by kernel_rfl
@[simp] theorem Tro.sizeOf58 : ∀ (w : Go.World), Go.Sem.run Go.Proofs.Tro.prog (Go.sizeOf 58) w = Go.Result.ok 1 w := fun w => by kernel_rfl
@[simp] theorem Tro.sizeOf59 : ∀ (w : Go.World), Go.Sem.run Go.Proofs.Tro.prog (Go.sizeOf 59) w = Go.Result.ok 1 w := fun w => by kernel_rfl
@[simp] theorem Tro.sizeOf60 : ∀ (w : Go.World), Go.Sem.run Go.Proofs.Tro.prog (Go.sizeOf 60) w = Go.Result.ok 1 w := fun w => by kernel_rfl
@[simp] theorem Tro.sizeOf61 : ∀ (w : Go.World), Go.Sem.run Go.Proofs.Tro.prog (Go.sizeOf 61) w = Go.Result.ok 2 w := fun w => by kernel_rfl
@[simp] theorem Tro.sizeOf62 : ∀ (w : Go.World), Go.Sem.run Go.Proofs.Tro.prog (Go.sizeOf 62) w = Go.Result.ok 2 w := fun w => by kernel_rfl
@[simp] theorem Tro.sizeOf63 : ∀ (w : Go.World), Go.Sem.run Go.Proofs.Tro.prog (Go.sizeOf 63) w = Go.Result.ok 1 w := fun w => by kernel_rfl
@[simp] theorem Tro.sizeOf64 : ∀ (w : Go.World), Go.Sem.run Go.Proofs.Tro.prog (Go.sizeOf 64) w = Go.Result.ok 1 w := fun w => by kernel_rfl
@[simp] theorem Tro.sizeOf65 : ∀ (w : Go.World), Go.Sem.run Go.Proofs.Tro.prog (Go.sizeOf 65) w = Go.Result.ok 1 w := fun w => by kernel_rfl
@[simp] theorem Tro.sizeOf66 : ∀ (w : Go.World), Go.Sem.run Go.Proofs.Tro.prog (Go.sizeOf 66) w = Go.Result.ok 1 w := fun w => by kernel_rfl
@[simp] theorem Tro.sizeOf67 : ∀ (w : Go.World), Go.Sem.run Go.Proofs.Tro.prog (Go.sizeOf 67) w = Go.Result.ok 1 w := fun w => by kernel_rfl
@[simp] theorem Tro.sizeOf68 : ∀ (w : Go.World), Go.Sem.run Go.Proofs.Tro.prog (Go.sizeOf 68) w = Go.Result.ok 1 w := fun w => by kernel_rfl
@[simp] theorem Tro.sizeOf69 : ∀ (w : Go.World), Go.Sem.run Go.Proofs.Tro.prog (Go.sizeOf 69) w = Go.Result.ok 1 w := fun w => by kernel_rfl
@[simp] theorem Tro.sizeOf70 : ∀ (w : Go.World), Go.Sem.run Go.Proofs.Tro.prog (Go.sizeOf 70) w = Go.Result.ok 1 w := fun w => by kernel_rfl
@[simp] theorem Tro.sizeOf71 : ∀ (w : Go.World), Go.Sem.run Go.Proofs.Tro.prog (Go.sizeOf 71) w = Go.Result.ok 1 w := fun w => by kernel_rfl
@[simp] theorem Tro.sizeOf72 : ∀ (w : Go.World), Go.Sem.run Go.Proofs.Tro.prog (Go.sizeOf 72) w = Go.Result.ok 1 w := fun w => by kernel_rfl
@[simp] theorem Tro.sizeOf73 : ∀ (w : Go.World), Go.Sem.run Go.Proofs.Tro.prog (Go.sizeOf 73) w = Go.Result.ok 1 w := fun w => by kernel_rfl
@[simp] theorem Tro.sizeOf74 : ∀ (w : Go.World), Go.Sem.run Go.Proofs.Tro.prog (Go.sizeOf 74) w = Go.Result.ok 1 w := fun w => by kernel_rfl
@[simp] theorem Tro.sizeOf75 : ∀ (w : Go.World), Go.Sem.run Go.Proofs.Tro.prog (Go.sizeOf 75) w = Go.Result.ok 1 w := fun w => by kernel_rfl
@[simp] theorem Tro.sizeOf76 : ∀ (w : Go.World), Go.Sem.run Go.Proofs.Tro.prog (Go.sizeOf 76) w = Go.Result.ok 1 w := fun w => by kernel_rfl
@[simp] theorem Tro.sizeOf77 : ∀ (w : Go.World), Go.Sem.run Go.Proofs.Tro.prog (Go.sizeOf 77) w = Go.Result.ok 1 w := fun w => by kernel_rfl
@[simp] theorem Tro.sizeOf78 : ∀ (w : Go.World), Go.Sem.run Go.Proofs.Tro.prog (Go.sizeOf 78) w = Go.Result.ok 1 w := fun w => by kernel_rfl
@[simp] theorem Tro.sizeOf79 : ∀ (w : Go.World), Go.Sem.run Go.Proofs.Tro.prog (Go.sizeOf 79) w = Go.Result.ok 1 w := fun w => by kernel_rfl
@[simp] theorem Tro.sizeOf80 : ∀ (w : Go.World), Go.Sem.run Go.Proofs.Tro.prog (Go.sizeOf 80) w = Go.Result.ok 1 w := fun w => by kernel_rfl
@[simp] theorem Tro.sizeOf81 : ∀ (w : Go.World), Go.Sem.run Go.Proofs.Tro.prog (Go.sizeOf 81) w = Go.Result.ok 1 w := fun w => by kernel_rfl
@[simp] theorem Tro.sizeOf82 : ∀ (w : Go.World), Go.Sem.run Go.Proofs.Tro.prog (Go.sizeOf 82) w = Go.Result.ok 1 w := fun w => by kernel_rfl
@[simp] theorem Tro.sizeOf83 : ∀ (w : Go.World), Go.Sem.run Go.Proofs.Tro.prog (Go.sizeOf 83) w = Go.Result.ok 1 w := fun w => by kernel_rfl
@[simp] theorem Tro.sizeOf84 : ∀ (w : Go.World), Go.Sem.run Go.Proofs.Tro.prog (Go.sizeOf 84) w = Go.Result.ok 1 w := fun w => by kernel_rfl
@[simp] theorem Tro.sizeOf85 : ∀ (w : Go.World), Go.Sem.run Go.Proofs.Tro.prog (Go.sizeOf 85) w = Go.Result.ok 1 w := fun w => by kernel_rfl
@[simp] theorem Tro.sizeOf86 : ∀ (w : Go.World), Go.Sem.run Go.Proofs.Tro.prog (Go.sizeOf 86) w = Go.Result.ok 1 w := fun w => by kernel_rfl
@[simp] theorem Tro.sizeOf87 : ∀ (w : Go.World), Go.Sem.run Go.Proofs.Tro.prog (Go.sizeOf 87) w = Go.Result.ok 1 w := fun w => by kernel_rfl
@[simp] theorem Tro.sizeOf88 : ∀ (w : Go.World), Go.Sem.run Go.Proofs.Tro.prog (Go.sizeOf 88) w = Go.Result.ok 1 w := fun w => by kernel_rfl
@[simp] theorem Tro.sizeOf89 : ∀ (w : Go.World), Go.Sem.run Go.Proofs.Tro.prog (Go.sizeOf 89) w = Go.Result.ok 1 w := fun w => by kernel_rfl
@[simp] theorem Tro.sizeOf90 : ∀ (w : Go.World), Go.Sem.run Go.Proofs.Tro.prog (Go.sizeOf 90) w = Go.Result.ok 1 w := fun w => by kernel_rfl
@[simp] theorem Tro.sizeOf91 : ∀ (w : Go.World), Go.Sem.run Go.Proofs.Tro.prog (Go.sizeOf 91) w = Go.Result.ok 1 w := fun w => by kernel_rfl
@[simp] theorem Tro.sizeOf92 : ∀ (w : Go.World), Go.Sem.run Go.Proofs.Tro.prog (Go.sizeOf 92) w = Go.Result.ok 1 w := fun w => by kernel_rfl
@[simp] theorem Tro.sizeOf93 : ∀ (w : Go.World), Go.Sem.run Go.Proofs.Tro.prog (Go.sizeOf 93) w = Go.Result.ok 1 w := fun w => by kernel_rfl
@[simp] theorem Tro.sizeOf94 : ∀ (w : Go.World), Go.Sem.run Go.Proofs.Tro.prog (Go.sizeOf 94) w = Go.Result.ok 1 w := fun w => by kernel_rfl
@[simp] theorem Tro.sizeOf95 : ∀ (w : Go.World), Go.Sem.run Go.Proofs.Tro.prog (Go.sizeOf 95) w = Go.Result.ok 1 w := fun w => by kernel_rfl
@[simp] theorem Tro.sizeOf96 : ∀ (w : Go.World), Go.Sem.run Go.Proofs.Tro.prog (Go.sizeOf 96) w = Go.Result.ok 4 w := fun w => by kernel_rfl
@[simp] theorem Tro.sizeOf97 : ∀ (w : Go.World), Go.Sem.run Go.Proofs.Tro.prog (Go.sizeOf 97) w = Go.Result.ok 4 w := fun w => by kernel_rfl
@[simp] theorem Tro.sizeOf98 : ∀ (w : Go.World), Go.Sem.run Go.Proofs.Tro.prog (Go.sizeOf 98) w = Go.Result.ok 0 w := fun w => by kernel_rfl
@[simp] theorem Tro.sizeOf99 : ∀ (w : Go.World), Go.Sem.run Go.Proofs.Tro.prog (Go.sizeOf 99) w = Go.Result.ok 0 w := fun w => by kernel_rfl
@[simp] theorem Tro.sizeOf100 : ∀ (w : Go.World), Go.Sem.run Go.Proofs.Tro.prog (Go.sizeOf 100) w = Go.Result.ok 0 w := fun w => by kernel_rfl
@[simp] theorem Tro.sizeOf101 : ∀ (w : Go.World), Go.Sem.run Go.Proofs.Tro.prog (Go.sizeOf 101) w = Go.Result.ok 1 w := fun w => by kernel_rfl
@[simp] theorem Tro.sizeOf102 : ∀ (w : Go.World), Go.Sem.run Go.Proofs.Tro.prog (Go.sizeOf 102) w = Go.Result.ok 1 w := fun w => by kernel_rfl
@[simp] theorem Tro.sizeOf103 : ∀ (w : Go.World), Go.Sem.run Go.Proofs.Tro.prog (Go.sizeOf 103) w = Go.Result.ok 1 w := fun w => by kernel_rfl
@[simp] theorem Tro.sizeOf104 : ∀ (w : Go.World), Go.Sem.run Go.Proofs.Tro.prog (Go.sizeOf 104) w = Go.Result.ok 1 w := fun w => by kernel_rfl
@[simp] theorem Tro.sizeOf105 : ∀ (w : Go.World), Go.Sem.run Go.Proofs.Tro.prog (Go.sizeOf 105) w = Go.Result.ok 1 w := fun w => by kernel_rfl
@[simp] theorem Tro.sizeOf106 : ∀ (w : Go.World), Go.Sem.run Go.Proofs.Tro.prog (Go.sizeOf 106) w = Go.Result.ok 1 w := fun w => by kernel_rfl
@[simp] theorem Tro.sizeOf107 : ∀ (w : Go.World), Go.Sem.run Go.Proofs.Tro.prog (Go.sizeOf 107) w = Go.Result.ok 11 w := fun w => by kernel_rfl
@[simp] theorem Tro.sizeOf108 : ∀ (w : Go.World), Go.Sem.run Go.Proofs.Tro.prog (Go.sizeOf 108) w = Go.Result.ok 11 w := fun w => by kernel_rfl
@[simp] theorem Tro.sizeOf109 : ∀ (w : Go.World), Go.Sem.run Go.Proofs.Tro.prog (Go.sizeOf 109) w = Go.Result.ok 1 w := fun w => by kernel_rfl
@[simp] theorem Tro.stoodInHeld7 : Go.Proofs.Tro.prog.stoodInHeld 7 = Bool.false := by kernel_rfl
@[simp] theorem Tro.stoodInHeld8 : Go.Proofs.Tro.prog.stoodInHeld 8 = Bool.false := by kernel_rfl
@[simp] theorem Tro.stoodInHeld13 : Go.Proofs.Tro.prog.stoodInHeld 13 = Bool.true := by kernel_rfl
@[simp] theorem Tro.stoodInHeld14 : Go.Proofs.Tro.prog.stoodInHeld 14 = Bool.true := by kernel_rfl
@[simp] theorem Tro.stoodInHeld18 : Go.Proofs.Tro.prog.stoodInHeld 18 = Bool.true := by kernel_rfl
@[simp] theorem Tro.stoodInHeld19 : Go.Proofs.Tro.prog.stoodInHeld 19 = Bool.true := by kernel_rfl
@[simp] theorem Tro.stoodInHeld46 : Go.Proofs.Tro.prog.stoodInHeld 46 = Bool.false := by kernel_rfl
@[simp] theorem Tro.stoodInHeld47 : Go.Proofs.Tro.prog.stoodInHeld 47 = Bool.false := by kernel_rfl
@[simp] theorem Tro.stoodInHeld48 : Go.Proofs.Tro.prog.stoodInHeld 48 = Bool.false := by kernel_rfl
@[simp] theorem Tro.stoodInHeld49 : Go.Proofs.Tro.prog.stoodInHeld 49 = Bool.false := by kernel_rfl
@[simp] theorem Tro.stoodInHeld61 : Go.Proofs.Tro.prog.stoodInHeld 61 = Bool.false := by kernel_rfl
@[simp] theorem Tro.stoodInHeld62 : Go.Proofs.Tro.prog.stoodInHeld 62 = Bool.false := by kernel_rfl
@[simp] theorem Tro.stoodInHeld96 : Go.Proofs.Tro.prog.stoodInHeld 96 = Bool.true := by kernel_rfl
@[simp] theorem Tro.stoodInHeld97 : Go.Proofs.Tro.prog.stoodInHeld 97 = Bool.true := by kernel_rfl
@[simp] theorem Tro.stoodInHeld99 : Go.Proofs.Tro.prog.stoodInHeld 99 = Bool.true := by kernel_rfl
@[simp] theorem Tro.stoodInHeld100 : Go.Proofs.Tro.prog.stoodInHeld 100 = Bool.true := by kernel_rfl
@[simp] theorem Tro.stoodInHeld107 : Go.Proofs.Tro.prog.stoodInHeld 107 = Bool.true := by kernel_rfl
@[simp] theorem Tro.stoodInHeld108 : Go.Proofs.Tro.prog.stoodInHeld 108 = Bool.true := by kernel_rfl
@[simp] theorem Tro.type0 : Go.Proofs.Tro.prog.types[0]? = Option.some Go.Proofs.Try.t0 := by kernel_rfl
@[simp] theorem Tro.type1 : Go.Proofs.Tro.prog.types[1]? = Option.some Go.Proofs.Try.t1 := by kernel_rfl
@[simp] theorem Tro.type2 : Go.Proofs.Tro.prog.types[2]? = Option.some Go.Proofs.Try.t2 := by kernel_rfl
@[simp] theorem Tro.type3 : Go.Proofs.Tro.prog.types[3]? = Option.some Go.Proofs.Try.t3 := by kernel_rfl
@[simp] theorem Tro.type4 : Go.Proofs.Tro.prog.types[4]? = Option.some Go.Proofs.Try.t4 := by kernel_rfl
@[simp] theorem Tro.type5 : Go.Proofs.Tro.prog.types[5]? = Option.some Go.Proofs.Try.t5 := by kernel_rfl
@[simp] theorem Tro.type6 : Go.Proofs.Tro.prog.types[6]? = Option.some Go.Proofs.Try.t6 := by kernel_rfl
@[simp] theorem Tro.type7 : Go.Proofs.Tro.prog.types[7]? = Option.some Go.Proofs.Try.t7 := by kernel_rfl
@[simp] theorem Tro.type8 : Go.Proofs.Tro.prog.types[8]? = Option.some Go.Proofs.Try.t8 := by kernel_rfl
@[simp] theorem Tro.type9 : Go.Proofs.Tro.prog.types[9]? = Option.some Go.Proofs.Try.t9 := by kernel_rfl
@[simp] theorem Tro.type10 : Go.Proofs.Tro.prog.types[10]? = Option.some Go.Proofs.Try.t10 := by kernel_rfl
@[simp] theorem Tro.type11 : Go.Proofs.Tro.prog.types[11]? = Option.some Go.Proofs.Try.t11 := by kernel_rfl
@[simp] theorem Tro.type12 : Go.Proofs.Tro.prog.types[12]? = Option.some Go.Proofs.Try.t12 := by kernel_rfl
@[simp] theorem Tro.type13 : Go.Proofs.Tro.prog.types[13]? = Option.some Go.Proofs.Try.t13 := by kernel_rfl
@[simp] theorem Tro.type14 : Go.Proofs.Tro.prog.types[14]? = Option.some Go.Proofs.Try.t14 := by kernel_rfl
@[simp] theorem Tro.type15 : Go.Proofs.Tro.prog.types[15]? = Option.some Go.Proofs.Try.t15 := by kernel_rfl
@[simp] theorem Tro.type16 : Go.Proofs.Tro.prog.types[16]? = Option.some Go.Proofs.Try.t16 := by kernel_rfl
@[simp] theorem Tro.type17 : Go.Proofs.Tro.prog.types[17]? = Option.some Go.Proofs.Try.t17 := by kernel_rfl
@[simp] theorem Tro.type18 : Go.Proofs.Tro.prog.types[18]? = Option.some Go.Proofs.Try.t18 := by kernel_rfl
@[simp] theorem Tro.type19 : Go.Proofs.Tro.prog.types[19]? = Option.some Go.Proofs.Try.t19 := by kernel_rfl
@[simp] theorem Tro.type20 : Go.Proofs.Tro.prog.types[20]? = Option.some Go.Proofs.Try.t20 := by kernel_rfl
@[simp] theorem Tro.type21 : Go.Proofs.Tro.prog.types[21]? = Option.some Go.Proofs.Try.t21 := by kernel_rfl
@[simp] theorem Tro.type22 : Go.Proofs.Tro.prog.types[22]? = Option.some Go.Proofs.Try.t22 := by kernel_rfl
@[simp] theorem Tro.type23 : Go.Proofs.Tro.prog.types[23]? = Option.some Go.Proofs.Try.t23 := by kernel_rfl
@[simp] theorem Tro.type24 : Go.Proofs.Tro.prog.types[24]? = Option.some Go.Proofs.Try.t24 := by kernel_rfl
@[simp] theorem Tro.type25 : Go.Proofs.Tro.prog.types[25]? = Option.some Go.Proofs.Try.t25 := by kernel_rfl
@[simp] theorem Tro.type26 : Go.Proofs.Tro.prog.types[26]? = Option.some Go.Proofs.Try.t26 := by kernel_rfl
@[simp] theorem Tro.type27 : Go.Proofs.Tro.prog.types[27]? = Option.some Go.Proofs.Try.t27 := by kernel_rfl
@[simp] theorem Tro.type28 : Go.Proofs.Tro.prog.types[28]? = Option.some Go.Proofs.Try.t28 := by kernel_rfl
@[simp] theorem Tro.type29 : Go.Proofs.Tro.prog.types[29]? = Option.some Go.Proofs.Try.t29 := by kernel_rfl
@[simp] theorem Tro.type30 : Go.Proofs.Tro.prog.types[30]? = Option.some Go.Proofs.Try.t30 := by kernel_rfl
@[simp] theorem Tro.type31 : Go.Proofs.Tro.prog.types[31]? = Option.some Go.Proofs.Try.t31 := by kernel_rfl
@[simp] theorem Tro.type32 : Go.Proofs.Tro.prog.types[32]? = Option.some Go.Proofs.Try.t32 := by kernel_rfl
@[simp] theorem Tro.type33 : Go.Proofs.Tro.prog.types[33]? = Option.some Go.Proofs.Try.t33 := by kernel_rfl
@[simp] theorem Tro.type34 : Go.Proofs.Tro.prog.types[34]? = Option.some Go.Proofs.Try.t34 := by kernel_rfl
@[simp] theorem Tro.type35 : Go.Proofs.Tro.prog.types[35]? = Option.some Go.Proofs.Try.t35 := by kernel_rfl
@[simp] theorem Tro.type36 : Go.Proofs.Tro.prog.types[36]? = Option.some Go.Proofs.Try.t36 := by kernel_rfl
@[simp] theorem Tro.type37 : Go.Proofs.Tro.prog.types[37]? = Option.some Go.Proofs.Try.t37 := by kernel_rfl
@[simp] theorem Tro.type38 : Go.Proofs.Tro.prog.types[38]? = Option.some Go.Proofs.Try.t38 := by kernel_rfl
@[simp] theorem Tro.type39 : Go.Proofs.Tro.prog.types[39]? = Option.some Go.Proofs.Try.t39 := by kernel_rfl
@[simp] theorem Tro.type40 : Go.Proofs.Tro.prog.types[40]? = Option.some Go.Proofs.Try.t40 := by kernel_rfl
@[simp] theorem Tro.type41 : Go.Proofs.Tro.prog.types[41]? = Option.some Go.Proofs.Try.t41 := by kernel_rfl
@[simp] theorem Tro.type42 : Go.Proofs.Tro.prog.types[42]? = Option.some Go.Proofs.Try.t42 := by kernel_rfl
@[simp] theorem Tro.type43 : Go.Proofs.Tro.prog.types[43]? = Option.some Go.Proofs.Try.t43 := by kernel_rfl
@[simp] theorem Tro.type44 : Go.Proofs.Tro.prog.types[44]? = Option.some Go.Proofs.Try.t44 := by kernel_rfl
@[simp] theorem Tro.type45 : Go.Proofs.Tro.prog.types[45]? = Option.some Go.Proofs.Try.t45 := by kernel_rfl
@[simp] theorem Tro.type46 : Go.Proofs.Tro.prog.types[46]? = Option.some Go.Proofs.Try.t46 := by kernel_rfl
@[simp] theorem Tro.type47 : Go.Proofs.Tro.prog.types[47]? = Option.some Go.Proofs.Try.t47 := by kernel_rfl
@[simp] theorem Tro.type48 : Go.Proofs.Tro.prog.types[48]? = Option.some Go.Proofs.Try.t48 := by kernel_rfl
@[simp] theorem Tro.type49 : Go.Proofs.Tro.prog.types[49]? = Option.some Go.Proofs.Try.t49 := by kernel_rfl
@[simp] theorem Tro.type50 : Go.Proofs.Tro.prog.types[50]? = Option.some Go.Proofs.Try.t50 := by kernel_rfl
@[simp] theorem Tro.type51 : Go.Proofs.Tro.prog.types[51]? = Option.some Go.Proofs.Try.t51 := by kernel_rfl
@[simp] theorem Tro.type52 : Go.Proofs.Tro.prog.types[52]? = Option.some Go.Proofs.Try.t52 := by kernel_rfl
@[simp] theorem Tro.type53 : Go.Proofs.Tro.prog.types[53]? = Option.some Go.Proofs.Try.t53 := by kernel_rfl
@[simp] theorem Tro.type54 : Go.Proofs.Tro.prog.types[54]? = Option.some Go.Proofs.Try.t54 := by kernel_rfl
@[simp] theorem Tro.type55 : Go.Proofs.Tro.prog.types[55]? = Option.some Go.Proofs.Try.t55 := by kernel_rfl
@[simp] theorem Tro.type56 : Go.Proofs.Tro.prog.types[56]? = Option.some Go.Proofs.Try.t56 := by kernel_rfl
@[simp] theorem Tro.type57 : Go.Proofs.Tro.prog.types[57]? = Option.some Go.Proofs.Try.t57 := by kernel_rfl
@[simp] theorem Tro.type58 : Go.Proofs.Tro.prog.types[58]? = Option.some Go.Proofs.Try.t58 := by kernel_rfl
@[simp] theorem Tro.type59 : Go.Proofs.Tro.prog.types[59]? = Option.some Go.Proofs.Try.t59 := by kernel_rfl
@[simp] theorem Tro.type60 : Go.Proofs.Tro.prog.types[60]? = Option.some Go.Proofs.Try.t60 := by kernel_rfl
@[simp] theorem Tro.type61 : Go.Proofs.Tro.prog.types[61]? = Option.some Go.Proofs.Try.t61 := by kernel_rfl
@[simp] theorem Tro.type62 : Go.Proofs.Tro.prog.types[62]? = Option.some Go.Proofs.Try.t62 := by kernel_rfl
@[simp] theorem Tro.type63 : Go.Proofs.Tro.prog.types[63]? = Option.some Go.Proofs.Try.t63 := by kernel_rfl
@[simp] theorem Tro.type64 : Go.Proofs.Tro.prog.types[64]? = Option.some Go.Proofs.Try.t64 := by kernel_rfl
@[simp] theorem Tro.type65 : Go.Proofs.Tro.prog.types[65]? = Option.some Go.Proofs.Try.t65 := by kernel_rfl
@[simp] theorem Tro.type66 : Go.Proofs.Tro.prog.types[66]? = Option.some Go.Proofs.Try.t66 := by kernel_rfl
@[simp] theorem Tro.type67 : Go.Proofs.Tro.prog.types[67]? = Option.some Go.Proofs.Try.t67 := by kernel_rfl
@[simp] theorem Tro.type68 : Go.Proofs.Tro.prog.types[68]? = Option.some Go.Proofs.Try.t68 := by kernel_rfl
@[simp] theorem Tro.type69 : Go.Proofs.Tro.prog.types[69]? = Option.some Go.Proofs.Try.t69 := by kernel_rfl
@[simp] theorem Tro.type70 : Go.Proofs.Tro.prog.types[70]? = Option.some Go.Proofs.Try.t70 := by kernel_rfl
@[simp] theorem Tro.type71 : Go.Proofs.Tro.prog.types[71]? = Option.some Go.Proofs.Try.t71 := by kernel_rfl
@[simp] theorem Tro.type72 : Go.Proofs.Tro.prog.types[72]? = Option.some Go.Proofs.Try.t72 := by kernel_rfl
@[simp] theorem Tro.type73 : Go.Proofs.Tro.prog.types[73]? = Option.some Go.Proofs.Try.t73 := by kernel_rfl
@[simp] theorem Tro.type74 : Go.Proofs.Tro.prog.types[74]? = Option.some Go.Proofs.Try.t74 := by kernel_rfl
@[simp] theorem Tro.type75 : Go.Proofs.Tro.prog.types[75]? = Option.some Go.Proofs.Try.t75 := by kernel_rfl
@[simp] theorem Tro.type76 : Go.Proofs.Tro.prog.types[76]? = Option.some Go.Proofs.Try.t76 := by kernel_rfl
@[simp] theorem Tro.type77 : Go.Proofs.Tro.prog.types[77]? = Option.some Go.Proofs.Try.t77 := by kernel_rfl
@[simp] theorem Tro.type78 : Go.Proofs.Tro.prog.types[78]? = Option.some Go.Proofs.Try.t78 := by kernel_rfl
@[simp] theorem Tro.type79 : Go.Proofs.Tro.prog.types[79]? = Option.some Go.Proofs.Try.t79 := by kernel_rfl
@[simp] theorem Tro.type80 : Go.Proofs.Tro.prog.types[80]? = Option.some Go.Proofs.Try.t80 := by kernel_rfl
@[simp] theorem Tro.type81 : Go.Proofs.Tro.prog.types[81]? = Option.some Go.Proofs.Try.t81 := by kernel_rfl
@[simp] theorem Tro.type82 : Go.Proofs.Tro.prog.types[82]? = Option.some Go.Proofs.Try.t82 := by kernel_rfl
@[simp] theorem Tro.type83 : Go.Proofs.Tro.prog.types[83]? = Option.some Go.Proofs.Try.t83 := by kernel_rfl
@[simp] theorem Tro.type84 : Go.Proofs.Tro.prog.types[84]? = Option.some Go.Proofs.Try.t84 := by kernel_rfl
@[simp] theorem Tro.type85 : Go.Proofs.Tro.prog.types[85]? = Option.some Go.Proofs.Try.t85 := by kernel_rfl
@[simp] theorem Tro.type86 : Go.Proofs.Tro.prog.types[86]? = Option.some Go.Proofs.Try.t86 := by kernel_rfl
@[simp] theorem Tro.type87 : Go.Proofs.Tro.prog.types[87]? = Option.some Go.Proofs.Try.t87 := by kernel_rfl
@[simp] theorem Tro.type88 : Go.Proofs.Tro.prog.types[88]? = Option.some Go.Proofs.Try.t88 := by kernel_rfl
@[simp] theorem Tro.type89 : Go.Proofs.Tro.prog.types[89]? = Option.some Go.Proofs.Try.t89 := by kernel_rfl
@[simp] theorem Tro.type90 : Go.Proofs.Tro.prog.types[90]? = Option.some Go.Proofs.Try.t90 := by kernel_rfl
@[simp] theorem Tro.type91 : Go.Proofs.Tro.prog.types[91]? = Option.some Go.Proofs.Try.t91 := by kernel_rfl
@[simp] theorem Tro.type92 : Go.Proofs.Tro.prog.types[92]? = Option.some Go.Proofs.Try.t92 := by kernel_rfl
@[simp] theorem Tro.type93 : Go.Proofs.Tro.prog.types[93]? = Option.some Go.Proofs.Try.t93 := by kernel_rfl
@[simp] theorem Tro.type94 : Go.Proofs.Tro.prog.types[94]? = Option.some Go.Proofs.Try.t94 := by kernel_rfl
@[simp] theorem Tro.type95 : Go.Proofs.Tro.prog.types[95]? = Option.some Go.Proofs.Try.t95 := by kernel_rfl
@[simp] theorem Tro.type96 : Go.Proofs.Tro.prog.types[96]? = Option.some Go.Proofs.Try.t96 := by kernel_rfl
@[simp] theorem Tro.type97 : Go.Proofs.Tro.prog.types[97]? = Option.some Go.Proofs.Try.t97 := by kernel_rfl
@[simp] theorem Tro.type98 : Go.Proofs.Tro.prog.types[98]? = Option.some Go.Proofs.Try.t98 := by kernel_rfl
@[simp] theorem Tro.type99 : Go.Proofs.Tro.prog.types[99]? = Option.some Go.Proofs.Try.t99 := by kernel_rfl
@[simp] theorem Tro.type100 : Go.Proofs.Tro.prog.types[100]? = Option.some Go.Proofs.Try.t100 := by kernel_rfl
@[simp] theorem Tro.type101 : Go.Proofs.Tro.prog.types[101]? = Option.some Go.Proofs.Try.t101 := by kernel_rfl
@[simp] theorem Tro.type102 : Go.Proofs.Tro.prog.types[102]? = Option.some Go.Proofs.Try.t102 := by kernel_rfl
@[simp] theorem Tro.type103 : Go.Proofs.Tro.prog.types[103]? = Option.some Go.Proofs.Try.t103 := by kernel_rfl
@[simp] theorem Tro.type104 : Go.Proofs.Tro.prog.types[104]? = Option.some Go.Proofs.Try.t104 := by kernel_rfl
@[simp] theorem Tro.type105 : Go.Proofs.Tro.prog.types[105]? = Option.some Go.Proofs.Try.t105 := by kernel_rfl
@[simp] theorem Tro.type106 : Go.Proofs.Tro.prog.types[106]? = Option.some Go.Proofs.Try.t106 := by kernel_rfl
@[simp] theorem Tro.type107 : Go.Proofs.Tro.prog.types[107]? = Option.some Go.Proofs.Try.t107 := by kernel_rfl
@[simp] theorem Tro.type108 : Go.Proofs.Tro.prog.types[108]? = Option.some Go.Proofs.Try.t108 := by kernel_rfl
@[simp] theorem Tro.type109 : Go.Proofs.Tro.prog.types[109]? = Option.some Go.Proofs.Try.t109 := by kernel_rfl
@[simp] theorem Tro.typeInfo0 : ∀ (w : Go.World), Go.Sem.run Go.Proofs.Tro.prog (Go.typeInfo 0) w = Go.Result.ok Go.Proofs.Try.t0 w := fun w => by kernel_rfl
@[simp] theorem Tro.typeInfo1 : ∀ (w : Go.World), Go.Sem.run Go.Proofs.Tro.prog (Go.typeInfo 1) w = Go.Result.ok Go.Proofs.Try.t1 w := fun w => by kernel_rfl
@[simp] theorem Tro.typeInfo2 : ∀ (w : Go.World), Go.Sem.run Go.Proofs.Tro.prog (Go.typeInfo 2) w = Go.Result.ok Go.Proofs.Try.t2 w := fun w => by kernel_rfl
@[simp] theorem Tro.typeInfo3 : ∀ (w : Go.World), Go.Sem.run Go.Proofs.Tro.prog (Go.typeInfo 3) w = Go.Result.ok Go.Proofs.Try.t3 w := fun w => by kernel_rfl
@[simp] theorem Tro.typeInfo4 : ∀ (w : Go.World), Go.Sem.run Go.Proofs.Tro.prog (Go.typeInfo 4) w = Go.Result.ok Go.Proofs.Try.t4 w := fun w => by kernel_rfl
@[simp] theorem Tro.typeInfo5 : ∀ (w : Go.World), Go.Sem.run Go.Proofs.Tro.prog (Go.typeInfo 5) w = Go.Result.ok Go.Proofs.Try.t5 w := fun w => by kernel_rfl
@[simp] theorem Tro.typeInfo6 : ∀ (w : Go.World), Go.Sem.run Go.Proofs.Tro.prog (Go.typeInfo 6) w = Go.Result.ok Go.Proofs.Try.t6 w := fun w => by kernel_rfl
@[simp] theorem Tro.typeInfo7 : ∀ (w : Go.World), Go.Sem.run Go.Proofs.Tro.prog (Go.typeInfo 7) w = Go.Result.ok Go.Proofs.Try.t7 w := fun w => by kernel_rfl
@[simp] theorem Tro.typeInfo8 : ∀ (w : Go.World), Go.Sem.run Go.Proofs.Tro.prog (Go.typeInfo 8) w = Go.Result.ok Go.Proofs.Try.t8 w := fun w => by kernel_rfl
@[simp] theorem Tro.typeInfo9 : ∀ (w : Go.World), Go.Sem.run Go.Proofs.Tro.prog (Go.typeInfo 9) w = Go.Result.ok Go.Proofs.Try.t9 w := fun w => by kernel_rfl
@[simp] theorem Tro.typeInfo10 : ∀ (w : Go.World), Go.Sem.run Go.Proofs.Tro.prog (Go.typeInfo 10) w = Go.Result.ok Go.Proofs.Try.t10 w := fun w => by kernel_rfl
@[simp] theorem Tro.typeInfo11 : ∀ (w : Go.World), Go.Sem.run Go.Proofs.Tro.prog (Go.typeInfo 11) w = Go.Result.ok Go.Proofs.Try.t11 w := fun w => by kernel_rfl
@[simp] theorem Tro.typeInfo12 : ∀ (w : Go.World), Go.Sem.run Go.Proofs.Tro.prog (Go.typeInfo 12) w = Go.Result.ok Go.Proofs.Try.t12 w := fun w => by kernel_rfl
@[simp] theorem Tro.typeInfo13 : ∀ (w : Go.World), Go.Sem.run Go.Proofs.Tro.prog (Go.typeInfo 13) w = Go.Result.ok Go.Proofs.Try.t13 w := fun w => by kernel_rfl
@[simp] theorem Tro.typeInfo14 : ∀ (w : Go.World), Go.Sem.run Go.Proofs.Tro.prog (Go.typeInfo 14) w = Go.Result.ok Go.Proofs.Try.t14 w := fun w => by kernel_rfl
@[simp] theorem Tro.typeInfo15 : ∀ (w : Go.World), Go.Sem.run Go.Proofs.Tro.prog (Go.typeInfo 15) w = Go.Result.ok Go.Proofs.Try.t15 w := fun w => by kernel_rfl
@[simp] theorem Tro.typeInfo16 : ∀ (w : Go.World), Go.Sem.run Go.Proofs.Tro.prog (Go.typeInfo 16) w = Go.Result.ok Go.Proofs.Try.t16 w := fun w => by kernel_rfl
@[simp] theorem Tro.typeInfo17 : ∀ (w : Go.World), Go.Sem.run Go.Proofs.Tro.prog (Go.typeInfo 17) w = Go.Result.ok Go.Proofs.Try.t17 w := fun w => by kernel_rfl
@[simp] theorem Tro.typeInfo18 : ∀ (w : Go.World), Go.Sem.run Go.Proofs.Tro.prog (Go.typeInfo 18) w = Go.Result.ok Go.Proofs.Try.t18 w := fun w => by kernel_rfl
@[simp] theorem Tro.typeInfo19 : ∀ (w : Go.World), Go.Sem.run Go.Proofs.Tro.prog (Go.typeInfo 19) w = Go.Result.ok Go.Proofs.Try.t19 w := fun w => by kernel_rfl
@[simp] theorem Tro.typeInfo20 : ∀ (w : Go.World), Go.Sem.run Go.Proofs.Tro.prog (Go.typeInfo 20) w = Go.Result.ok Go.Proofs.Try.t20 w := fun w => by kernel_rfl
@[simp] theorem Tro.typeInfo21 : ∀ (w : Go.World), Go.Sem.run Go.Proofs.Tro.prog (Go.typeInfo 21) w = Go.Result.ok Go.Proofs.Try.t21 w := fun w => by kernel_rfl
@[simp] theorem Tro.typeInfo22 : ∀ (w : Go.World), Go.Sem.run Go.Proofs.Tro.prog (Go.typeInfo 22) w = Go.Result.ok Go.Proofs.Try.t22 w := fun w => by kernel_rfl
@[simp] theorem Tro.typeInfo23 : ∀ (w : Go.World), Go.Sem.run Go.Proofs.Tro.prog (Go.typeInfo 23) w = Go.Result.ok Go.Proofs.Try.t23 w := fun w => by kernel_rfl
@[simp] theorem Tro.typeInfo24 : ∀ (w : Go.World), Go.Sem.run Go.Proofs.Tro.prog (Go.typeInfo 24) w = Go.Result.ok Go.Proofs.Try.t24 w := fun w => by kernel_rfl
@[simp] theorem Tro.typeInfo25 : ∀ (w : Go.World), Go.Sem.run Go.Proofs.Tro.prog (Go.typeInfo 25) w = Go.Result.ok Go.Proofs.Try.t25 w := fun w => by kernel_rfl
@[simp] theorem Tro.typeInfo26 : ∀ (w : Go.World), Go.Sem.run Go.Proofs.Tro.prog (Go.typeInfo 26) w = Go.Result.ok Go.Proofs.Try.t26 w := fun w => by kernel_rfl
@[simp] theorem Tro.typeInfo27 : ∀ (w : Go.World), Go.Sem.run Go.Proofs.Tro.prog (Go.typeInfo 27) w = Go.Result.ok Go.Proofs.Try.t27 w := fun w => by kernel_rfl
@[simp] theorem Tro.typeInfo28 : ∀ (w : Go.World), Go.Sem.run Go.Proofs.Tro.prog (Go.typeInfo 28) w = Go.Result.ok Go.Proofs.Try.t28 w := fun w => by kernel_rfl
@[simp] theorem Tro.typeInfo29 : ∀ (w : Go.World), Go.Sem.run Go.Proofs.Tro.prog (Go.typeInfo 29) w = Go.Result.ok Go.Proofs.Try.t29 w := fun w => by kernel_rfl
@[simp] theorem Tro.typeInfo30 : ∀ (w : Go.World), Go.Sem.run Go.Proofs.Tro.prog (Go.typeInfo 30) w = Go.Result.ok Go.Proofs.Try.t30 w := fun w => by kernel_rfl
@[simp] theorem Tro.typeInfo31 : ∀ (w : Go.World), Go.Sem.run Go.Proofs.Tro.prog (Go.typeInfo 31) w = Go.Result.ok Go.Proofs.Try.t31 w := fun w => by kernel_rfl
@[simp] theorem Tro.typeInfo32 : ∀ (w : Go.World), Go.Sem.run Go.Proofs.Tro.prog (Go.typeInfo 32) w = Go.Result.ok Go.Proofs.Try.t32 w := fun w => by kernel_rfl
@[simp] theorem Tro.typeInfo33 : ∀ (w : Go.World), Go.Sem.run Go.Proofs.Tro.prog (Go.typeInfo 33) w = Go.Result.ok Go.Proofs.Try.t33 w := fun w => by kernel_rfl
@[simp] theorem Tro.typeInfo34 : ∀ (w : Go.World), Go.Sem.run Go.Proofs.Tro.prog (Go.typeInfo 34) w = Go.Result.ok Go.Proofs.Try.t34 w := fun w => by kernel_rfl
@[simp] theorem Tro.typeInfo35 : ∀ (w : Go.World), Go.Sem.run Go.Proofs.Tro.prog (Go.typeInfo 35) w = Go.Result.ok Go.Proofs.Try.t35 w := fun w => by kernel_rfl
@[simp] theorem Tro.typeInfo36 : ∀ (w : Go.World), Go.Sem.run Go.Proofs.Tro.prog (Go.typeInfo 36) w = Go.Result.ok Go.Proofs.Try.t36 w := fun w => by kernel_rfl
@[simp] theorem Tro.typeInfo37 : ∀ (w : Go.World), Go.Sem.run Go.Proofs.Tro.prog (Go.typeInfo 37) w = Go.Result.ok Go.Proofs.Try.t37 w := fun w => by kernel_rfl
@[simp] theorem Tro.typeInfo38 : ∀ (w : Go.World), Go.Sem.run Go.Proofs.Tro.prog (Go.typeInfo 38) w = Go.Result.ok Go.Proofs.Try.t38 w := fun w => by kernel_rfl
@[simp] theorem Tro.typeInfo39 : ∀ (w : Go.World), Go.Sem.run Go.Proofs.Tro.prog (Go.typeInfo 39) w = Go.Result.ok Go.Proofs.Try.t39 w := fun w => by kernel_rfl
@[simp] theorem Tro.typeInfo40 : ∀ (w : Go.World), Go.Sem.run Go.Proofs.Tro.prog (Go.typeInfo 40) w = Go.Result.ok Go.Proofs.Try.t40 w := fun w => by kernel_rfl
@[simp] theorem Tro.typeInfo41 : ∀ (w : Go.World), Go.Sem.run Go.Proofs.Tro.prog (Go.typeInfo 41) w = Go.Result.ok Go.Proofs.Try.t41 w := fun w => by kernel_rfl
@[simp] theorem Tro.typeInfo42 : ∀ (w : Go.World), Go.Sem.run Go.Proofs.Tro.prog (Go.typeInfo 42) w = Go.Result.ok Go.Proofs.Try.t42 w := fun w => by kernel_rfl
@[simp] theorem Tro.typeInfo43 : ∀ (w : Go.World), Go.Sem.run Go.Proofs.Tro.prog (Go.typeInfo 43) w = Go.Result.ok Go.Proofs.Try.t43 w := fun w => by kernel_rfl
@[simp] theorem Tro.typeInfo44 : ∀ (w : Go.World), Go.Sem.run Go.Proofs.Tro.prog (Go.typeInfo 44) w = Go.Result.ok Go.Proofs.Try.t44 w := fun w => by kernel_rfl
@[simp] theorem Tro.typeInfo45 : ∀ (w : Go.World), Go.Sem.run Go.Proofs.Tro.prog (Go.typeInfo 45) w = Go.Result.ok Go.Proofs.Try.t45 w := fun w => by kernel_rfl
@[simp] theorem Tro.typeInfo46 : ∀ (w : Go.World), Go.Sem.run Go.Proofs.Tro.prog (Go.typeInfo 46) w = Go.Result.ok Go.Proofs.Try.t46 w := fun w => by kernel_rfl
@[simp] theorem Tro.typeInfo47 : ∀ (w : Go.World), Go.Sem.run Go.Proofs.Tro.prog (Go.typeInfo 47) w = Go.Result.ok Go.Proofs.Try.t47 w := fun w => by kernel_rfl
@[simp] theorem Tro.typeInfo48 : ∀ (w : Go.World), Go.Sem.run Go.Proofs.Tro.prog (Go.typeInfo 48) w = Go.Result.ok Go.Proofs.Try.t48 w := fun w => by kernel_rfl
@[simp] theorem Tro.typeInfo49 : ∀ (w : Go.World), Go.Sem.run Go.Proofs.Tro.prog (Go.typeInfo 49) w = Go.Result.ok Go.Proofs.Try.t49 w := fun w => by kernel_rfl
@[simp] theorem Tro.typeInfo50 : ∀ (w : Go.World), Go.Sem.run Go.Proofs.Tro.prog (Go.typeInfo 50) w = Go.Result.ok Go.Proofs.Try.t50 w := fun w => by kernel_rfl
@[simp] theorem Tro.typeInfo51 : ∀ (w : Go.World), Go.Sem.run Go.Proofs.Tro.prog (Go.typeInfo 51) w = Go.Result.ok Go.Proofs.Try.t51 w := fun w => by kernel_rfl
@[simp] theorem Tro.typeInfo52 : ∀ (w : Go.World), Go.Sem.run Go.Proofs.Tro.prog (Go.typeInfo 52) w = Go.Result.ok Go.Proofs.Try.t52 w := fun w => by kernel_rfl
@[simp] theorem Tro.typeInfo53 : ∀ (w : Go.World), Go.Sem.run Go.Proofs.Tro.prog (Go.typeInfo 53) w = Go.Result.ok Go.Proofs.Try.t53 w := fun w => by kernel_rfl
@[simp] theorem Tro.typeInfo54 : ∀ (w : Go.World), Go.Sem.run Go.Proofs.Tro.prog (Go.typeInfo 54) w = Go.Result.ok Go.Proofs.Try.t54 w := fun w => by kernel_rfl
@[simp] theorem Tro.typeInfo55 : ∀ (w : Go.World), Go.Sem.run Go.Proofs.Tro.prog (Go.typeInfo 55) w = Go.Result.ok Go.Proofs.Try.t55 w := fun w => by kernel_rfl
@[simp] theorem Tro.typeInfo56 : ∀ (w : Go.World), Go.Sem.run Go.Proofs.Tro.prog (Go.typeInfo 56) w = Go.Result.ok Go.Proofs.Try.t56 w := fun w => by kernel_rfl
@[simp] theorem Tro.typeInfo57 : ∀ (w : Go.World), Go.Sem.run Go.Proofs.Tro.prog (Go.typeInfo 57) w = Go.Result.ok Go.Proofs.Try.t57 w := fun w => by kernel_rfl
@[simp] theorem Tro.typeInfo58 : ∀ (w : Go.World), Go.Sem.run Go.Proofs.Tro.prog (Go.typeInfo 58) w = Go.Result.ok Go.Proofs.Try.t58 w := fun w => by kernel_rfl
@[simp] theorem Tro.typeInfo59 : ∀ (w : Go.World), Go.Sem.run Go.Proofs.Tro.prog (Go.typeInfo 59) w = Go.Result.ok Go.Proofs.Try.t59 w := fun w => by kernel_rfl
@[simp] theorem Tro.typeInfo60 : ∀ (w : Go.World), Go.Sem.run Go.Proofs.Tro.prog (Go.typeInfo 60) w = Go.Result.ok Go.Proofs.Try.t60 w := fun w => by kernel_rfl
@[simp] theorem Tro.typeInfo61 : ∀ (w : Go.World), Go.Sem.run Go.Proofs.Tro.prog (Go.typeInfo 61) w = Go.Result.ok Go.Proofs.Try.t61 w := fun w => by kernel_rfl
@[simp] theorem Tro.typeInfo62 : ∀ (w : Go.World), Go.Sem.run Go.Proofs.Tro.prog (Go.typeInfo 62) w = Go.Result.ok Go.Proofs.Try.t62 w := fun w => by kernel_rfl
@[simp] theorem Tro.typeInfo63 : ∀ (w : Go.World), Go.Sem.run Go.Proofs.Tro.prog (Go.typeInfo 63) w = Go.Result.ok Go.Proofs.Try.t63 w := fun w => by kernel_rfl
@[simp] theorem Tro.typeInfo64 : ∀ (w : Go.World), Go.Sem.run Go.Proofs.Tro.prog (Go.typeInfo 64) w = Go.Result.ok Go.Proofs.Try.t64 w := fun w => by kernel_rfl
@[simp] theorem Tro.typeInfo65 : ∀ (w : Go.World), Go.Sem.run Go.Proofs.Tro.prog (Go.typeInfo 65) w = Go.Result.ok Go.Proofs.Try.t65 w := fun w => by kernel_rfl
@[simp] theorem Tro.typeInfo66 : ∀ (w : Go.World), Go.Sem.run Go.Proofs.Tro.prog (Go.typeInfo 66) w = Go.Result.ok Go.Proofs.Try.t66 w := fun w => by kernel_rfl
@[simp] theorem Tro.typeInfo67 : ∀ (w : Go.World), Go.Sem.run Go.Proofs.Tro.prog (Go.typeInfo 67) w = Go.Result.ok Go.Proofs.Try.t67 w := fun w => by kernel_rfl
@[simp] theorem Tro.typeInfo68 : ∀ (w : Go.World), Go.Sem.run Go.Proofs.Tro.prog (Go.typeInfo 68) w = Go.Result.ok Go.Proofs.Try.t68 w := fun w => by kernel_rfl
@[simp] theorem Tro.typeInfo69 : ∀ (w : Go.World), Go.Sem.run Go.Proofs.Tro.prog (Go.typeInfo 69) w = Go.Result.ok Go.Proofs.Try.t69 w := fun w => by kernel_rfl
@[simp] theorem Tro.typeInfo70 : ∀ (w : Go.World), Go.Sem.run Go.Proofs.Tro.prog (Go.typeInfo 70) w = Go.Result.ok Go.Proofs.Try.t70 w := fun w => by kernel_rfl
@[simp] theorem Tro.typeInfo71 : ∀ (w : Go.World), Go.Sem.run Go.Proofs.Tro.prog (Go.typeInfo 71) w = Go.Result.ok Go.Proofs.Try.t71 w := fun w => by kernel_rfl
@[simp] theorem Tro.typeInfo72 : ∀ (w : Go.World), Go.Sem.run Go.Proofs.Tro.prog (Go.typeInfo 72) w = Go.Result.ok Go.Proofs.Try.t72 w := fun w => by kernel_rfl
@[simp] theorem Tro.typeInfo73 : ∀ (w : Go.World), Go.Sem.run Go.Proofs.Tro.prog (Go.typeInfo 73) w = Go.Result.ok Go.Proofs.Try.t73 w := fun w => by kernel_rfl
@[simp] theorem Tro.typeInfo74 : ∀ (w : Go.World), Go.Sem.run Go.Proofs.Tro.prog (Go.typeInfo 74) w = Go.Result.ok Go.Proofs.Try.t74 w := fun w => by kernel_rfl
@[simp] theorem Tro.typeInfo75 : ∀ (w : Go.World), Go.Sem.run Go.Proofs.Tro.prog (Go.typeInfo 75) w = Go.Result.ok Go.Proofs.Try.t75 w := fun w => by kernel_rfl
@[simp] theorem Tro.typeInfo76 : ∀ (w : Go.World), Go.Sem.run Go.Proofs.Tro.prog (Go.typeInfo 76) w = Go.Result.ok Go.Proofs.Try.t76 w := fun w => by kernel_rfl
@[simp] theorem Tro.typeInfo77 : ∀ (w : Go.World), Go.Sem.run Go.Proofs.Tro.prog (Go.typeInfo 77) w = Go.Result.ok Go.Proofs.Try.t77 w := fun w => by kernel_rfl
@[simp] theorem Tro.typeInfo78 : ∀ (w : Go.World), Go.Sem.run Go.Proofs.Tro.prog (Go.typeInfo 78) w = Go.Result.ok Go.Proofs.Try.t78 w := fun w => by kernel_rfl
@[simp] theorem Tro.typeInfo79 : ∀ (w : Go.World), Go.Sem.run Go.Proofs.Tro.prog (Go.typeInfo 79) w = Go.Result.ok Go.Proofs.Try.t79 w := fun w => by kernel_rfl
@[simp] theorem Tro.typeInfo80 : ∀ (w : Go.World), Go.Sem.run Go.Proofs.Tro.prog (Go.typeInfo 80) w = Go.Result.ok Go.Proofs.Try.t80 w := fun w => by kernel_rfl
@[simp] theorem Tro.typeInfo81 : ∀ (w : Go.World), Go.Sem.run Go.Proofs.Tro.prog (Go.typeInfo 81) w = Go.Result.ok Go.Proofs.Try.t81 w := fun w => by kernel_rfl
@[simp] theorem Tro.typeInfo82 : ∀ (w : Go.World), Go.Sem.run Go.Proofs.Tro.prog (Go.typeInfo 82) w = Go.Result.ok Go.Proofs.Try.t82 w := fun w => by kernel_rfl
@[simp] theorem Tro.typeInfo83 : ∀ (w : Go.World), Go.Sem.run Go.Proofs.Tro.prog (Go.typeInfo 83) w = Go.Result.ok Go.Proofs.Try.t83 w := fun w => by kernel_rfl
@[simp] theorem Tro.typeInfo84 : ∀ (w : Go.World), Go.Sem.run Go.Proofs.Tro.prog (Go.typeInfo 84) w = Go.Result.ok Go.Proofs.Try.t84 w := fun w => by kernel_rfl
@[simp] theorem Tro.typeInfo85 : ∀ (w : Go.World), Go.Sem.run Go.Proofs.Tro.prog (Go.typeInfo 85) w = Go.Result.ok Go.Proofs.Try.t85 w := fun w => by kernel_rfl
@[simp] theorem Tro.typeInfo86 : ∀ (w : Go.World), Go.Sem.run Go.Proofs.Tro.prog (Go.typeInfo 86) w = Go.Result.ok Go.Proofs.Try.t86 w := fun w => by kernel_rfl
@[simp] theorem Tro.typeInfo87 : ∀ (w : Go.World), Go.Sem.run Go.Proofs.Tro.prog (Go.typeInfo 87) w = Go.Result.ok Go.Proofs.Try.t87 w := fun w => by kernel_rfl
@[simp] theorem Tro.typeInfo88 : ∀ (w : Go.World), Go.Sem.run Go.Proofs.Tro.prog (Go.typeInfo 88) w = Go.Result.ok Go.Proofs.Try.t88 w := fun w => by kernel_rfl
@[simp] theorem Tro.typeInfo89 : ∀ (w : Go.World), Go.Sem.run Go.Proofs.Tro.prog (Go.typeInfo 89) w = Go.Result.ok Go.Proofs.Try.t89 w := fun w => by kernel_rfl
@[simp] theorem Tro.typeInfo90 : ∀ (w : Go.World), Go.Sem.run Go.Proofs.Tro.prog (Go.typeInfo 90) w = Go.Result.ok Go.Proofs.Try.t90 w := fun w => by kernel_rfl
@[simp] theorem Tro.typeInfo91 : ∀ (w : Go.World), Go.Sem.run Go.Proofs.Tro.prog (Go.typeInfo 91) w = Go.Result.ok Go.Proofs.Try.t91 w := fun w => by kernel_rfl
@[simp] theorem Tro.typeInfo92 : ∀ (w : Go.World), Go.Sem.run Go.Proofs.Tro.prog (Go.typeInfo 92) w = Go.Result.ok Go.Proofs.Try.t92 w := fun w => by kernel_rfl
@[simp] theorem Tro.typeInfo93 : ∀ (w : Go.World), Go.Sem.run Go.Proofs.Tro.prog (Go.typeInfo 93) w = Go.Result.ok Go.Proofs.Try.t93 w := fun w => by kernel_rfl
@[simp] theorem Tro.typeInfo94 : ∀ (w : Go.World), Go.Sem.run Go.Proofs.Tro.prog (Go.typeInfo 94) w = Go.Result.ok Go.Proofs.Try.t94 w := fun w => by kernel_rfl
@[simp] theorem Tro.typeInfo95 : ∀ (w : Go.World), Go.Sem.run Go.Proofs.Tro.prog (Go.typeInfo 95) w = Go.Result.ok Go.Proofs.Try.t95 w := fun w => by kernel_rfl
@[simp] theorem Tro.typeInfo96 : ∀ (w : Go.World), Go.Sem.run Go.Proofs.Tro.prog (Go.typeInfo 96) w = Go.Result.ok Go.Proofs.Try.t96 w := fun w => by kernel_rfl
@[simp] theorem Tro.typeInfo97 : ∀ (w : Go.World), Go.Sem.run Go.Proofs.Tro.prog (Go.typeInfo 97) w = Go.Result.ok Go.Proofs.Try.t97 w := fun w => by kernel_rfl
@[simp] theorem Tro.typeInfo98 : ∀ (w : Go.World), Go.Sem.run Go.Proofs.Tro.prog (Go.typeInfo 98) w = Go.Result.ok Go.Proofs.Try.t98 w := fun w => by kernel_rfl
@[simp] theorem Tro.typeInfo99 : ∀ (w : Go.World), Go.Sem.run Go.Proofs.Tro.prog (Go.typeInfo 99) w = Go.Result.ok Go.Proofs.Try.t99 w := fun w => by kernel_rfl
@[simp] theorem Tro.typeInfo100 : ∀ (w : Go.World), Go.Sem.run Go.Proofs.Tro.prog (Go.typeInfo 100) w = Go.Result.ok Go.Proofs.Try.t100 w := fun w => by kernel_rfl
@[simp] theorem Tro.typeInfo101 : ∀ (w : Go.World), Go.Sem.run Go.Proofs.Tro.prog (Go.typeInfo 101) w = Go.Result.ok Go.Proofs.Try.t101 w := fun w => by kernel_rfl
@[simp] theorem Tro.typeInfo102 : ∀ (w : Go.World), Go.Sem.run Go.Proofs.Tro.prog (Go.typeInfo 102) w = Go.Result.ok Go.Proofs.Try.t102 w := fun w => by kernel_rfl
@[simp] theorem Tro.typeInfo103 : ∀ (w : Go.World), Go.Sem.run Go.Proofs.Tro.prog (Go.typeInfo 103) w = Go.Result.ok Go.Proofs.Try.t103 w := fun w => by kernel_rfl
@[simp] theorem Tro.typeInfo104 : ∀ (w : Go.World), Go.Sem.run Go.Proofs.Tro.prog (Go.typeInfo 104) w = Go.Result.ok Go.Proofs.Try.t104 w := fun w => by kernel_rfl
@[simp] theorem Tro.typeInfo105 : ∀ (w : Go.World), Go.Sem.run Go.Proofs.Tro.prog (Go.typeInfo 105) w = Go.Result.ok Go.Proofs.Try.t105 w := fun w => by kernel_rfl
@[simp] theorem Tro.typeInfo106 : ∀ (w : Go.World), Go.Sem.run Go.Proofs.Tro.prog (Go.typeInfo 106) w = Go.Result.ok Go.Proofs.Try.t106 w := fun w => by kernel_rfl
@[simp] theorem Tro.typeInfo107 : ∀ (w : Go.World), Go.Sem.run Go.Proofs.Tro.prog (Go.typeInfo 107) w = Go.Result.ok Go.Proofs.Try.t107 w := fun w => by kernel_rfl
@[simp] theorem Tro.typeInfo108 : ∀ (w : Go.World), Go.Sem.run Go.Proofs.Tro.prog (Go.typeInfo 108) w = Go.Result.ok Go.Proofs.Try.t108 w := fun w => by kernel_rfl
@[simp] theorem Tro.typeInfo109 : ∀ (w : Go.World), Go.Sem.run Go.Proofs.Tro.prog (Go.typeInfo 109) w = Go.Result.ok Go.Proofs.Try.t109 w := fun w => by kernel_rfl
@[simp] theorem Tro.types_size : Go.Proofs.Tro.prog.types.size = 110 := by kernel_rfl
@[simp] theorem Tro.underlying0 : Go.Proofs.Tro.prog.underlying 0 = Option.some (Go.TypeDesc.tuple #[]) := by kernel_rfl
@[simp] theorem Tro.underlying1 : Go.Proofs.Tro.prog.underlying 1 = Option.some (Go.TypeDesc.func #[] #[] Bool.false) := by kernel_rfl
@[simp] theorem Tro.underlying2 : Go.Proofs.Tro.prog.underlying 2 = Option.some (Go.TypeDesc.int Go.IntKind.i64) := by kernel_rfl
@[simp] theorem Tro.underlying3 : Go.Proofs.Tro.prog.underlying 3 = Option.some (Go.TypeDesc.int Go.IntKind.i64) := by kernel_rfl
@[simp] theorem Tro.underlying4 : Go.Proofs.Tro.prog.underlying 4 = Option.some Go.TypeDesc.bool := by kernel_rfl
@[simp] theorem Tro.underlying5 : Go.Proofs.Tro.prog.underlying 5 = Option.some (Go.TypeDesc.int Go.IntKind.u8) := by kernel_rfl
@[simp] theorem Tro.underlying6 : Go.Proofs.Tro.prog.underlying 6 = Option.some (Go.TypeDesc.int Go.IntKind.u8) := by kernel_rfl
@[simp] theorem Tro.underlying7 : Go.Proofs.Tro.prog.underlying 7 = Option.some (Go.TypeDesc.struct #[Go.Field.mk "x" 2 0 Bool.false "" "runtime" 0, Go.Field.mk "y" 3 1 Bool.false "" "runtime" 8, Go.Field.mk "signed" 4 2 Bool.false "" "runtime" 16, Go.Field.mk "code" 6 3 Bool.false "" "runtime" 17]) := by kernel_rfl
@[simp] theorem Tro.underlying8 : Go.Proofs.Tro.prog.underlying 8 = Option.some (Go.TypeDesc.struct #[Go.Field.mk "x" 2 0 Bool.false "" "runtime" 0, Go.Field.mk "y" 3 1 Bool.false "" "runtime" 8, Go.Field.mk "signed" 4 2 Bool.false "" "runtime" 16, Go.Field.mk "code" 6 3 Bool.false "" "runtime" 17]) := by kernel_rfl
@[simp] theorem Tro.underlying9 : Go.Proofs.Tro.prog.underlying 9 = Option.some Go.TypeDesc.string := by kernel_rfl
@[simp] theorem Tro.underlying10 : Go.Proofs.Tro.prog.underlying 10 = Option.some Go.TypeDesc.string := by kernel_rfl
@[simp] theorem Tro.underlying11 : Go.Proofs.Tro.prog.underlying 11 = Option.some Go.TypeDesc.string := by kernel_rfl
@[simp] theorem Tro.underlying12 : Go.Proofs.Tro.prog.underlying 12 = Option.some (Go.TypeDesc.int Go.IntKind.u64) := by kernel_rfl
@[simp] theorem Tro.underlying13 : Go.Proofs.Tro.prog.underlying 13 = Option.some (Go.TypeDesc.struct #[Go.Field.mk "msg" 9 0 Bool.false "" "runtime" 0, Go.Field.mk "addr" 12 1 Bool.false "" "runtime" 16]) := by kernel_rfl
@[simp] theorem Tro.underlying14 : Go.Proofs.Tro.prog.underlying 14 = Option.some (Go.TypeDesc.struct #[Go.Field.mk "msg" 9 0 Bool.false "" "runtime" 0, Go.Field.mk "addr" 12 1 Bool.false "" "runtime" 16]) := by kernel_rfl
@[simp] theorem Tro.underlying15 : Go.Proofs.Tro.prog.underlying 15 = Option.some (Go.TypeDesc.pointer 97) := by kernel_rfl
@[simp] theorem Tro.underlying16 : Go.Proofs.Tro.prog.underlying 16 = Option.some (Go.TypeDesc.pointer 100) := by kernel_rfl
@[simp] theorem Tro.underlying17 : Go.Proofs.Tro.prog.underlying 17 = Option.some (Go.TypeDesc.pointer 108) := by kernel_rfl
@[simp] theorem Tro.underlying18 : Go.Proofs.Tro.prog.underlying 18 = Option.some (Go.TypeDesc.struct #[Go.Field.mk "typ" 17 0 Bool.false "" "internal/runtime/maps" 0]) := by kernel_rfl
@[simp] theorem Tro.underlying19 : Go.Proofs.Tro.prog.underlying 19 = Option.some (Go.TypeDesc.struct #[Go.Field.mk "typ" 17 0 Bool.false "" "internal/runtime/maps" 0]) := by kernel_rfl
@[simp] theorem Tro.underlying20 : Go.Proofs.Tro.prog.underlying 20 = Option.some (Go.TypeDesc.interface #[]) := by kernel_rfl
@[simp] theorem Tro.underlying21 : Go.Proofs.Tro.prog.underlying 21 = Option.some (Go.TypeDesc.int Go.IntKind.i32) := by kernel_rfl
@[simp] theorem Tro.underlying22 : Go.Proofs.Tro.prog.underlying 22 = Option.some (Go.TypeDesc.slice 5) := by kernel_rfl
@[simp] theorem Tro.underlying23 : Go.Proofs.Tro.prog.underlying 23 = Option.some (Go.TypeDesc.tuple #[3, 3, 3]) := by kernel_rfl
@[simp] theorem Tro.underlying24 : Go.Proofs.Tro.prog.underlying 24 = Option.some (Go.TypeDesc.func #[22] #[3, 3, 3] Bool.false) := by kernel_rfl
@[simp] theorem Tro.underlying25 : Go.Proofs.Tro.prog.underlying 25 = Option.some (Go.TypeDesc.slice 3) := by kernel_rfl
@[simp] theorem Tro.underlying26 : Go.Proofs.Tro.prog.underlying 26 = Option.some (Go.TypeDesc.tuple #[3, 25]) := by kernel_rfl
@[simp] theorem Tro.underlying27 : Go.Proofs.Tro.prog.underlying 27 = Option.some (Go.TypeDesc.func #[3, 3, 3] #[3, 25] Bool.false) := by kernel_rfl
@[simp] theorem Tro.underlying28 : Go.Proofs.Tro.prog.underlying 28 = Option.some (Go.TypeDesc.func #[25, 25] #[4] Bool.false) := by kernel_rfl
@[simp] theorem Tro.underlying29 : Go.Proofs.Tro.prog.underlying 29 = Option.some (Go.TypeDesc.func #[3, 3] #[25] Bool.false) := by kernel_rfl
@[simp] theorem Tro.underlying30 : Go.Proofs.Tro.prog.underlying 30 = Option.some (Go.TypeDesc.func #[3, 3, 3] #[3] Bool.false) := by kernel_rfl
@[simp] theorem Tro.underlying31 : Go.Proofs.Tro.prog.underlying 31 = Option.some (Go.TypeDesc.func #[3, 25, 25, 3, 3] #[3] Bool.false) := by kernel_rfl
@[simp] theorem Tro.underlying32 : Go.Proofs.Tro.prog.underlying 32 = Option.some (Go.TypeDesc.func #[22] #[4] Bool.false) := by kernel_rfl
@[simp] theorem Tro.underlying33 : Go.Proofs.Tro.prog.underlying 33 = Option.some (Go.TypeDesc.tuple #[3, 3]) := by kernel_rfl
@[simp] theorem Tro.underlying34 : Go.Proofs.Tro.prog.underlying 34 = Option.some (Go.TypeDesc.func #[22] #[3, 3] Bool.false) := by kernel_rfl
@[simp] theorem Tro.underlying35 : Go.Proofs.Tro.prog.underlying 35 = Option.some (Go.TypeDesc.func #[3, 3] #[4] Bool.false) := by kernel_rfl
@[simp] theorem Tro.underlying36 : Go.Proofs.Tro.prog.underlying 36 = Option.some (Go.TypeDesc.func #[25, 3] #[4] Bool.false) := by kernel_rfl
@[simp] theorem Tro.underlying37 : Go.Proofs.Tro.prog.underlying 37 = Option.some (Go.TypeDesc.func #[25] #[4] Bool.false) := by kernel_rfl
@[simp] theorem Tro.underlying38 : Go.Proofs.Tro.prog.underlying 38 = Option.some (Go.TypeDesc.func #[3, 3, 3] #[25] Bool.false) := by kernel_rfl
@[simp] theorem Tro.underlying39 : Go.Proofs.Tro.prog.underlying 39 = Option.some (Go.TypeDesc.func #[3, 3] #[3, 3] Bool.false) := by kernel_rfl
@[simp] theorem Tro.underlying40 : Go.Proofs.Tro.prog.underlying 40 = Option.some (Go.TypeDesc.func #[3] #[3] Bool.false) := by kernel_rfl
@[simp] theorem Tro.underlying41 : Go.Proofs.Tro.prog.underlying 41 = Option.some (Go.TypeDesc.func #[25, 3] #[3] Bool.false) := by kernel_rfl
@[simp] theorem Tro.underlying42 : Go.Proofs.Tro.prog.underlying 42 = Option.some (Go.TypeDesc.func #[3, 3, 3] #[4] Bool.false) := by kernel_rfl
@[simp] theorem Tro.underlying43 : Go.Proofs.Tro.prog.underlying 43 = Option.some (Go.TypeDesc.func #[44] #[3, 3, 3] Bool.false) := by kernel_rfl
@[simp] theorem Tro.underlying44 : Go.Proofs.Tro.prog.underlying 44 = Option.some (Go.TypeDesc.pointer 62) := by kernel_rfl
@[simp] theorem Tro.underlying45 : Go.Proofs.Tro.prog.underlying 45 = Option.some (Go.TypeDesc.func #[22] #[44] Bool.false) := by kernel_rfl
@[simp] theorem Tro.underlying46 : Go.Proofs.Tro.prog.underlying 46 = Option.some (Go.TypeDesc.struct #[Go.Field.mk "size" 3 0 Bool.false "" "loop.example/tonesincircles/impl" 0, Go.Field.mk "tones" 3 1 Bool.false "" "loop.example/tonesincircles/impl" 8]) := by kernel_rfl
@[simp] theorem Tro.underlying47 : Go.Proofs.Tro.prog.underlying 47 = Option.some (Go.TypeDesc.struct #[Go.Field.mk "size" 3 0 Bool.false "" "loop.example/tonesincircles/impl" 0, Go.Field.mk "tones" 3 1 Bool.false "" "loop.example/tonesincircles/impl" 8]) := by kernel_rfl
@[simp] theorem Tro.underlying48 : Go.Proofs.Tro.prog.underlying 48 = Option.some (Go.TypeDesc.struct #[Go.Field.mk "number" 3 0 Bool.false "" "loop.example/tonesincircles/impl" 0, Go.Field.mk "far" 3 1 Bool.false "" "loop.example/tonesincircles/impl" 8]) := by kernel_rfl
@[simp] theorem Tro.underlying49 : Go.Proofs.Tro.prog.underlying 49 = Option.some (Go.TypeDesc.struct #[Go.Field.mk "number" 3 0 Bool.false "" "loop.example/tonesincircles/impl" 0, Go.Field.mk "far" 3 1 Bool.false "" "loop.example/tonesincircles/impl" 8]) := by kernel_rfl
@[simp] theorem Tro.underlying50 : Go.Proofs.Tro.prog.underlying 50 = Option.some (Go.TypeDesc.func #[47] #[49] Bool.false) := by kernel_rfl
@[simp] theorem Tro.underlying51 : Go.Proofs.Tro.prog.underlying 51 = Option.some (Go.TypeDesc.func #[3] #[25] Bool.false) := by kernel_rfl
@[simp] theorem Tro.underlying52 : Go.Proofs.Tro.prog.underlying 52 = Option.some (Go.TypeDesc.func #[3, 3, 3] #[3, 3] Bool.false) := by kernel_rfl
@[simp] theorem Tro.underlying53 : Go.Proofs.Tro.prog.underlying 53 = Option.some (Go.TypeDesc.func #[] #[25] Bool.false) := by kernel_rfl
@[simp] theorem Tro.underlying54 : Go.Proofs.Tro.prog.underlying 54 = Option.some (Go.TypeDesc.func #[3, 3] #[3] Bool.false) := by kernel_rfl
@[simp] theorem Tro.underlying55 : Go.Proofs.Tro.prog.underlying 55 = Option.some (Go.TypeDesc.func #[44] #[3, 3] Bool.false) := by kernel_rfl
@[simp] theorem Tro.underlying56 : Go.Proofs.Tro.prog.underlying 56 = Option.some (Go.TypeDesc.func #[3] #[4] Bool.false) := by kernel_rfl
@[simp] theorem Tro.underlying57 : Go.Proofs.Tro.prog.underlying 57 = Option.some (Go.TypeDesc.slice 49) := by kernel_rfl
@[simp] theorem Tro.underlying58 : Go.Proofs.Tro.prog.underlying 58 = Option.some (Go.TypeDesc.func #[3] #[47] Bool.false) := by kernel_rfl
@[simp] theorem Tro.underlying59 : Go.Proofs.Tro.prog.underlying 59 = Option.some (Go.TypeDesc.func #[49, 57] #[49] Bool.true) := by kernel_rfl
@[simp] theorem Tro.underlying60 : Go.Proofs.Tro.prog.underlying 60 = Option.some (Go.TypeDesc.func #[44, 3] #[3] Bool.false) := by kernel_rfl
@[simp] theorem Tro.underlying61 : Go.Proofs.Tro.prog.underlying 61 = Option.some (Go.TypeDesc.struct #[Go.Field.mk "b" 22 0 Bool.false "" "loop.example/tonesincircles/spec" 0, Go.Field.mk "p" 3 1 Bool.false "" "loop.example/tonesincircles/spec" 24]) := by kernel_rfl
@[simp] theorem Tro.underlying62 : Go.Proofs.Tro.prog.underlying 62 = Option.some (Go.TypeDesc.struct #[Go.Field.mk "b" 22 0 Bool.false "" "loop.example/tonesincircles/spec" 0, Go.Field.mk "p" 3 1 Bool.false "" "loop.example/tonesincircles/spec" 24]) := by kernel_rfl
@[simp] theorem Tro.underlying63 : Go.Proofs.Tro.prog.underlying 63 = Option.some (Go.TypeDesc.func #[] #[3] Bool.false) := by kernel_rfl
@[simp] theorem Tro.underlying64 : Go.Proofs.Tro.prog.underlying 64 = Option.some (Go.TypeDesc.chan Go.ChanDir.recv 49) := by kernel_rfl
@[simp] theorem Tro.underlying65 : Go.Proofs.Tro.prog.underlying 65 = Option.some (Go.TypeDesc.func #[47] #[64] Bool.false) := by kernel_rfl
@[simp] theorem Tro.underlying66 : Go.Proofs.Tro.prog.underlying 66 = Option.some (Go.TypeDesc.func #[25, 25] #[25] Bool.false) := by kernel_rfl
@[simp] theorem Tro.underlying67 : Go.Proofs.Tro.prog.underlying 67 = Option.some (Go.TypeDesc.func #[44] #[3] Bool.false) := by kernel_rfl
@[simp] theorem Tro.underlying68 : Go.Proofs.Tro.prog.underlying 68 = Option.some (Go.TypeDesc.func #[25] #[] Bool.false) := by kernel_rfl
@[simp] theorem Tro.underlying69 : Go.Proofs.Tro.prog.underlying 69 = Option.some (Go.TypeDesc.func #[3, 3] #[47] Bool.false) := by kernel_rfl
@[simp] theorem Tro.underlying70 : Go.Proofs.Tro.prog.underlying 70 = Option.some (Go.TypeDesc.func #[25] #[3] Bool.false) := by kernel_rfl
@[simp] theorem Tro.underlying71 : Go.Proofs.Tro.prog.underlying 71 = Option.some (Go.TypeDesc.func #[72] #[3] Bool.false) := by kernel_rfl
@[simp] theorem Tro.underlying72 : Go.Proofs.Tro.prog.underlying 72 = Option.some (Go.TypeDesc.int Go.IntKind.u64) := by kernel_rfl
@[simp] theorem Tro.underlying73 : Go.Proofs.Tro.prog.underlying 73 = Option.some (Go.TypeDesc.chan Go.ChanDir.both 49) := by kernel_rfl
@[simp] theorem Tro.underlying74 : Go.Proofs.Tro.prog.underlying 74 = Option.some (Go.TypeDesc.func #[25, 3, 3, 3] #[] Bool.false) := by kernel_rfl
@[simp] theorem Tro.underlying75 : Go.Proofs.Tro.prog.underlying 75 = Option.some (Go.TypeDesc.func #[76] #[3] Bool.false) := by kernel_rfl
@[simp] theorem Tro.underlying76 : Go.Proofs.Tro.prog.underlying 76 = Option.some (Go.TypeDesc.int Go.IntKind.u32) := by kernel_rfl
@[simp] theorem Tro.underlying77 : Go.Proofs.Tro.prog.underlying 77 = Option.some (Go.TypeDesc.func #[78] #[3] Bool.false) := by kernel_rfl
@[simp] theorem Tro.underlying78 : Go.Proofs.Tro.prog.underlying 78 = Option.some (Go.TypeDesc.int Go.IntKind.u64) := by kernel_rfl
@[simp] theorem Tro.underlying79 : Go.Proofs.Tro.prog.underlying 79 = Option.some (Go.TypeDesc.func #[25, 3, 3] #[] Bool.false) := by kernel_rfl
@[simp] theorem Tro.underlying80 : Go.Proofs.Tro.prog.underlying 80 = Option.some (Go.TypeDesc.int Go.IntKind.i64) := by kernel_rfl
@[simp] theorem Tro.underlying81 : Go.Proofs.Tro.prog.underlying 81 = Option.some (Go.TypeDesc.tuple #[3, 80]) := by kernel_rfl
@[simp] theorem Tro.underlying82 : Go.Proofs.Tro.prog.underlying 82 = Option.some (Go.TypeDesc.func #[25, 3, 3] #[3, 80] Bool.false) := by kernel_rfl
@[simp] theorem Tro.underlying83 : Go.Proofs.Tro.prog.underlying 83 = Option.some (Go.TypeDesc.func #[25, 3, 3] #[4] Bool.false) := by kernel_rfl
@[simp] theorem Tro.underlying84 : Go.Proofs.Tro.prog.underlying 84 = Option.some (Go.TypeDesc.func #[25, 3, 3, 3] #[3] Bool.false) := by kernel_rfl
@[simp] theorem Tro.underlying85 : Go.Proofs.Tro.prog.underlying 85 = Option.some (Go.TypeDesc.tuple #[3, 4]) := by kernel_rfl
@[simp] theorem Tro.underlying86 : Go.Proofs.Tro.prog.underlying 86 = Option.some (Go.TypeDesc.func #[25, 3, 3, 3] #[3, 4] Bool.false) := by kernel_rfl
@[simp] theorem Tro.underlying87 : Go.Proofs.Tro.prog.underlying 87 = Option.some (Go.TypeDesc.int Go.IntKind.u64) := by kernel_rfl
@[simp] theorem Tro.underlying88 : Go.Proofs.Tro.prog.underlying 88 = Option.some (Go.TypeDesc.func #[3] #[72] Bool.false) := by kernel_rfl
@[simp] theorem Tro.underlying89 : Go.Proofs.Tro.prog.underlying 89 = Option.some (Go.TypeDesc.func #[] #[78] Bool.false) := by kernel_rfl
@[simp] theorem Tro.underlying90 : Go.Proofs.Tro.prog.underlying 90 = Option.some (Go.TypeDesc.func #[25, 3, 91] #[3] Bool.false) := by kernel_rfl
@[simp] theorem Tro.underlying91 : Go.Proofs.Tro.prog.underlying 91 = Option.some (Go.TypeDesc.pointer 3) := by kernel_rfl
@[simp] theorem Tro.underlying92 : Go.Proofs.Tro.prog.underlying 92 = Option.some (Go.TypeDesc.func #[25, 3, 3, 3, 91] #[3] Bool.false) := by kernel_rfl
@[simp] theorem Tro.underlying93 : Go.Proofs.Tro.prog.underlying 93 = Option.some (Go.TypeDesc.pointer 87) := by kernel_rfl
@[simp] theorem Tro.underlying94 : Go.Proofs.Tro.prog.underlying 94 = Option.some (Go.TypeDesc.func #[25, 3, 3, 91] #[3, 3] Bool.false) := by kernel_rfl
@[simp] theorem Tro.underlying95 : Go.Proofs.Tro.prog.underlying 95 = Option.some (Go.TypeDesc.func #[] #[9] Bool.false) := by kernel_rfl
@[simp] theorem Tro.underlying96 : Go.Proofs.Tro.prog.underlying 96 = Option.some (Go.TypeDesc.struct #[Go.Field.mk "_interface" 17 0 Bool.false "" "runtime" 0, Go.Field.mk "concrete" 17 1 Bool.false "" "runtime" 8, Go.Field.mk "asserted" 17 2 Bool.false "" "runtime" 16, Go.Field.mk "missingMethod" 9 3 Bool.false "" "runtime" 24]) := by kernel_rfl
@[simp] theorem Tro.underlying97 : Go.Proofs.Tro.prog.underlying 97 = Option.some (Go.TypeDesc.struct #[Go.Field.mk "_interface" 17 0 Bool.false "" "runtime" 0, Go.Field.mk "concrete" 17 1 Bool.false "" "runtime" 8, Go.Field.mk "asserted" 17 2 Bool.false "" "runtime" 16, Go.Field.mk "missingMethod" 9 3 Bool.false "" "runtime" 24]) := by kernel_rfl
@[simp] theorem Tro.underlying98 : Go.Proofs.Tro.prog.underlying 98 = Option.some (Go.TypeDesc.array 0 16) := by kernel_rfl
@[simp] theorem Tro.underlying99 : Go.Proofs.Tro.prog.underlying 99 = Option.some (Go.TypeDesc.struct #[Go.Field.mk "_" 98 0 Bool.false "" "runtime" 0]) := by kernel_rfl
@[simp] theorem Tro.underlying100 : Go.Proofs.Tro.prog.underlying 100 = Option.some (Go.TypeDesc.struct #[Go.Field.mk "_" 98 0 Bool.false "" "runtime" 0]) := by kernel_rfl
@[simp] theorem Tro.underlying101 : Go.Proofs.Tro.prog.underlying 101 = Option.some (Go.TypeDesc.int Go.IntKind.u8) := by kernel_rfl
@[simp] theorem Tro.underlying102 : Go.Proofs.Tro.prog.underlying 102 = Option.some (Go.TypeDesc.int Go.IntKind.u8) := by kernel_rfl
@[simp] theorem Tro.underlying103 : Go.Proofs.Tro.prog.underlying 103 = Option.some (Go.TypeDesc.func #[109, 109] #[4] Bool.false) := by kernel_rfl
@[simp] theorem Tro.underlying104 : Go.Proofs.Tro.prog.underlying 104 = Option.some (Go.TypeDesc.pointer 5) := by kernel_rfl
@[simp] theorem Tro.underlying105 : Go.Proofs.Tro.prog.underlying 105 = Option.some (Go.TypeDesc.int Go.IntKind.i32) := by kernel_rfl
@[simp] theorem Tro.underlying106 : Go.Proofs.Tro.prog.underlying 106 = Option.some (Go.TypeDesc.int Go.IntKind.i32) := by kernel_rfl
@[simp] theorem Tro.underlying107 : Go.Proofs.Tro.prog.underlying 107 = Option.some (Go.TypeDesc.struct #[Go.Field.mk "Size_" 12 0 Bool.false "" "" 0, Go.Field.mk "PtrBytes" 12 1 Bool.false "" "" 8, Go.Field.mk "Hash" 76 2 Bool.false "" "" 16, Go.Field.mk "TFlag" 101 3 Bool.false "" "" 20, Go.Field.mk "Align_" 5 4 Bool.false "" "" 21, Go.Field.mk "FieldAlign_" 5 5 Bool.false "" "" 22, Go.Field.mk "Kind_" 102 6 Bool.false "" "" 23, Go.Field.mk "Equal" 103 7 Bool.false "" "" 24, Go.Field.mk "GCData" 104 8 Bool.false "" "" 32, Go.Field.mk "Str" 105 9 Bool.false "" "" 40, Go.Field.mk "PtrToThis" 106 10 Bool.false "" "" 44]) := by kernel_rfl
@[simp] theorem Tro.underlying108 : Go.Proofs.Tro.prog.underlying 108 = Option.some (Go.TypeDesc.struct #[Go.Field.mk "Size_" 12 0 Bool.false "" "" 0, Go.Field.mk "PtrBytes" 12 1 Bool.false "" "" 8, Go.Field.mk "Hash" 76 2 Bool.false "" "" 16, Go.Field.mk "TFlag" 101 3 Bool.false "" "" 20, Go.Field.mk "Align_" 5 4 Bool.false "" "" 21, Go.Field.mk "FieldAlign_" 5 5 Bool.false "" "" 22, Go.Field.mk "Kind_" 102 6 Bool.false "" "" 23, Go.Field.mk "Equal" 103 7 Bool.false "" "" 24, Go.Field.mk "GCData" 104 8 Bool.false "" "" 32, Go.Field.mk "Str" 105 9 Bool.false "" "" 40, Go.Field.mk "PtrToThis" 106 10 Bool.false "" "" 44]) := by kernel_rfl
@[simp] theorem Tro.underlying109 : Go.Proofs.Tro.prog.underlying 109 = Option.some Go.TypeDesc.unsafePointer := by kernel_rfl
@[simp] theorem Tro.zeroValue0 : ∀ (w : Go.World), Go.Sem.run Go.Proofs.Tro.prog (Go.zeroValue 0) w = Go.Result.ok (Go.Value.tuple #[]) w := fun w => by kernel_rfl
@[simp] theorem Tro.zeroValue1 : ∀ (w : Go.World), Go.Sem.run Go.Proofs.Tro.prog (Go.zeroValue 1) w = Go.Result.ok Go.Value.nilFunc w := fun w => by kernel_rfl
@[simp] theorem Tro.zeroValue2 : ∀ (w : Go.World), Go.Sem.run Go.Proofs.Tro.prog (Go.zeroValue 2) w = Go.Result.ok (Go.Value.int Go.IntKind.i64 0) w := fun w => by kernel_rfl
@[simp] theorem Tro.zeroValue3 : ∀ (w : Go.World), Go.Sem.run Go.Proofs.Tro.prog (Go.zeroValue 3) w = Go.Result.ok (Go.Value.int Go.IntKind.i64 0) w := fun w => by kernel_rfl
@[simp] theorem Tro.zeroValue4 : ∀ (w : Go.World), Go.Sem.run Go.Proofs.Tro.prog (Go.zeroValue 4) w = Go.Result.ok (Go.Value.bool Bool.false) w := fun w => by kernel_rfl
@[simp] theorem Tro.zeroValue5 : ∀ (w : Go.World), Go.Sem.run Go.Proofs.Tro.prog (Go.zeroValue 5) w = Go.Result.ok (Go.Value.int Go.IntKind.u8 0) w := fun w => by kernel_rfl
@[simp] theorem Tro.zeroValue6 : ∀ (w : Go.World), Go.Sem.run Go.Proofs.Tro.prog (Go.zeroValue 6) w = Go.Result.ok (Go.Value.int Go.IntKind.u8 0) w := fun w => by kernel_rfl
@[simp] theorem Tro.zeroValue7 : ∀ (w : Go.World), Go.Sem.run Go.Proofs.Tro.prog (Go.zeroValue 7) w = Go.Result.ok (Go.Value.agg #[Go.Value.int Go.IntKind.i64 0, Go.Value.int Go.IntKind.i64 0, Go.Value.bool Bool.false, Go.Value.int Go.IntKind.u8 0]) w := fun w => by kernel_rfl
@[simp] theorem Tro.zeroValue8 : ∀ (w : Go.World), Go.Sem.run Go.Proofs.Tro.prog (Go.zeroValue 8) w = Go.Result.ok (Go.Value.agg #[Go.Value.int Go.IntKind.i64 0, Go.Value.int Go.IntKind.i64 0, Go.Value.bool Bool.false, Go.Value.int Go.IntKind.u8 0]) w := fun w => by kernel_rfl
@[simp] theorem Tro.zeroValue9 : ∀ (w : Go.World), Go.Sem.run Go.Proofs.Tro.prog (Go.zeroValue 9) w = Go.Result.ok (Go.Value.string (ByteArray.mk #[])) w := fun w => by kernel_rfl
@[simp] theorem Tro.zeroValue10 : ∀ (w : Go.World), Go.Sem.run Go.Proofs.Tro.prog (Go.zeroValue 10) w = Go.Result.ok (Go.Value.string (ByteArray.mk #[])) w := fun w => by kernel_rfl
@[simp] theorem Tro.zeroValue11 : ∀ (w : Go.World), Go.Sem.run Go.Proofs.Tro.prog (Go.zeroValue 11) w = Go.Result.ok (Go.Value.string (ByteArray.mk #[])) w := fun w => by kernel_rfl
@[simp] theorem Tro.zeroValue12 : ∀ (w : Go.World), Go.Sem.run Go.Proofs.Tro.prog (Go.zeroValue 12) w = Go.Result.ok (Go.Value.int Go.IntKind.u64 0) w := fun w => by kernel_rfl
@[simp] theorem Tro.zeroValue13 : ∀ (w : Go.World), Go.Sem.run Go.Proofs.Tro.prog (Go.zeroValue 13) w = Go.Result.ok (Go.Value.agg #[Go.Value.string (ByteArray.mk #[]), Go.Value.int Go.IntKind.u64 0]) w := fun w => by kernel_rfl
@[simp] theorem Tro.zeroValue14 : ∀ (w : Go.World), Go.Sem.run Go.Proofs.Tro.prog (Go.zeroValue 14) w = Go.Result.ok (Go.Value.agg #[Go.Value.string (ByteArray.mk #[]), Go.Value.int Go.IntKind.u64 0]) w := fun w => by kernel_rfl
@[simp] theorem Tro.zeroValue15 : ∀ (w : Go.World), Go.Sem.run Go.Proofs.Tro.prog (Go.zeroValue 15) w = Go.Result.ok (Go.Value.pointer Option.none) w := fun w => by kernel_rfl
@[simp] theorem Tro.zeroValue16 : ∀ (w : Go.World), Go.Sem.run Go.Proofs.Tro.prog (Go.zeroValue 16) w = Go.Result.ok (Go.Value.pointer Option.none) w := fun w => by kernel_rfl
@[simp] theorem Tro.zeroValue17 : ∀ (w : Go.World), Go.Sem.run Go.Proofs.Tro.prog (Go.zeroValue 17) w = Go.Result.ok (Go.Value.pointer Option.none) w := fun w => by kernel_rfl
@[simp] theorem Tro.zeroValue18 : ∀ (w : Go.World), Go.Sem.run Go.Proofs.Tro.prog (Go.zeroValue 18) w = Go.Result.ok (Go.Value.agg #[Go.Value.pointer Option.none]) w := fun w => by kernel_rfl
@[simp] theorem Tro.zeroValue19 : ∀ (w : Go.World), Go.Sem.run Go.Proofs.Tro.prog (Go.zeroValue 19) w = Go.Result.ok (Go.Value.agg #[Go.Value.pointer Option.none]) w := fun w => by kernel_rfl
@[simp] theorem Tro.zeroValue20 : ∀ (w : Go.World), Go.Sem.run Go.Proofs.Tro.prog (Go.zeroValue 20) w = Go.Result.ok Go.Value.nilIface w := fun w => by kernel_rfl
@[simp] theorem Tro.zeroValue21 : ∀ (w : Go.World), Go.Sem.run Go.Proofs.Tro.prog (Go.zeroValue 21) w = Go.Result.ok (Go.Value.int Go.IntKind.i32 0) w := fun w => by kernel_rfl
@[simp] theorem Tro.zeroValue22 : ∀ (w : Go.World), Go.Sem.run Go.Proofs.Tro.prog (Go.zeroValue 22) w = Go.Result.ok (Go.Value.slice Option.none 0 0) w := fun w => by kernel_rfl
@[simp] theorem Tro.zeroValue23 : ∀ (w : Go.World), Go.Sem.run Go.Proofs.Tro.prog (Go.zeroValue 23) w = Go.Result.ok (Go.Value.tuple #[Go.Value.int Go.IntKind.i64 0, Go.Value.int Go.IntKind.i64 0, Go.Value.int Go.IntKind.i64 0]) w := fun w => by kernel_rfl
@[simp] theorem Tro.zeroValue24 : ∀ (w : Go.World), Go.Sem.run Go.Proofs.Tro.prog (Go.zeroValue 24) w = Go.Result.ok Go.Value.nilFunc w := fun w => by kernel_rfl
@[simp] theorem Tro.zeroValue25 : ∀ (w : Go.World), Go.Sem.run Go.Proofs.Tro.prog (Go.zeroValue 25) w = Go.Result.ok (Go.Value.slice Option.none 0 0) w := fun w => by kernel_rfl
@[simp] theorem Tro.zeroValue26 : ∀ (w : Go.World), Go.Sem.run Go.Proofs.Tro.prog (Go.zeroValue 26) w = Go.Result.ok (Go.Value.tuple #[Go.Value.int Go.IntKind.i64 0, Go.Value.slice Option.none 0 0]) w := fun w => by kernel_rfl
@[simp] theorem Tro.zeroValue27 : ∀ (w : Go.World), Go.Sem.run Go.Proofs.Tro.prog (Go.zeroValue 27) w = Go.Result.ok Go.Value.nilFunc w := fun w => by kernel_rfl
@[simp] theorem Tro.zeroValue28 : ∀ (w : Go.World), Go.Sem.run Go.Proofs.Tro.prog (Go.zeroValue 28) w = Go.Result.ok Go.Value.nilFunc w := fun w => by kernel_rfl
@[simp] theorem Tro.zeroValue29 : ∀ (w : Go.World), Go.Sem.run Go.Proofs.Tro.prog (Go.zeroValue 29) w = Go.Result.ok Go.Value.nilFunc w := fun w => by kernel_rfl
@[simp] theorem Tro.zeroValue30 : ∀ (w : Go.World), Go.Sem.run Go.Proofs.Tro.prog (Go.zeroValue 30) w = Go.Result.ok Go.Value.nilFunc w := fun w => by kernel_rfl
@[simp] theorem Tro.zeroValue31 : ∀ (w : Go.World), Go.Sem.run Go.Proofs.Tro.prog (Go.zeroValue 31) w = Go.Result.ok Go.Value.nilFunc w := fun w => by kernel_rfl
@[simp] theorem Tro.zeroValue32 : ∀ (w : Go.World), Go.Sem.run Go.Proofs.Tro.prog (Go.zeroValue 32) w = Go.Result.ok Go.Value.nilFunc w := fun w => by kernel_rfl
@[simp] theorem Tro.zeroValue33 : ∀ (w : Go.World), Go.Sem.run Go.Proofs.Tro.prog (Go.zeroValue 33) w = Go.Result.ok (Go.Value.tuple #[Go.Value.int Go.IntKind.i64 0, Go.Value.int Go.IntKind.i64 0]) w := fun w => by kernel_rfl
@[simp] theorem Tro.zeroValue34 : ∀ (w : Go.World), Go.Sem.run Go.Proofs.Tro.prog (Go.zeroValue 34) w = Go.Result.ok Go.Value.nilFunc w := fun w => by kernel_rfl
@[simp] theorem Tro.zeroValue35 : ∀ (w : Go.World), Go.Sem.run Go.Proofs.Tro.prog (Go.zeroValue 35) w = Go.Result.ok Go.Value.nilFunc w := fun w => by kernel_rfl
@[simp] theorem Tro.zeroValue36 : ∀ (w : Go.World), Go.Sem.run Go.Proofs.Tro.prog (Go.zeroValue 36) w = Go.Result.ok Go.Value.nilFunc w := fun w => by kernel_rfl
@[simp] theorem Tro.zeroValue37 : ∀ (w : Go.World), Go.Sem.run Go.Proofs.Tro.prog (Go.zeroValue 37) w = Go.Result.ok Go.Value.nilFunc w := fun w => by kernel_rfl
@[simp] theorem Tro.zeroValue38 : ∀ (w : Go.World), Go.Sem.run Go.Proofs.Tro.prog (Go.zeroValue 38) w = Go.Result.ok Go.Value.nilFunc w := fun w => by kernel_rfl
@[simp] theorem Tro.zeroValue39 : ∀ (w : Go.World), Go.Sem.run Go.Proofs.Tro.prog (Go.zeroValue 39) w = Go.Result.ok Go.Value.nilFunc w := fun w => by kernel_rfl
@[simp] theorem Tro.zeroValue40 : ∀ (w : Go.World), Go.Sem.run Go.Proofs.Tro.prog (Go.zeroValue 40) w = Go.Result.ok Go.Value.nilFunc w := fun w => by kernel_rfl
@[simp] theorem Tro.zeroValue41 : ∀ (w : Go.World), Go.Sem.run Go.Proofs.Tro.prog (Go.zeroValue 41) w = Go.Result.ok Go.Value.nilFunc w := fun w => by kernel_rfl
@[simp] theorem Tro.zeroValue42 : ∀ (w : Go.World), Go.Sem.run Go.Proofs.Tro.prog (Go.zeroValue 42) w = Go.Result.ok Go.Value.nilFunc w := fun w => by kernel_rfl
@[simp] theorem Tro.zeroValue43 : ∀ (w : Go.World), Go.Sem.run Go.Proofs.Tro.prog (Go.zeroValue 43) w = Go.Result.ok Go.Value.nilFunc w := fun w => by kernel_rfl
@[simp] theorem Tro.zeroValue44 : ∀ (w : Go.World), Go.Sem.run Go.Proofs.Tro.prog (Go.zeroValue 44) w = Go.Result.ok (Go.Value.pointer Option.none) w := fun w => by kernel_rfl
@[simp] theorem Tro.zeroValue45 : ∀ (w : Go.World), Go.Sem.run Go.Proofs.Tro.prog (Go.zeroValue 45) w = Go.Result.ok Go.Value.nilFunc w := fun w => by kernel_rfl
@[simp] theorem Tro.zeroValue46 : ∀ (w : Go.World), Go.Sem.run Go.Proofs.Tro.prog (Go.zeroValue 46) w = Go.Result.ok (Go.Value.agg #[Go.Value.int Go.IntKind.i64 0, Go.Value.int Go.IntKind.i64 0]) w := fun w => by kernel_rfl
@[simp] theorem Tro.zeroValue47 : ∀ (w : Go.World), Go.Sem.run Go.Proofs.Tro.prog (Go.zeroValue 47) w = Go.Result.ok (Go.Value.agg #[Go.Value.int Go.IntKind.i64 0, Go.Value.int Go.IntKind.i64 0]) w := fun w => by kernel_rfl
@[simp] theorem Tro.zeroValue48 : ∀ (w : Go.World), Go.Sem.run Go.Proofs.Tro.prog (Go.zeroValue 48) w = Go.Result.ok (Go.Value.agg #[Go.Value.int Go.IntKind.i64 0, Go.Value.int Go.IntKind.i64 0]) w := fun w => by kernel_rfl
@[simp] theorem Tro.zeroValue49 : ∀ (w : Go.World), Go.Sem.run Go.Proofs.Tro.prog (Go.zeroValue 49) w = Go.Result.ok (Go.Value.agg #[Go.Value.int Go.IntKind.i64 0, Go.Value.int Go.IntKind.i64 0]) w := fun w => by kernel_rfl
@[simp] theorem Tro.zeroValue50 : ∀ (w : Go.World), Go.Sem.run Go.Proofs.Tro.prog (Go.zeroValue 50) w = Go.Result.ok Go.Value.nilFunc w := fun w => by kernel_rfl
@[simp] theorem Tro.zeroValue51 : ∀ (w : Go.World), Go.Sem.run Go.Proofs.Tro.prog (Go.zeroValue 51) w = Go.Result.ok Go.Value.nilFunc w := fun w => by kernel_rfl
@[simp] theorem Tro.zeroValue52 : ∀ (w : Go.World), Go.Sem.run Go.Proofs.Tro.prog (Go.zeroValue 52) w = Go.Result.ok Go.Value.nilFunc w := fun w => by kernel_rfl
@[simp] theorem Tro.zeroValue53 : ∀ (w : Go.World), Go.Sem.run Go.Proofs.Tro.prog (Go.zeroValue 53) w = Go.Result.ok Go.Value.nilFunc w := fun w => by kernel_rfl
@[simp] theorem Tro.zeroValue54 : ∀ (w : Go.World), Go.Sem.run Go.Proofs.Tro.prog (Go.zeroValue 54) w = Go.Result.ok Go.Value.nilFunc w := fun w => by kernel_rfl
@[simp] theorem Tro.zeroValue55 : ∀ (w : Go.World), Go.Sem.run Go.Proofs.Tro.prog (Go.zeroValue 55) w = Go.Result.ok Go.Value.nilFunc w := fun w => by kernel_rfl
@[simp] theorem Tro.zeroValue56 : ∀ (w : Go.World), Go.Sem.run Go.Proofs.Tro.prog (Go.zeroValue 56) w = Go.Result.ok Go.Value.nilFunc w := fun w => by kernel_rfl
@[simp] theorem Tro.zeroValue57 : ∀ (w : Go.World), Go.Sem.run Go.Proofs.Tro.prog (Go.zeroValue 57) w = Go.Result.ok (Go.Value.slice Option.none 0 0) w := fun w => by kernel_rfl
@[simp] theorem Tro.zeroValue58 : ∀ (w : Go.World), Go.Sem.run Go.Proofs.Tro.prog (Go.zeroValue 58) w = Go.Result.ok Go.Value.nilFunc w := fun w => by kernel_rfl
@[simp] theorem Tro.zeroValue59 : ∀ (w : Go.World), Go.Sem.run Go.Proofs.Tro.prog (Go.zeroValue 59) w = Go.Result.ok Go.Value.nilFunc w := fun w => by kernel_rfl
@[simp] theorem Tro.zeroValue60 : ∀ (w : Go.World), Go.Sem.run Go.Proofs.Tro.prog (Go.zeroValue 60) w = Go.Result.ok Go.Value.nilFunc w := fun w => by kernel_rfl
@[simp] theorem Tro.zeroValue61 : ∀ (w : Go.World), Go.Sem.run Go.Proofs.Tro.prog (Go.zeroValue 61) w = Go.Result.ok (Go.Value.agg #[Go.Value.slice Option.none 0 0, Go.Value.int Go.IntKind.i64 0]) w := fun w => by kernel_rfl
@[simp] theorem Tro.zeroValue62 : ∀ (w : Go.World), Go.Sem.run Go.Proofs.Tro.prog (Go.zeroValue 62) w = Go.Result.ok (Go.Value.agg #[Go.Value.slice Option.none 0 0, Go.Value.int Go.IntKind.i64 0]) w := fun w => by kernel_rfl
@[simp] theorem Tro.zeroValue63 : ∀ (w : Go.World), Go.Sem.run Go.Proofs.Tro.prog (Go.zeroValue 63) w = Go.Result.ok Go.Value.nilFunc w := fun w => by kernel_rfl
@[simp] theorem Tro.zeroValue64 : ∀ (w : Go.World), Go.Sem.run Go.Proofs.Tro.prog (Go.zeroValue 64) w = Go.Result.ok (Go.Value.chan Option.none) w := fun w => by kernel_rfl
@[simp] theorem Tro.zeroValue65 : ∀ (w : Go.World), Go.Sem.run Go.Proofs.Tro.prog (Go.zeroValue 65) w = Go.Result.ok Go.Value.nilFunc w := fun w => by kernel_rfl
@[simp] theorem Tro.zeroValue66 : ∀ (w : Go.World), Go.Sem.run Go.Proofs.Tro.prog (Go.zeroValue 66) w = Go.Result.ok Go.Value.nilFunc w := fun w => by kernel_rfl
@[simp] theorem Tro.zeroValue67 : ∀ (w : Go.World), Go.Sem.run Go.Proofs.Tro.prog (Go.zeroValue 67) w = Go.Result.ok Go.Value.nilFunc w := fun w => by kernel_rfl
@[simp] theorem Tro.zeroValue68 : ∀ (w : Go.World), Go.Sem.run Go.Proofs.Tro.prog (Go.zeroValue 68) w = Go.Result.ok Go.Value.nilFunc w := fun w => by kernel_rfl
@[simp] theorem Tro.zeroValue69 : ∀ (w : Go.World), Go.Sem.run Go.Proofs.Tro.prog (Go.zeroValue 69) w = Go.Result.ok Go.Value.nilFunc w := fun w => by kernel_rfl
@[simp] theorem Tro.zeroValue70 : ∀ (w : Go.World), Go.Sem.run Go.Proofs.Tro.prog (Go.zeroValue 70) w = Go.Result.ok Go.Value.nilFunc w := fun w => by kernel_rfl
@[simp] theorem Tro.zeroValue71 : ∀ (w : Go.World), Go.Sem.run Go.Proofs.Tro.prog (Go.zeroValue 71) w = Go.Result.ok Go.Value.nilFunc w := fun w => by kernel_rfl
@[simp] theorem Tro.zeroValue72 : ∀ (w : Go.World), Go.Sem.run Go.Proofs.Tro.prog (Go.zeroValue 72) w = Go.Result.ok (Go.Value.int Go.IntKind.u64 0) w := fun w => by kernel_rfl
@[simp] theorem Tro.zeroValue73 : ∀ (w : Go.World), Go.Sem.run Go.Proofs.Tro.prog (Go.zeroValue 73) w = Go.Result.ok (Go.Value.chan Option.none) w := fun w => by kernel_rfl
@[simp] theorem Tro.zeroValue74 : ∀ (w : Go.World), Go.Sem.run Go.Proofs.Tro.prog (Go.zeroValue 74) w = Go.Result.ok Go.Value.nilFunc w := fun w => by kernel_rfl
@[simp] theorem Tro.zeroValue75 : ∀ (w : Go.World), Go.Sem.run Go.Proofs.Tro.prog (Go.zeroValue 75) w = Go.Result.ok Go.Value.nilFunc w := fun w => by kernel_rfl
@[simp] theorem Tro.zeroValue76 : ∀ (w : Go.World), Go.Sem.run Go.Proofs.Tro.prog (Go.zeroValue 76) w = Go.Result.ok (Go.Value.int Go.IntKind.u32 0) w := fun w => by kernel_rfl
@[simp] theorem Tro.zeroValue77 : ∀ (w : Go.World), Go.Sem.run Go.Proofs.Tro.prog (Go.zeroValue 77) w = Go.Result.ok Go.Value.nilFunc w := fun w => by kernel_rfl
@[simp] theorem Tro.zeroValue78 : ∀ (w : Go.World), Go.Sem.run Go.Proofs.Tro.prog (Go.zeroValue 78) w = Go.Result.ok (Go.Value.int Go.IntKind.u64 0) w := fun w => by kernel_rfl
@[simp] theorem Tro.zeroValue79 : ∀ (w : Go.World), Go.Sem.run Go.Proofs.Tro.prog (Go.zeroValue 79) w = Go.Result.ok Go.Value.nilFunc w := fun w => by kernel_rfl
@[simp] theorem Tro.zeroValue80 : ∀ (w : Go.World), Go.Sem.run Go.Proofs.Tro.prog (Go.zeroValue 80) w = Go.Result.ok (Go.Value.int Go.IntKind.i64 0) w := fun w => by kernel_rfl
@[simp] theorem Tro.zeroValue81 : ∀ (w : Go.World), Go.Sem.run Go.Proofs.Tro.prog (Go.zeroValue 81) w = Go.Result.ok (Go.Value.tuple #[Go.Value.int Go.IntKind.i64 0, Go.Value.int Go.IntKind.i64 0]) w := fun w => by kernel_rfl
@[simp] theorem Tro.zeroValue82 : ∀ (w : Go.World), Go.Sem.run Go.Proofs.Tro.prog (Go.zeroValue 82) w = Go.Result.ok Go.Value.nilFunc w := fun w => by kernel_rfl
@[simp] theorem Tro.zeroValue83 : ∀ (w : Go.World), Go.Sem.run Go.Proofs.Tro.prog (Go.zeroValue 83) w = Go.Result.ok Go.Value.nilFunc w := fun w => by kernel_rfl
@[simp] theorem Tro.zeroValue84 : ∀ (w : Go.World), Go.Sem.run Go.Proofs.Tro.prog (Go.zeroValue 84) w = Go.Result.ok Go.Value.nilFunc w := fun w => by kernel_rfl
@[simp] theorem Tro.zeroValue85 : ∀ (w : Go.World), Go.Sem.run Go.Proofs.Tro.prog (Go.zeroValue 85) w = Go.Result.ok (Go.Value.tuple #[Go.Value.int Go.IntKind.i64 0, Go.Value.bool Bool.false]) w := fun w => by kernel_rfl
@[simp] theorem Tro.zeroValue86 : ∀ (w : Go.World), Go.Sem.run Go.Proofs.Tro.prog (Go.zeroValue 86) w = Go.Result.ok Go.Value.nilFunc w := fun w => by kernel_rfl
@[simp] theorem Tro.zeroValue87 : ∀ (w : Go.World), Go.Sem.run Go.Proofs.Tro.prog (Go.zeroValue 87) w = Go.Result.ok (Go.Value.int Go.IntKind.u64 0) w := fun w => by kernel_rfl
@[simp] theorem Tro.zeroValue88 : ∀ (w : Go.World), Go.Sem.run Go.Proofs.Tro.prog (Go.zeroValue 88) w = Go.Result.ok Go.Value.nilFunc w := fun w => by kernel_rfl
@[simp] theorem Tro.zeroValue89 : ∀ (w : Go.World), Go.Sem.run Go.Proofs.Tro.prog (Go.zeroValue 89) w = Go.Result.ok Go.Value.nilFunc w := fun w => by kernel_rfl
@[simp] theorem Tro.zeroValue90 : ∀ (w : Go.World), Go.Sem.run Go.Proofs.Tro.prog (Go.zeroValue 90) w = Go.Result.ok Go.Value.nilFunc w := fun w => by kernel_rfl
@[simp] theorem Tro.zeroValue91 : ∀ (w : Go.World), Go.Sem.run Go.Proofs.Tro.prog (Go.zeroValue 91) w = Go.Result.ok (Go.Value.pointer Option.none) w := fun w => by kernel_rfl
@[simp] theorem Tro.zeroValue92 : ∀ (w : Go.World), Go.Sem.run Go.Proofs.Tro.prog (Go.zeroValue 92) w = Go.Result.ok Go.Value.nilFunc w := fun w => by kernel_rfl
@[simp] theorem Tro.zeroValue93 : ∀ (w : Go.World), Go.Sem.run Go.Proofs.Tro.prog (Go.zeroValue 93) w = Go.Result.ok (Go.Value.pointer Option.none) w := fun w => by kernel_rfl
@[simp] theorem Tro.zeroValue94 : ∀ (w : Go.World), Go.Sem.run Go.Proofs.Tro.prog (Go.zeroValue 94) w = Go.Result.ok Go.Value.nilFunc w := fun w => by kernel_rfl
@[simp] theorem Tro.zeroValue95 : ∀ (w : Go.World), Go.Sem.run Go.Proofs.Tro.prog (Go.zeroValue 95) w = Go.Result.ok Go.Value.nilFunc w := fun w => by kernel_rfl
@[simp] theorem Tro.zeroValue96 : ∀ (w : Go.World), Go.Sem.run Go.Proofs.Tro.prog (Go.zeroValue 96) w = Go.Result.ok (Go.Value.agg #[Go.Value.pointer Option.none, Go.Value.pointer Option.none, Go.Value.pointer Option.none, Go.Value.string (ByteArray.mk #[])]) w := fun w => by kernel_rfl
@[simp] theorem Tro.zeroValue97 : ∀ (w : Go.World), Go.Sem.run Go.Proofs.Tro.prog (Go.zeroValue 97) w = Go.Result.ok (Go.Value.agg #[Go.Value.pointer Option.none, Go.Value.pointer Option.none, Go.Value.pointer Option.none, Go.Value.string (ByteArray.mk #[])]) w := fun w => by kernel_rfl
@[simp] theorem Tro.zeroValue98 : ∀ (w : Go.World), Go.Sem.run Go.Proofs.Tro.prog (Go.zeroValue 98) w = Go.Result.ok (Go.Value.agg #[]) w := fun w => by kernel_rfl
@[simp] theorem Tro.zeroValue99 : ∀ (w : Go.World), Go.Sem.run Go.Proofs.Tro.prog (Go.zeroValue 99) w = Go.Result.ok (Go.Value.agg #[]) w := fun w => by kernel_rfl
@[simp] theorem Tro.zeroValue100 : ∀ (w : Go.World), Go.Sem.run Go.Proofs.Tro.prog (Go.zeroValue 100) w = Go.Result.ok (Go.Value.agg #[]) w := fun w => by kernel_rfl
@[simp] theorem Tro.zeroValue101 : ∀ (w : Go.World), Go.Sem.run Go.Proofs.Tro.prog (Go.zeroValue 101) w = Go.Result.ok (Go.Value.int Go.IntKind.u8 0) w := fun w => by kernel_rfl
@[simp] theorem Tro.zeroValue102 : ∀ (w : Go.World), Go.Sem.run Go.Proofs.Tro.prog (Go.zeroValue 102) w = Go.Result.ok (Go.Value.int Go.IntKind.u8 0) w := fun w => by kernel_rfl
@[simp] theorem Tro.zeroValue103 : ∀ (w : Go.World), Go.Sem.run Go.Proofs.Tro.prog (Go.zeroValue 103) w = Go.Result.ok Go.Value.nilFunc w := fun w => by kernel_rfl
@[simp] theorem Tro.zeroValue104 : ∀ (w : Go.World), Go.Sem.run Go.Proofs.Tro.prog (Go.zeroValue 104) w = Go.Result.ok (Go.Value.pointer Option.none) w := fun w => by kernel_rfl
@[simp] theorem Tro.zeroValue105 : ∀ (w : Go.World), Go.Sem.run Go.Proofs.Tro.prog (Go.zeroValue 105) w = Go.Result.ok (Go.Value.int Go.IntKind.i32 0) w := fun w => by kernel_rfl
@[simp] theorem Tro.zeroValue106 : ∀ (w : Go.World), Go.Sem.run Go.Proofs.Tro.prog (Go.zeroValue 106) w = Go.Result.ok (Go.Value.int Go.IntKind.i32 0) w := fun w => by kernel_rfl
@[simp] theorem Tro.zeroValue107 : ∀ (w : Go.World), Go.Sem.run Go.Proofs.Tro.prog (Go.zeroValue 107) w = Go.Result.ok (Go.Value.agg #[Go.Value.int Go.IntKind.u64 0, Go.Value.int Go.IntKind.u64 0, Go.Value.int Go.IntKind.u32 0, Go.Value.int Go.IntKind.u8 0, Go.Value.int Go.IntKind.u8 0, Go.Value.int Go.IntKind.u8 0, Go.Value.int Go.IntKind.u8 0, Go.Value.nilFunc, Go.Value.pointer Option.none, Go.Value.int Go.IntKind.i32 0, Go.Value.int Go.IntKind.i32 0]) w := fun w => by kernel_rfl
@[simp] theorem Tro.zeroValue108 : ∀ (w : Go.World), Go.Sem.run Go.Proofs.Tro.prog (Go.zeroValue 108) w = Go.Result.ok (Go.Value.agg #[Go.Value.int Go.IntKind.u64 0, Go.Value.int Go.IntKind.u64 0, Go.Value.int Go.IntKind.u32 0, Go.Value.int Go.IntKind.u8 0, Go.Value.int Go.IntKind.u8 0, Go.Value.int Go.IntKind.u8 0, Go.Value.int Go.IntKind.u8 0, Go.Value.nilFunc, Go.Value.pointer Option.none, Go.Value.int Go.IntKind.i32 0, Go.Value.int Go.IntKind.i32 0]) w := fun w => by kernel_rfl
@[simp] theorem Tro.zeroValue109 : ∀ (w : Go.World), Go.Sem.run Go.Proofs.Tro.prog (Go.zeroValue 109) w = Go.Result.ok (Go.Value.pointer Option.none) w := fun w => by kernel_rfl
noncomputable abbrev Tro.f0 := Try.f0
noncomputable abbrev Tro.f1 := Try.f1
noncomputable abbrev Tro.f2 := Try.f2
noncomputable abbrev Tro.f3 := Try.f3
noncomputable abbrev Tro.f4 := Try.f4
noncomputable abbrev Tro.f5 := Try.f5
noncomputable abbrev Tro.f6 := Try.f6
noncomputable abbrev Tro.f7 := Try.f7
noncomputable abbrev Tro.f8 := Try.f8
noncomputable abbrev Tro.f9 := Try.f9
noncomputable abbrev Tro.f10 := Try.f10
noncomputable abbrev Tro.f11 := Try.f11
noncomputable abbrev Tro.f12 := Try.f12
noncomputable abbrev Tro.f13 := Try.f13
noncomputable abbrev Tro.f14 := Try.f14
noncomputable abbrev Tro.f15 := Try.f15
noncomputable abbrev Tro.f16 := Try.f16
noncomputable abbrev Tro.f17 := Try.f17
noncomputable abbrev Tro.f18 := Try.f18
noncomputable abbrev Tro.f19 := Try.f19
noncomputable abbrev Tro.f20 := Try.f20
noncomputable abbrev Tro.f21 := Try.f21
noncomputable abbrev Tro.f22 := Try.f22
noncomputable abbrev Tro.f23 := Try.f23
noncomputable abbrev Tro.f24 := Try.f24
noncomputable abbrev Tro.f25 := Try.f25
noncomputable abbrev Tro.f26 := Try.f26
noncomputable abbrev Tro.f27 := Try.f27
noncomputable abbrev Tro.f28 := Try.f28
noncomputable abbrev Tro.f29 := Try.f29
noncomputable abbrev Tro.f30 := Try.f30
noncomputable abbrev Tro.f31 := Try.f31
noncomputable abbrev Tro.f32 := Try.f32
noncomputable abbrev Tro.f33 := Try.f33
noncomputable abbrev Tro.f34 := Try.f34
noncomputable abbrev Tro.f35 := Try.f35
noncomputable abbrev Tro.f36 := Try.f36
noncomputable abbrev Tro.f37 := Try.f37
noncomputable abbrev Tro.f38 := Try.f38
noncomputable abbrev Tro.f39 := Try.f39
noncomputable abbrev Tro.f40 := Try.f40
noncomputable abbrev Tro.f41 := Try.f41
noncomputable abbrev Tro.f43 := Try.f43
noncomputable abbrev Tro.f44 := Try.f44
noncomputable abbrev Tro.f45 := Try.f45
noncomputable abbrev Tro.f46 := Try.f46
noncomputable abbrev Tro.f47 := Try.f47
noncomputable abbrev Tro.f48 := Try.f48
noncomputable abbrev Tro.f49 := Try.f49
noncomputable abbrev Tro.f50 := Try.f50
noncomputable abbrev Tro.f51 := Try.f51
noncomputable abbrev Tro.f52 := Try.f52
noncomputable abbrev Tro.f53 := Try.f53
noncomputable abbrev Tro.f54 := Try.f54
noncomputable abbrev Tro.f55 := Try.f55
noncomputable abbrev Tro.f56 := Try.f56
noncomputable abbrev Tro.f57 := Try.f57
noncomputable abbrev Tro.f58 := Try.f58
noncomputable abbrev Tro.f59 := Try.f59
noncomputable abbrev Tro.f60 := Try.f60
noncomputable abbrev Tro.f61 := Try.f61
noncomputable abbrev Tro.f62 := Try.f62
noncomputable abbrev Tro.f63 := Try.f63
noncomputable abbrev Tro.f64 := Try.f64
noncomputable abbrev Tro.f65 := Try.f65
noncomputable abbrev Tro.f66 := Try.f66
noncomputable abbrev Tro.f67 := Try.f67
noncomputable abbrev Tro.f68 := Try.f68
noncomputable abbrev Tro.f69 := Try.f69
noncomputable abbrev Tro.f70 := Try.f70
noncomputable abbrev Tro.f71 := Try.f71
noncomputable abbrev Tro.f72 := Try.f72
noncomputable abbrev Tro.f73 := Try.f73
noncomputable abbrev Tro.f74 := Try.f74
noncomputable abbrev Tro.f75 := Try.f75
noncomputable abbrev Tro.f76 := Try.f76
noncomputable abbrev Tro.f77 := Try.f77
noncomputable abbrev Tro.f78 := Try.f78
noncomputable abbrev Tro.f79 := Try.f79
noncomputable abbrev Tro.f80 := Try.f80
noncomputable abbrev Tro.f81 := Try.f81
noncomputable abbrev Tro.f82 := Try.f82
noncomputable abbrev Tro.f83 := Try.f83
noncomputable abbrev Tro.f84 := Try.f84
noncomputable abbrev Tro.f85 := Try.f85
noncomputable abbrev Tro.f86 := Try.f86
noncomputable abbrev Tro.f87 := Try.f87
noncomputable abbrev Tro.f88 := Try.f88
noncomputable abbrev Tro.f89 := Try.f89
noncomputable abbrev Tro.f90 := Try.f90
noncomputable abbrev Tro.f91 := Try.f91
noncomputable abbrev Tro.f92 := Try.f92
noncomputable abbrev Tro.f93 := Try.f93
noncomputable abbrev Tro.f94 := Try.f94
noncomputable abbrev Tro.f95 := Try.f95
noncomputable abbrev Tro.f96 := Try.f96
noncomputable abbrev Tro.f97 := Try.f97
noncomputable abbrev Tro.f98 := Try.f98
noncomputable abbrev Tro.f99 := Try.f99
noncomputable abbrev Tro.f100 := Try.f100
noncomputable abbrev Tro.f101 := Try.f101
noncomputable abbrev Tro.f102 := Try.f102
noncomputable abbrev Tro.f103 := Try.f103
noncomputable abbrev Tro.f104 := Try.f104
noncomputable abbrev Tro.f105 := Try.f105
noncomputable abbrev Tro.f106 := Try.f106
noncomputable abbrev Tro.f107 := Try.f107
noncomputable abbrev Tro.f108 := Try.f108
noncomputable abbrev Tro.f109 := Try.f109
noncomputable abbrev Tro.f110 := Try.f110
noncomputable abbrev Tro.f111 := Try.f111
noncomputable abbrev Tro.f112 := Try.f112
noncomputable abbrev Tro.f113 := Try.f113
noncomputable abbrev Tro.f114 := Try.f114
noncomputable abbrev Tro.f115 := Try.f115
noncomputable abbrev Tro.f116 := Try.f116
noncomputable abbrev Tro.f117 := Try.f117
noncomputable abbrev Tro.f118 := Try.f118
noncomputable abbrev Tro.f119 := Try.f119
noncomputable abbrev Tro.f120 := Try.f120
noncomputable abbrev Tro.f121 := Try.f121
noncomputable abbrev Tro.f122 := Try.f122
noncomputable abbrev Tro.f123 := Try.f123
end Go.Proofs
