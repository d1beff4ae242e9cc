import Derived.Test.YtkcneleabbjkaaaA21
import Derived.Test.YtkcneleabbjkaaaSw10
set_option linter.unusedVariables false
set_option linter.unusedSimpArgs false
namespace Go.Proofs.Ytkcneleabbjkaaa
open Go Go.RowKit Go.Sw Go.Ech
open Classical
theorem Nu (a p:Int):p∣a%p - a:=⟨-(a / p),by rw [Int.emod_def,Int.mul_neg];omega⟩
theorem Nt {p a b:Nat}(h:(p:Int)∣(a:Int) - (b:Int))(ha:a<p)(hb:b<p):a=b:=by
  have h6:=(Int.emod_eq_emod_iff_emod_sub_eq_zero).2 (Int.emod_eq_zero_of_dvd h);rw [Int.emod_eq_of_lt (by omega) (by omega),Int.emod_eq_of_lt (by omega) (by omega)] at h6
  omega
def fV (p:Nat) (f x:Nat->Nat):Nat:=sumTo (fun i=>x i*f i) 6%p
theorem Qf {p n:Nat}{f x:Nat->Nat}(hn:n<=6)(hx:∀ c,n<=c->c<6->x c=0):(p:Int)∣(fV p f x:Int) - fI n f (ci x):=by
  unfold fV
  rw [Int.natCast_emod];refine Bl (Nu _ _) (D7 ?_);rw [Dw,HQ hn (fun c h1 h2=>by rw [hx c h1 h2];simp)];exact Aw fun c _=>by unfold ci;rw [Int.natCast_mul,Int.mul_comm]
theorem Eu {p n:Nat}{T:Nat->Nat->Nat->Nat}{f:Nat->Nat}(hn:n<=6)(hJ:∀ i j k,n<=k->T i j k=0){i k:Nat}(hk:k<n):(p:Int)∣(formM p n T f i k:Int) - fI n f (fun c=>(T i k c:Int)):=by
  have e:formM p n T f i k=fV p f (T i k):=by unfold formM fV;rw [if_pos hk]
  rw [e];exact Qf hn (fun c h _=>hJ i k c h)
theorem PK {n:Nat}{T:Nat->Nat->Nat->Nat}(hn:n<=6)(h:KD T):PS n T:=fun i hi j hj k hk=>by
  rcases Nat.lt_trichotomy i j with e | e | e
  . exact (h j (by omega) i e k (by omega)).symm
  . rw [e]
  . exact h i (by omega) j e k (by omega)
theorem Ph (i:Nat):ci (fun c=>if c=i then 1 else 0)=fun c=>(dl i c:Int):=funext fun c=>by unfold ci;exact congrArg (fun q:Nat=>(q:Int)) MY
section
variable {P N : Int} {T U : Nat -> Nat -> Nat -> Nat} {f uu : Nat -> Nat} {p n : Nat}
theorem Good.p0 (G:Good P N T f p n U uu):0<p:=by have:=G.hp.two;omega
end
def OkG (P N:Int) (T:Nat->Nat->Nat->Nat) (f:Nat->Nat) (x r e:Int):Prop:=(e≠0->r=0)/\(e=0->∃ uu:Nat->Nat,(∀ w,CallsR Try.prog 14 #[.agg (AD P N T f)] w (fun u _=>u = .tuple #[.agg (AQ uu),.int .i64 0]))/\(∀ c,uu c<=255)/\(∀ w b,Blk w b (Gj 2 (Cj [uu,uu]))->CallsR Try.prog 72 #[.agg (AD P N T f),.int .i64 x,.slice (some ⟨b,0,none⟩) 2 2] w (fun u _=>u = .tuple #[.int .i64 r,.int .i64 0]))/\(∀ w,CallsR Try.prog 69 #[.agg (AD P N T f),.int .i64 1] w (fun u _=>u = .tuple #[.int .i64 (N%P),.int .i64 0]))/\(2<=P/\P<=13)/\1<=N/\N<=6)
def R6 (P N:Int) (T:Nat->Nat->Nat->Nat) (f:Nat->Nat) (v:Nat->Nat) (r e:Int):Prop:=e=0->∃ y e2:Int,(∀ w b,Blk w b (Gj 1 (Cj [v]))->CallsR Try.prog 72 #[.agg (AD P N T f),.int .i64 1,.slice (some ⟨b,0,none⟩) 1 1] w (fun u _=>u = .tuple #[.int .i64 y,.int .i64 e2]))/\(e2=0->y=r)
def R5 (P N:Int) (T:Nat->Nat->Nat->Nat) (f:Nat->Nat) (v:Nat->Nat) (bb:Bool) (e:Int):Prop:=e=0->∃ (r:Nat->Nat) (e2:Int),(∀ w,CallsR Try.prog 17 #[.agg (AD P N T f),.agg (AQ v)] w (fun u _=>u = .tuple #[.agg (AQ r),.int .i64 e2]))/\bb=decide (e2=0)
def R2 (p n:Nat) (U:Nat->Nat->Nat->Nat) (f v:Nat->Nat) (i:Nat):Nat:=if i<n then fV p f (timesS p n U v (fun c=>if c=i then 1 else 0)) else f i
section
variable {P N : Int} {T U : Nat -> Nat -> Nat -> Nat} {f uu : Nat -> Nat} {p n : Nat}
end
def SE (P N:Int) (T:Nat->Nat->Nat->Nat) (f:Nat->Nat) (v:Nat->Nat) (D:Array Value) (e:Int):Prop:=e=0->∃ r:Nat->Nat,(∀ w,CallsR Try.prog 17 #[.agg (AD P N T f),.agg (AQ v)] w (fun u _=>u = .tuple #[.agg (AQ r),.int .i64 0]))/\(∀ w,CallsR Try.prog 78 #[.agg D,.agg (AQ r)] w (fun u _=>u = .tuple #[.agg (AD P N T f),.int .i64 0]))
def OG (fs:List Field) (t u v:TypeId):Bool:=match fs with
  | [f, g, h, k] => f.name != "_" && g.name != "_" && h.name != "_" && k.name != "_" && Nat.beq f.type t && Nat.beq g.type t && Nat.beq h.type u && Nat.beq k.type v && Nat.beq f.offset 0 && Nat.beq g.offset 1 && Nat.beq h.offset 2 && Nat.beq k.offset 218
  | _=>false
theorem Ew {P:Program}{d:Nat}{T t u v:TypeId}{p n:Int}{A:Nat->Nat->Nat->Nat}{f:Nat->Nat}(hu:P.underlying T=some (.struct (P.fieldsOf T)))(hp:P.stoodInHeld T=false)(hf:OG (P.fieldsOf T).toList t u v=true)(hi:Kr P t=true)(ho:FB P t=true)
    (hO:FY P u=some 216) (hT:Go.Sw.EqAt P (d+5) u (.agg (Cp A)) (.agg (Cp A)) (Pf A A)) (hZ:FY P v=some 6) (hv:Go.Sw.EqAt P (d+5) v (.agg (AQ f)) (.agg (AQ f)) (IA 6 f f)) :
    Go.Sw.EqAt P (d+6) T (.agg (AD p n A f)) (.agg (AD p n A f)) True:=by
  intro w;rw [run_equalIn_agg w (d+5) T _ _ hu hp]
  generalize (P.fieldsOf T).toList=fs at hf
  match fs,hf with
  | [f1, f2, f3, f4], hf =>
    simp only [OG,Bool.and_eq_true,bne_iff_ne,ne_eq,Nat.beq_eq_true_eq] at hf;obtain ⟨⟨⟨⟨⟨⟨⟨⟨⟨⟨⟨h1,h2⟩,h3⟩,h4⟩,t1⟩,t2⟩,t3⟩,t4⟩,o1⟩,o2⟩,o3⟩,o4⟩:=hf;have t1:=Nat.eq_of_beq_eq_true t1;have t2:=Nat.eq_of_beq_eq_true t2;have t3:=Nat.eq_of_beq_eq_true t3;have t4:=Nat.eq_of_beq_eq_true t4;have o1:=Nat.eq_of_beq_eq_true o1;have o2:=Nat.eq_of_beq_eq_true o2;have o3:=Nat.eq_of_beq_eq_true o3;have o4:=Nat.eq_of_beq_eq_true o4;have hq:=(CV ho w);have hg:=(DI hO w);have hH:=(DI hZ w);have e1:(part f1.type (AD p n A f) f1.offset).run P w = .ok (.int .i64 p) w:=by rw [t1,o1];simp [part,hq.1,BU (p:=p) (n:=n) (T:=A) (f:=f) rfl]
    have e2:(part f2.type (AD p n A f) f2.offset).run P w = .ok (.int .i64 n) w:=by rw [t2,o2];simp [part,hq.1,Ao (p:=p) (n:=n) (T:=A) (f:=f) rfl]
    have e3:(part f3.type (AD p n A f) f3.offset).run P w = .ok (.agg (Cp A)) w:=by rw [t3,o3];simp [part,hg.1,hg.2,Fv (p:=p) (n:=n) (T:=A) (f:=f) (o:=2) (e:=218) rfl rfl]
    have e4:(part f4.type (AD p n A f) f4.offset).run P w = .ok (.agg (AQ f)) w:=by rw [t4,o4];simp [part,hH.1,hH.2,EK (p:=p) (n:=n) (T:=A) (f:=f) (o:=218) (e:=224) rfl rfl]
    have k1:=Ii (P:=P) (d:=d+4) (T:=t) (k:=.i64) (A:=p) (B:=p) hi w;have k2:=Ii (P:=P) (d:=d+4) (T:=t) (k:=.i64) (A:=n) (B:=n) hi w;have k3:=hT w;have k4:=hv w;rw [decide_eq_true (show Pf A A from fun _ _ _ _ _ _=>rfl)] at k3;rw [decide_eq_true (show IA 6 f f from fun _ _=>rfl)] at k4;rw [← t1] at k1;rw [← t2] at k2;rw [← t3] at k3;rw [← t4] at k4
    simp [Op.eqFields,h1,h2,h3,h4,Sem.run_bind,e1,e2,e3,e4,Result.andThen_ok,k1,k2,k3,k4]
def R1 (p n:Nat) (T:Nat->Nat->Nat->Nat) (G:Nat->Nat->Nat) (v:Nat->Nat) (i:Nat):Nat->Nat:=timesV p n T (G i) v
def Rz (p n:Nat) (T:Nat->Nat->Nat->Nat) (G:Nat->Nat->Nat) (v:Nat->Nat) (k i l:Nat):Nat:=sumTo (fun k=>G k l*timesS p n T v (fun c=>if c=k then 1 else 0) i) k%p
def Ri (Z n:Nat) (W G:Nat->Nat->Nat) (xs:Nat->Value) (g:Nat):Array Value:=A1 Z (fun c=>if c<n*6 then .int .u8 (((if c / 6<g then W (c / 6) (c%6) else G (c / 6) (c%6):Nat)):Int) else xs c)
theorem AW {Z n g:Nat}{W G:Nat->Nat->Nat}{xs:Nat->Value}:(Ri Z n W G xs g).size=Z:=BM _ _
end Go.Proofs.Ytkcneleabbjkaaa
